/-
  The program's Net: Drop, by contract; what the laws' known answers; messages of two rows of bytes.
-/
import Derived.Test.YtnfmhcljncdkgaaNetDelF
import Derived.Test.YtnfmhcljncdkgaaNetLate
import Derived.Test.YtnfmhcljncdkgaaPlayHelp
namespace Go.Proofs.Ytnfmhcljncdkgaa
open Go.RowKit
theorem drop_nil (w : World) (node : Int) : Calls Try.prog 22 #[.pointer none, .int .i64 node] w fun e w' => e = .returned (.int .i64 0) ∧ Below w.heap.size w w' := by
  go_enter Try.func22, Try.ntmps22
  go_wp2_with fail
  go_ret
  exact ⟨rfl, (Below.refl _ _).alloc (Nat.le_refl _) _⟩
set_option maxRecDepth 20000 in
set_option maxHeartbeats 2000000 in
theorem drop_any {w : World} {B nb : Nat} {v : Value} {L : List Mg} (h : Np w B nb v L) (node : Int) :
    Calls Try.prog 22 #[.pointer (some ⟨nb, 0, none⟩), .int .i64 node] w fun e w' => e = .returned (.int .i64 ((L.length : Int) - ((dropN L node).length : Int))) ∧ ∃ v', Nx w w' B nb v v' (dropN L node) := by
  have hle := h.le
  have hk : dropN L node = keepL node L := dropN_hit L node
  have hkl : (keepL node L).length ≤ L.length := List.length_filter_le _ _
  rw [hk]
  have n1 : Np (w.alloc (.cells #[.int .i64 node] 3)) B nb v L := h.alloc _
  have c1 : Cw (w.alloc (.cells #[.int .i64 node] 3)) w.heap.size [.int .i64 node] 3 := Cw.new w [_] 3
  have HD := hid_into (deletef_any n1.r c1 hle fun e => by have := (h.r.lt _ e).2; omega)
  have k1 := n1.slot
  have HF : Hid (∀ {w2 : World} {v' : Value}, Rm w2 B v' (keepL node L) → v'.ownBlock = v.ownBlock → Gr (fun k => v.ownBlock = some k) (w.alloc (.cells #[.int .i64 node] 3)) w2 → Nx w (w2.setCell ⟨nb, 0, none⟩ v') B nb v v' (keepL node L) ∧ w2.cell? ⟨nb, 0, none⟩ = some v ∧ w2.frozen? ⟨nb, 0, none⟩ = false ∧ (w2.setCell ⟨nb, 0, none⟩ v').cell? ⟨nb, 0, none⟩ = some v') := fun {w2 v'} hr ho hg => by
    have c2 := hg.cw n1.q n1.ne
    have hx := n1.store hg hr (fun k hk => Or.inl (ho ▸ hk)) (by omega)
    exact ⟨hx.pre (Gr.alloc _ _ _), by rw [c2.cell]; rfl, c2.frozen 0, hx.n.slot⟩
  obtain ⟨ao, cap, rfl⟩ := h.r.form
  clear h n1 c1 hk
  go_enter Try.func22, Try.ntmps22
  go_wp2_with (go_at_call 34; refine HD.out.mono ?_; rintro e w2 ⟨v', rfl, hr, ho, hg⟩; obtain ⟨hx, k2, f2, k3⟩ := HF.out hr ho hg; obtain ⟨ao', cap', rfl⟩ := hr.form)
  go_ret
  exact ⟨rfl, _, hx⟩
/-- Nothing but draws and new blocks. -/
theorem Np.below {w w' : World} {B nb : Nat} {v : Value} {L : List Mg} (h : Np w B nb v L) (hb : Below w.heap.size w w') : Np w' B nb v L := h.keep fun k hk => hb.block k (h.hi k hk)
theorem Nx.belowB {w w' : World} {B nb : Nat} {v v' : Value} {L : List Mg} (hB : B ≤ w.heap.size) (h0 : ∀ k, Nf nb v k → B ≤ k) (h : Nx w w' B nb v v' L) : Below B w w' := h.g.below hB h0
theorem gd_nil (a b : Int) : Gd ⟨a, b, []⟩ := ⟨fun z hz => (by cases hz), (by simp [maxLen])⟩
theorem bs_nil (w : World) : Bs w (.slice none 0 0) [] := Or.inl ⟨rfl, none, 0, rfl, by simp [maxLen], fun _ => rfl⟩
def kA : List Mg := [⟨1, 0, []⟩]
def kB : List Mg := [⟨1, 0, []⟩, ⟨2, 0, []⟩]
def kC : List Mg := [⟨2, 0, []⟩, ⟨1, 0, []⟩]
def kD : List Mg := [⟨1, 0, []⟩]
theorem send_k {w : World} {B nb : Nat} {v : Value} {L : List Mg} (a : Int) (L' : List Mg) (h : Np w B nb v L) (hB : B ≤ w.heap.size) (he : sendN L ⟨a, 0, []⟩ = L') : Calls Try.prog 11 #[.pointer (some ⟨nb, 0, none⟩), .agg #[.int .i64 a, .int .i64 0, .slice none 0 0]] w fun e w' => e = .returned (.bool (sendB L)) ∧ ∃ v', Np w' B nb v' L' ∧ B ≤ w'.heap.size ∧ Below B w w' := by
  refine (send_any h hB ⟨a, 0, []⟩ (bs_nil w)).mono ?_
  rintro e w' ⟨rfl, v', hx⟩
  exact ⟨rfl, v', he ▸ hx.n, Nat.le_trans hB hx.g.size, hx.belowB hB h.lo⟩
set_option maxRecDepth 20000 in
set_option maxHeartbeats 2000000 in
theorem known_any (w : World) : Calls Try.prog 25 #[] w fun e w' => e = .returned (.bool true) ∧ Below w.heap.size w w' := by
  have C0 := hid_into (new_any w)
  have CL : Hid (∀ {W : World} {nb : Nat} {v : Value}, Np W w.heap.size nb v kB → w.heap.size ≤ W.heap.size → Calls Try.prog 20 #[.pointer (some ⟨nb, 0, none⟩), .int .i64 0] W fun e w' => e = .returned (.bool true) ∧ ∃ v', Np w' w.heap.size nb v' kC ∧ w.heap.size ≤ w'.heap.size ∧ Below w.heap.size W w') := fun {W nb v} h hB => by
    refine (late_any h hB (by simp [kB]) 0).mono ?_
    rintro e w' ⟨rfl, v', hx⟩
    exact ⟨rfl, v', hx.n, Nat.le_trans hB hx.g.size, hx.belowB hB h.lo⟩
  have CG : Hid (∀ {W : World} {nb : Nat} {v : Value}, Np W w.heap.size nb v kC → w.heap.size ≤ W.heap.size → Calls Try.prog 15 #[.pointer (some ⟨nb, 0, none⟩), .int .i64 0] W fun e w' => ∃ ao n c, e = .returned (.tuple #[.agg #[.int .i64 2, .int .i64 0, .slice ao n c], .bool true]) ∧ ∃ v', Np w' w.heap.size nb v' kD ∧ w.heap.size ≤ w'.heap.size ∧ Below w.heap.size W w') := fun {W nb v} h hB => by
    refine (give_any h (by simp [kC]) (fun m hm => by simp only [kC, List.mem_cons, List.not_mem_nil, or_false] at hm; rcases hm with rfl | rfl <;> exact gd_nil _ _) 0).mono ?_
    rintro e w' ⟨m, v', ao, n, c, hm, rfl, hx, _⟩
    obtain rfl : (⟨2, 0, []⟩ : Mg) = m := Option.some.inj hm
    exact ⟨ao, n, c, rfl, v', hx.n, Nat.le_trans hB hx.g.size, hx.belowB hB h.lo⟩
  go_enter Try.func25, Try.ntmps25
  go_wp2_with (first
    | (go_at_call 9; refine C0.out.mono ?_; rintro e w1 ⟨nb, rfl, n1, hb1⟩; have z1 := hb1.size)
    | (go_at_call 11; have n1' := n1; clear n1; refine (send_k 1 kA n1' z1 rfl).mono ?_; rintro e w2 ⟨rfl, v2, n2, z2, hb2⟩)
    | (go_at_call 11; have n2' := n2; clear n2; refine (send_k 2 kB n2' z2 rfl).mono ?_; rintro e w3 ⟨rfl, v3, n3, z3, hb3⟩)
    | (go_at_call 20; refine (CL.out n3 z3).mono ?_; rintro e w4 ⟨rfl, v4, n4, z4, hb4⟩)
    | (go_at_call 15; refine (CG.out n4 z4).mono ?_; rintro e w5 ⟨ao, n, c, rfl, v5, n5, z5, hb5⟩)
    | (refine wpList_alloc_row rfl 25 rfl [.int .i64 0, .int .i64 0, .slice none 0 0] zero25 ?_; intro w6 d6 hb6 hs6; have n6 := n5.below hb6)
    | (have := d6; refine wpList_store_rw rfl 25 (.tmp 2) (.tmp 19) rfl w5.heap.size _ [.int .i64 2, .int .i64 0, .slice ao n c] _ (by rfl) (by rfl) d6 size25 rfl (msC_one _ _ _ _ _) ?_; intro w7 d7 ho7; have hb7 : Below w5.heap.size w5 w7 := ho7.belowTo hb6 (Nat.le_refl _); have n7 := n5.below hb7; clear d6; have e0 := d7.cell 0; simp only [List.getElem?_cons_zero] at e0)
    | (go_at_call 24; refine (len_any n7).mono ?_; rintro e w8 ⟨rfl, hw⟩; replace hw := hw.symm; subst hw))
  go_ret
  exact ⟨rfl, ((((hb1.trans hb2).trans hb3).trans hb4).trans hb5).trans (hb7.mono z5)⟩
end Go.Proofs.Ytnfmhcljncdkgaa
