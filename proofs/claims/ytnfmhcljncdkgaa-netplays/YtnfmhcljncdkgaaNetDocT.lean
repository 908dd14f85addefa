/-
  The document's Net: Send whatever stands there, Twice, Late, Drop, by contracts.
-/
import Derived.Test.YtnfmhcljncdkgaaNetDocG
import Derived.Test.YtnfmhcljncdkgaaNetDrop
namespace Go.Proofs.Ytnfmhcljncdkgaa
open Go.RowKit
variable {w : World} {B rb : Nat} {u : Value} {E : List De}
theorem msD_len (E : List De) : (msD E).length = E.length := List.length_map _
/-- Send, whatever stands there. -/
theorem rsend_any (h : Dp w B rb u E) (hB : B ≤ w.heap.size) (m : Mg) {s : Value} (hs : Bs w s m.d) (hz : m.d.length ≤ 100000000000000) :
    Calls Try.prog 12 #[.pointer (some ⟨rb, 0, none⟩), .agg #[.int .i64 m.fr, .int .i64 m.to, s]] w fun e w' => e = .returned (.bool (sendB (msD E))) ∧ ∃ u' E', Dx w w' B rb u u' E E' ∧ msD E' = sendN (msD E) m := by
  unfold sendB sendN
  rw [msD_len]
  by_cases c : E.length < 1024
  · rw [decide_eq_true c, if_neg (by omega)]
    refine (rsend_some h hB m.fr m.to hs hz c).mono ?_
    rintro e w' ⟨rfl, u', ao, cc, hx⟩
    exact ⟨rfl, u', _, hx, by simp [msD]⟩
  · rw [decide_eq_false c, if_pos (by omega)]
    refine (rsend_full h m.fr m.to (by omega)).mono ?_
    rintro e w' ⟨rfl, hb⟩
    exact ⟨rfl, u, E, (Dx.same h).post hb, rfl⟩
theorem rlen0 (h : Dp w B rb u E) (hE : E = []) : ∃ ao c, u = .slice ao 0 c := by
  obtain ⟨ao, c, hv, _⟩ := Ax.Ro.form h.r
  rw [hE] at hv
  exact ⟨ao, c, hv⟩
set_option maxRecDepth 20000 in
set_option maxHeartbeats 2000000 in
theorem rgive_none (h : Dp w B rb u []) (pick : Int) : Calls Try.prog 16 #[.pointer (some ⟨rb, 0, none⟩), .int .i64 pick] w fun e w' => e = .returned (.tuple #[.agg #[.int .i64 0, .int .i64 0, .slice none 0 0], .bool false]) ∧ Below w.heap.size w w' := by
  obtain ⟨ao, c, rfl⟩ := rlen0 h rfl
  have HA : Hid (∀ W, Below w.heap.size w W → W.cell? ⟨rb, 0, none⟩ = some (.slice ao 0 c)) := fun W hb => (h.below hb).slot
  clear h
  go_enter Try.func16, Try.ntmps16
  go_wp2_with (first
    | (refine wpList_alloc_row rfl 25 rfl [.int .i64 0, .int .i64 0, .slice none 0 0] zero25 ?_; intro w1 c1 hb1 hs1; have k1 := HA.out w1 hb1)
    | (have := c1; refine wpList_store_rw rfl 25 (.tmp 4) (.tmp 14) rfl w.heap.size _ [.int .i64 0, .int .i64 0, .slice none 0 0] _ (by rfl) (by rfl) c1 size25 rfl (msC_one _ _ _ _ _) ?_; intro w6 c6 ho6)
    | fail)
  exact ret_row2 rfl (by rfl) rfl c6 Try.underlying25 rfl size25 ⟨rfl, ho6.belowTo hb1 (Nat.le_refl _)⟩
theorem rtwice_none (h : Dp w B rb u []) (pick : Int) : Calls Try.prog 19 #[.pointer (some ⟨rb, 0, none⟩), .int .i64 pick] w fun e w' => e = .returned (.bool false) ∧ w' = w := by
  obtain ⟨ao, c, rfl⟩ := rlen0 h rfl
  have k1 := h.slot
  clear h
  go_enter Try.func19, Try.ntmps19
  go_wp2_with fail
  go_ret
  exact ⟨rfl, rfl⟩
set_option maxRecDepth 20000 in
set_option maxHeartbeats 4000000 in
theorem rtwice_some {A C : List De} {e0 : De} (h : Dp w B rb u (A ++ e0 :: C)) (hB : B ≤ w.heap.size) (pick : Int) (hp : pkN pick (A ++ e0 :: C).length = A.length) (hz : e0.m.d.length ≤ 100000000000000) :
    Calls Try.prog 19 #[.pointer (some ⟨rb, 0, none⟩), .int .i64 pick] w fun e w' => e = .returned (.bool (sendB (msD (A ++ e0 :: C)))) ∧ ∃ u' E', Dx w w' B rb u u' (A ++ e0 :: C) E' ∧ msD E' = sendN (msD (A ++ e0 :: C)) e0.m := by
  have hle := h.le
  have hlA : (A ++ e0 :: C).length = A.length + C.length + 1 := by simp; omega
  rw [hlA] at hle hp
  have hd : Below w.heap.size w w.drew := (Below.refl _ _).drew
  have HO := hid_into (rsend_any (h.below hd) hB e0.m (s := e0.v) ((Sm.drewN w 1).bs (h.d e0 (by simp)).1) hz)
  have HX : Hid (∀ {w' : World} {u' : Value} {E' : List De}, Dx w.drew w' B rb u u' (A ++ e0 :: C) E' → Dx w w' B rb u u' (A ++ e0 :: C) E') := fun hx => hx.pre hd
  obtain ⟨g, cap, hv, _, _, hcap, hcm, _⟩ := Ax.Ro.spot h.r (by simp)
  rw [hlA] at hv hcap
  have hrem : max 0 pick % ((A.length + C.length + 1 : Nat) : Int) = (A.length : Int) := by
    have h1 : ((pkN pick (A.length + C.length + 1) : Nat) : Int) = (A.length : Int) := by rw [hp]
    rw [← h1]
    unfold pkN
    rw [Int.natCast_emod, show (((max 0 pick).toNat : Nat) : Int) = max 0 pick by omega]
  have htm : Int.tmod (max 0 pick) ((A.length + C.length + 1 : Nat) : Int) = (A.length : Int) := by
    rw [Int.tmod_eq_emod_of_nonneg (by omega)]; exact hrem
  subst hv
  have q1 : (A.length : Int) < ((A.length + C.length + 1 : Nat) : Int) := by omega
  have q2 : ¬ ((A.length + C.length + 1 : Nat) : Int) = 0 := by omega
  have q3 : ¬ A.length + C.length + 1 = 0 := by omega
  have q4 : A.length < A.length + C.length + 1 := by omega
  have hr := h.r
  rw [show A ++ e0 :: C = A ++ [e0] ++ C by simp] at hr
  have hc := Rd.part hr
  have m0 := hc 0 _ rfl
  have m1 := hc 1 _ rfl
  have m2 := hc 2 _ rfl
  rw [Nat.add_zero] at m0
  have k1 := h.slot
  clear h hlA hp hr hc
  unfold maxLen at hcm
  generalize hb0 : A.length + C.length + 1 = n at *
  generalize hb1 : A.length = k at *
  clear hb0 hb1
  go_enter Try.func19, Try.ntmps19
  go_wp2_with fail
  go_region_law (go_simp; go_wp2_with (go_at_call 12; refine HO.out.mono ?_; rintro e w1 ⟨rfl, u', E', hx, hm⟩))
  all_goals (go_wp2_with fail; go_ret; exact ⟨rfl, u', E', HX.out hx, hm⟩)
set_option maxRecDepth 20000 in
theorem rlate_none (h : Dp w B rb u []) (pick : Int) : Calls Try.prog 21 #[.pointer (some ⟨rb, 0, none⟩), .int .i64 pick] w fun e w' => e = .returned (.bool false) ∧ Below w.heap.size w w' := by
  have HG := hid_into (rgive_none h pick)
  clear h
  go_enter Try.func21, Try.ntmps21
  go_wp2_with (first
    | (go_at_call 16; refine HG.out.mono ?_; rintro e w1 ⟨rfl, hb1⟩))
  go_ret
  exact ⟨rfl, hb1.alloc hb1.size _⟩
set_option maxRecDepth 20000 in
set_option maxHeartbeats 4000000 in
theorem rlate_some {A C : List De} {e0 : De} (h : Dp w B rb u (A ++ e0 :: C)) (hB : B ≤ w.heap.size) (pick : Int) (hp : pkN pick (A ++ e0 :: C).length = A.length) :
    Calls Try.prog 21 #[.pointer (some ⟨rb, 0, none⟩), .int .i64 pick] w fun e w' => e = .returned (.bool true) ∧ ∃ u', Dx w w' B rb u u' (A ++ e0 :: C) (A ++ C ++ [e0]) := by
  have hle := h.le
  have hlA : (A ++ e0 :: C).length = A.length + C.length + 1 := by simp; omega
  rw [hlA] at hle
  have HG := hid_into (rgive_some h pick hp)
  have HF : Hid (∀ {w1 w3 : World} {u1 : Value}, Dx w w1 B rb u u1 (A ++ e0 :: C) (A ++ C) → Bs w1 e0.v e0.m.d → (∀ k, e0.v.ownBlock = some k → B ≤ k ∧ k < w.heap.size ∧ k ≠ rb ∧ u1.ownBlock ≠ some k) → Below w1.heap.size w1 w3 →
      ∃ uo uc ao' c' w4, u1 = .slice uo (A.length + C.length) uc ∧ w3.cell? ⟨rb, 0, none⟩ = some u1 ∧ rb < w3.heap.size ∧ Hid (∀ ty, (Builtin.append_ #[31, 31] ty #[u1, .slice (some ⟨w3.heap.size, 0, none⟩) 1 1]).run Try.prog (w3.drew.alloc (.cells #[.int .i64 e0.m.fr, .int .i64 e0.m.to, .slice e0.ao e0.n e0.c] 25)) = .ok (.slice ao' (A.length + C.length + 1) c') w4) ∧
        w4.cell? ⟨rb, 0, none⟩ = some u1 ∧ w4.frozen? ⟨rb, 0, none⟩ = false ∧ Hid (Dx w (w4.setCell ⟨rb, 0, none⟩ (.slice ao' (A.length + C.length + 1) c')) B rb u (.slice ao' (A.length + C.length + 1) c') (A ++ e0 :: C) (A ++ C ++ [e0]))) := by
    intro w1 w3 u1 hx hbs hk hb
    have h3 := hx.n.below hb
    have hBw : B ≤ w3.heap.size := Nat.le_trans hB (Nat.le_trans hx.g.size hb.size)
    obtain ⟨ao', c', w4, hr, k4, f4, hd, hg, ho⟩ := rapp_one h3 (W := w3.drew) ((Below.refl _ _).drew) hBw e0 (by rw [List.length_append]; omega) ((Sm.drewN w3 1).bs (hbs.below hb (Nat.le_refl _))) fun k hk2 => by
      obtain ⟨a1, a2, a3, a4⟩ := hk k hk2
      exact ⟨a1, by show k < w3.heap.size; have := hx.g.size; have := hb.size; omega, a3, a4⟩
    rw [List.length_append] at hr hd hg ho
    obtain ⟨uo, uc, hu, _⟩ := Ax.Ro.form h3.r
    rw [List.length_append] at hu
    refine ⟨uo, uc, ao', c', w4, hu, h3.slot, h3.q.lt, hr, k4, f4, hd, ?_, fun k hk2 => ?_, fun e he => ?_⟩
    · refine (hx.post hb).g.trans hg fun k hk2 => ?_
      rcases hk2 with rfl | hk2
      · exact Or.inl (Or.inl rfl)
      · rcases hx.o k hk2 with h5 | h5
        · exact Or.inl (Or.inr h5)
        · exact Or.inr h5
    · rcases ho k hk2 with h5 | h5
      · exact hx.o k h5
      · exact Or.inr (by have := hx.g.size; have := hb.size; omega)
    · rcases List.mem_append.1 he with h5 | h5
      · exact hx.od e h5
      · obtain rfl : e = e0 := by simpa using h5
        exact Or.inl (by simp)
  clear h hlA hp hB
  generalize A.length + C.length = n at *
  go_enter Try.func21, Try.ntmps21
  go_wp2_with (first
    | (go_at_call 16; refine HG.out.mono ?_; rintro e w1 ⟨rfl, u1, hx, hbs, hk⟩)
    | (refine wpList_alloc_row rfl 25 rfl [.int .i64 0, .int .i64 0, .slice none 0 0] zero25 ?_; intro w2 c2 hb2 hs2)
    | (have := c2; refine wpList_store_rw rfl 25 (.tmp 5) (.tmp 11) rfl w1.heap.size _ [.int .i64 e0.m.fr, .int .i64 e0.m.to, .slice e0.ao e0.n e0.c] _ (by rfl) (by rfl) c2 size25 rfl (msC_one _ _ _ _ _) ?_; intro w3 c3 ho3; have hb3 := ho3.belowTo hb2 (Nat.le_refl _); obtain ⟨uo, uc, ao', c', w4, rfl, k3, l3, HR, k4, f4, HX⟩ := HF.out hx hbs hk hb3; have b0 := c3.cell 0; have b1 := c3.cell 1; have b2 := c3.cell 2; simp only [List.getElem?_cons_zero, List.getElem?_cons_succ] at b0 b1 b2; clear c2 hx hbs hk))
  have b3 := c3.lt
  go_region_law (refine step_append_eq rfl 31 (.tmp 18) (.tmp 20) rfl _ _ _ (by rfl) (by rfl) HR.out ?_)
  all_goals (go_wp2_with fail; go_ret; exact ⟨rfl, _, HX.out⟩)
end Go.Proofs.Ytnfmhcljncdkgaa
