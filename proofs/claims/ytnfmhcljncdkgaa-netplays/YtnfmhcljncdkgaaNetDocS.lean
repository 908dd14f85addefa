/-
  The document's Net: Send, Twice, by contracts.
-/
import Derived.Test.YtnfmhcljncdkgaaNetDoc
import Derived.Test.YtnfmhcljncdkgaaNetLay
namespace Go.Proofs.Ytnfmhcljncdkgaa
open Go.RowKit
theorem gr_own {w w' : World} {v : Value} (h : w.grownBy w' v.ownBlock) : Gr (fun k => v.ownBlock = some k) w w' := Gr.grownBy h fun _ hk => hk
/-- A message behind the document's row, whose bytes are there already. -/
theorem rapp_one {w W : World} {B rb : Nat} {u : Value} {E : List De} (h : Dp w B rb u E) (hb : Below w.heap.size w W) (hB : B ≤ w.heap.size) (e : De) (hl : E.length < 1024) (hbs : Bs W e.v e.m.d)
    (hk : ∀ k, e.v.ownBlock = some k → B ≤ k ∧ k < W.heap.size ∧ k ≠ rb ∧ u.ownBlock ≠ some k) :
    ∃ ao' c' w3, Hid (∀ ty, (Builtin.append_ #[31, 31] ty #[u, .slice (some ⟨W.heap.size, 0, none⟩) 1 1]).run Try.prog (W.alloc (.cells #[.int .i64 e.m.fr, .int .i64 e.m.to, .slice e.ao e.n e.c] 25)) = .ok (.slice ao' (E.length + 1) c') w3) ∧
      w3.cell? ⟨rb, 0, none⟩ = some u ∧ w3.frozen? ⟨rb, 0, none⟩ = false ∧ Dp (w3.setCell ⟨rb, 0, none⟩ (.slice ao' (E.length + 1) c')) B rb (.slice ao' (E.length + 1) c') (E ++ [e]) ∧ Gr (Nf rb u) w (w3.setCell ⟨rb, 0, none⟩ (.slice ao' (E.length + 1) c')) ∧
      ∀ k, (Value.slice ao' (E.length + 1) c').ownBlock = some k → u.ownBlock = some k ∨ w.heap.size ≤ k := by
  obtain ⟨X, hX⟩ : ∃ X, X = W.alloc (.cells #[.int .i64 e.m.fr, .int .i64 e.m.to, .slice e.ao e.n e.c] 25) := ⟨_, rfl⟩
  have hXs : X.heap.size = W.heap.size + 1 := by rw [hX]; exact World.size_alloc _ _
  have hbX : Below w.heap.size w X := by rw [hX]; exact hb.alloc hb.size _
  have hX1 : Dp X B rb u E := h.below hbX
  have hbXs := hb.size
  obtain ⟨v', w3, hr, h2, h3, h4⟩ := Ax.Ro.app KD hX1.r ⟨W.heap.size, 0, none⟩ 1 [e] (by
    intro j x hu
    rw [Addr.add_lit, hX, cell_of_row _ _ _ _ _ _ (heap_alloc_new W _)]
    simpa [deC] using hu) (by simp; omega) (by omega)
  have hg := gr_own h3
  have ho : ∀ k, v'.ownBlock = some k → u.ownBlock = some k ∨ X.heap.size ≤ k := fun k hk2 => by
    rcases h4 with h5 | h5
    · exact Or.inl (by rw [← h5]; exact hk2)
    · rw [hk2] at h5
      have : k = X.heap.size := Option.some.inj h5
      exact Or.inr (by omega)
  have hst := hX1.store hg h2 ho (by rw [List.length_append]; simp; omega) (fun x hx => by
    rcases List.mem_append.1 hx with h1 | h1
    · exact Or.inl h1
    · obtain rfl : x = e := by simpa using h1
      refine Or.inr ⟨?_, fun k hk2 => ?_⟩
      · have hbs2 : Bs X x.v x.m.d := by rw [hX]; exact hbs.below ((Below.refl _ _).alloc (Nat.le_refl _) _) (Nat.le_refl _)
        exact hg.bs hbs2 fun k hk2 => (hk k hk2).2.2.2
      · obtain ⟨a1, a2, a3, a4⟩ := hk k hk2
        refine ⟨a1, by have := h3.size; omega, a3, fun e2 => ?_⟩
        rcases ho k e2 with h5 | h5
        · exact a4 h5
        · omega)
  obtain ⟨ao', c', hv, _⟩ := Ax.Ro.form h2
  rw [List.length_append, List.length_cons, List.length_nil] at hv
  subst hv
  have c3 := hg.cw hX1.q hX1.ne
  refine ⟨ao', c', w3, fun ty => by rw [← hX]; exact hr ty, by rw [c3.cell]; rfl, c3.frozen 0, hst.1, (Gr.of_below hbX (Nf rb u) fun k h1 h2 => by omega).trans hst.2 (fun k hk2 => Or.inl hk2), fun k hk2 => ?_⟩
  · rcases ho k hk2 with h5 | h5
    · exact Or.inl h5
    · exact Or.inr (by omega)
theorem mk_bs {m : Mg} {ao : Option Addr} {n c : Nat} : (De.mk m ao n c).v = .slice ao n c := rfl
set_option maxRecDepth 20000 in
set_option maxHeartbeats 2000000 in
theorem rsend_full {w : World} {B rb : Nat} {u s : Value} {E : List De} (h : Dp w B rb u E) (a b : Int) (hf : 1024 ≤ E.length) : Calls Try.prog 12 #[.pointer (some ⟨rb, 0, none⟩), .agg #[.int .i64 a, .int .i64 b, s]] w fun e w' => e = .returned (.bool false) ∧ Below w.heap.size w w' := by
  have c1 : Cw (w.alloc (.cells #[.int .i64 a, .int .i64 b, s] 25)) rb [u] 33 := h.q.alloc _
  have c2 := c1.cell 0
  simp only [List.getElem?_cons_zero] at c2
  obtain ⟨ao, cap, rfl, _⟩ := Ax.Ro.form h.r
  have f1 : (1024 : Int) ≤ (E.length : Int) := by omega
  clear h c1
  go_enter Try.func12, Try.ntmps12
  go_wp2_with fail
  go_ret
  exact ⟨rfl, (Below.refl _ _).alloc (Nat.le_refl _) _⟩
/-- own, and then the append. -/
theorem rs_facts {w w1 : World} {B rb : Nat} {u s : Value} {E : List De} {zs : List Int} (h : Dp w B rb u E) (hB : B ≤ w.heap.size) (a b : Int) (hs : Bs w s zs) (hz : zs.length ≤ 100000000000000) (hf : E.length < 1024) (hb : Below w.heap.size w w1) :
    Calls Try.prog 28 #[.agg #[.int .i64 a, .int .i64 b, s]] w1 fun r w2 => ∃ ao c ao' c' w3, r = .returned (.agg #[.int .i64 a, .int .i64 b, .slice ao zs.length c]) ∧ w2.cell? ⟨rb, 0, none⟩ = some u ∧ rb < w2.heap.size ∧
      Hid (∀ ty, (Builtin.append_ #[31, 31] ty #[u, .slice (some ⟨w2.heap.size, 0, none⟩) 1 1]).run Try.prog (w2.alloc (.cells #[.int .i64 a, .int .i64 b, .slice ao zs.length c] 25)) = .ok (.slice ao' (E.length + 1) c') w3) ∧
      w3.cell? ⟨rb, 0, none⟩ = some u ∧ w3.frozen? ⟨rb, 0, none⟩ = false ∧ Hid (Dx w (w3.setCell ⟨rb, 0, none⟩ (.slice ao' (E.length + 1) c')) B rb u (.slice ao' (E.length + 1) c') E (E ++ [⟨⟨a, b, zs⟩, ao, zs.length, c⟩])) := by
  refine (own_any a b (hs.below hb (Nat.le_refl _)) hz).mono ?_
  rintro r w2 ⟨ao, c, rfl, hbs, hb2, hk⟩
  have hb20 : Below w.heap.size w w2 := hb.trans (hb2.mono hb.size)
  have h2 := h.below hb20
  have hs1 := hb.size
  obtain ⟨ao', c', w3, hr, k3, f3, hd, hg, ho⟩ := rapp_one h hb20 hB ⟨⟨a, b, zs⟩, ao, zs.length, c⟩ hf hbs fun k hk2 => by
    obtain ⟨h3, h4⟩ := hk k hk2
    refine ⟨by omega, h4, fun e => ?_, fun e => ?_⟩
    · have := h.q.lt; omega
    · have := (h.r.lt k e).2; omega
  refine ⟨ao, c, ao', c', w3, rfl, h2.slot, h2.q.lt, hr, k3, f3, hd, hg, ho, fun e he => ?_⟩
  rcases List.mem_append.1 he with h1 | h1
  · exact Or.inl h1
  · obtain rfl : e = _ := by simpa using h1
    exact Or.inr fun k hk2 => by have := (hk k hk2).1; omega
set_option maxRecDepth 20000 in
set_option maxHeartbeats 2000000 in
theorem rsend_some {w : World} {B rb : Nat} {u s : Value} {E : List De} {zs : List Int} (h : Dp w B rb u E) (hB : B ≤ w.heap.size) (a b : Int) (hs : Bs w s zs) (hz : zs.length ≤ 100000000000000) (hf : E.length < 1024) :
    Calls Try.prog 12 #[.pointer (some ⟨rb, 0, none⟩), .agg #[.int .i64 a, .int .i64 b, s]] w fun e w' => e = .returned (.bool true) ∧ ∃ u' ao c, Dx w w' B rb u u' E (E ++ [⟨⟨a, b, zs⟩, ao, zs.length, c⟩]) := by
  have F : Hid (∀ w1, Below w.heap.size w w1 → _) := fun w1 hb => rs_facts (w1 := w1) h hB a b hs hz hf hb
  have FC : Hid (∀ w1, Below w.heap.size w w1 → w1.cell? ⟨rb, 0, none⟩ = some u) := fun w1 hb => (h.below hb).slot
  obtain ⟨uo, uc, rfl, _⟩ := Ax.Ro.form h.r
  obtain ⟨so, sc, rfl, _⟩ := hs.len
  have f1 : ¬ (1024 : Int) ≤ (E.length : Int) := by omega
  clear h hB hs hz hf
  go_enter Try.func12, Try.ntmps12
  go_wp2_with (refine wpList_box_row rfl 25 (.tmp 1) rfl [.int .i64 a, .int .i64 b, .slice so zs.length sc] (by rfl) ?_; intro w1 bx hb hs1; have k1 := FC.out w1 hb; have b0 := bx.cell 0; have b1 := bx.cell 1; have b2 := bx.cell 2; simp only [List.getElem?_cons_zero, List.getElem?_cons_succ] at b0 b1 b2)
  have HO := F.out w1.drew hb.drew
  have HO := hid_into HO
  go_region_law (first
    | (refine step_append_eq rfl 31 (.tmp 15) (.tmp 18) rfl _ _ _ (by rfl) (by rfl) HR.out ?_)
    | (go_simp; go_wp2_with (go_at_call 28; refine HO.out.mono ?_; rintro r w2 ⟨ao, c, ao', c', w3, rfl, k2, l2, HR, k3, f3, HF⟩)))
  all_goals (go_wp2_with fail; go_ret; exact ⟨rfl, _, _, _, HF.out⟩)
end Go.Proofs.Ytnfmhcljncdkgaa
