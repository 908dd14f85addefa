/-
  slices.Delete of one message, by contract.
-/
import Derived.Test.YtnfmhcljncdkgaaNetMem
import Derived.Deep.RegionLaw
namespace Go.Proofs.Ytnfmhcljncdkgaa
open Go.RowKit
def z3 : List Value := [.int .i64 0, .int .i64 0, .string ⟨#[]⟩]
theorem zero59 : (Builtin.zeroCells (Value.agg #[.int .i64 0, .int .i64 0, .string ⟨#[]⟩]).cells 1).toList = z3 := by kernel_rfl
theorem info59 : (Try.prog.info? 59).map (fun i => (i.zero, i.size, i.bytes)) = some (some (.agg #[.int .i64 0, .int .i64 0, .string ⟨#[]⟩]), 3, 32) := by kernel_rfl
/-- The cells behind the copy. -/
theorem del_copy {w : World} {g : Nat} {A B : List Mg} {m : Mg} {rest : List Value} (h : Cw w g (flL (A ++ m :: B) ++ rest) 59) : ∃ x3 : List Value, x3.length = 3 ∧ Cw (w.setCells g (A.length * 3) (flL B)) g (flL (A ++ B) ++ x3 ++ rest) 59 := by
  obtain ⟨T, hT⟩ : ∃ T, T = ltC m ++ flL B := ⟨_, rfl⟩
  have hTl : T.length = (flL B).length + 3 := by rw [hT, List.length_append]; simp [ltC]; omega
  refine ⟨T.drop (flL B).length, by rw [List.length_drop]; omega, ?_⟩
  have h' : Cw w g (flL A ++ T.take (flL B).length ++ (T.drop (flL B).length ++ rest)) 59 := by
    have e : flL (A ++ m :: B) ++ rest = flL A ++ T.take (flL B).length ++ (T.drop (flL B).length ++ rest) := by
      rw [flL_app, flL_cons, ← hT]
      conv => lhs; rw [← List.take_append_drop (flL B).length T]
      simp only [List.append_assoc]
    rw [← e]; exact h
  have := setCells_mid g 59 (T.drop (flL B).length ++ rest) (flL B) (flL A) (T.take (flL B).length) w h' (by rw [List.length_take]; omega)
  rw [flL_len] at this
  rw [flL_app]
  simpa only [List.append_assoc] using this
theorem del_clear {w : World} {g : Nat} {C : List Mg} {x3 rest : List Value} (h : Cw w g (flL C ++ x3 ++ rest) 59) (h3 : x3.length = 3) : Cw (w.setCells g (C.length * 3) z3) g (flL C ++ (z3 ++ rest)) 59 := by
  have := setCells_mid g 59 rest z3 (flL C) x3 w h (by rw [h3]; rfl)
  rw [flL_len] at this
  simpa only [List.append_assoc] using this
set_option maxHeartbeats 4000000 in
set_option maxRecDepth 20000 in
theorem delete_any {w : World} {base : Nat} {v : Value} {A B : List Mg} {m : Mg} (h : Rm w base v (A ++ m :: B)) (hn : A.length + B.length ≤ 1024) :
    Calls Try.prog 36 #[v, .int .i64 (A.length : Int), .int .i64 ((A.length : Int) + 1)] w fun e w' => ∃ v', e = .returned v' ∧ Rm w' base v' (A ++ B) ∧ v'.ownBlock = v.ownBlock ∧ Gr (fun k => v.ownBlock = some k) w w' ∧ w'.heap.size = w.heap.size := by
  obtain ⟨g, cap, rest, rfl, hb, hc, hcl, hlen, hcm⟩ := h.spot (by simp)
  obtain ⟨x3, hx3, hc1⟩ := del_copy (w := w.drew) (h := (show Cw w.drew g _ 59 from hc))
  have hlA : (A ++ m :: B).length = A.length + B.length + 1 := by simp; omega
  have hlAB : (A ++ B).length = A.length + B.length := by simp
  rw [hlA] at hlen ⊢
  have hc2 := del_clear hc1 hx3
  rw [hlAB] at hc2
  have hfin : Rm ((w.drew.setCells g (A.length * 3) (flL B)).setCells g ((A.length + B.length) * 3) z3) base (.slice (some ⟨g, 0, none⟩) (A ++ B).length cap) (A ++ B) := by
    refine Rm.mk hb hc2 rfl ?_ (by rw [hlAB]; omega) hcm
    rw [List.length_append, flL_len, hlAB, List.length_append]
    rw [List.length_append, flL_len, hlA] at hcl
    simp only [z3, List.length_cons, List.length_nil]
    omega
  rw [hlAB] at hfin
  have hgr : Gr (fun k => (Value.slice (some ⟨g, 0, none⟩) (A.length + B.length + 1) cap).ownBlock = some k) w ((w.drew.setCells g (A.length * 3) (flL B)).setCells g ((A.length + B.length) * 3) z3) :=
    ((Gr.drew _ w).trans (Gr.setCells _ g _ _ (F := fun k => k = g) rfl) (fun k hk => Or.inl (by rw [hk]; rfl))).trans (Gr.setCells _ g _ _ (F := fun k => k = g) rfl) (fun k hk => Or.inl (by rw [hk]; rfl))
  have hsz : ((w.drew.setCells g (A.length * 3) (flL B)).setCells g ((A.length + B.length) * 3) z3).heap.size = w.heap.size := by
    rw [(setCells_rest _ _ _ _).2.2.2, (setCells_rest _ _ _ _).2.2.2]; rfl
  -- what the append asks
  obtain ⟨ad, had, hsrc⟩ : ∃ ad : Addr, (if cap = A.length + 1 then some (⟨g, 0, none⟩ : Addr) else some ⟨g, (A.length + 1) * 3, none⟩) = some ad ∧ Hid (∀ j u, (flL B)[j]? = some u → w.drew.cell? (ad.add j) = some u) := by
    by_cases c : cap = A.length + 1
    · refine ⟨⟨g, 0, none⟩, by simp [c], fun j u hu => ?_⟩
      have : B = [] := List.eq_nil_of_length_eq_zero (by omega)
      subst this
      cases hu
    · refine ⟨⟨g, (A.length + 1) * 3, none⟩, by simp [c], fun j u hu => ?_⟩
      rw [Addr.add_lit]
      show w.cell? _ = _
      rw [hc.cell]
      have e : flL (A ++ m :: B) ++ rest = (flL A ++ ltC m) ++ (flL B ++ rest) := by rw [flL_app, flL_cons]; simp only [List.append_assoc]
      have hl : (flL A ++ ltC m).length = (A.length + 1) * 3 := by rw [List.length_append, flL_len]; simp [ltC]; omega
      rw [e, List.getElem?_append_right (by omega), hl, Nat.add_sub_cancel_left, List.getElem?_append_left (List.getElem?_eq_some_iff.1 hu).1]
      exact hu
  have s1 : Hid ((flL B).length = B.length * 3) := flL_len B
  have s2 : Hid (∀ u ∈ flL B, u.oneCell' = true) := flL_one B
  have s3 : Hid (∀ t, t < (flL B).length → (w.drew.cell? ⟨g, 0 + A.length * 3 + t, none⟩).isSome = true ∧ w.drew.frozen? ⟨g, 0 + A.length * 3 + t, none⟩ = false) := by
    intro t ht
    rw [flL_len] at ht
    rw [List.length_append, flL_len, hlA] at hcl
    have hcl2 : (flL (A ++ m :: B) ++ rest).length = cap * 3 := by rw [List.length_append, flL_len, hlA]; exact hcl
    have := hc.thereAt (0 + A.length * 3) (B.length * 3) (by rw [hcl2]; omega) t ht
    exact this
  obtain ⟨i0, hi0, hz0, hz1, hz2⟩ := info_parts info59
  obtain ⟨W1, hW1⟩ : ∃ W1, W1 = w.drew.setCells g (0 + A.length * 3) (flL B) := ⟨_, rfl⟩
  have hW1' : W1 = w.drew.setCells g (A.length * 3) (flL B) := by rw [hW1, Nat.zero_add]
  have hcl3 : ∀ ty, (Builtin.clear_ #[54] ty #[.slice (some ⟨g, (A.length + B.length) * 3, none⟩) 1 (cap - (A.length + B.length))]).run Try.prog W1 = .ok (.tuple #[]) (W1.setCells g ((A.length + B.length) * 3) z3) := fun ty =>
    run_clear_row W1 54 59 ty _ Try.underlying54 Try.zeroValue59 g _ 1 _ (by decide) z3 zero59 (by intro u hu; simp only [z3, List.mem_cons, List.not_mem_nil, or_false] at hu; rcases hu with rfl | rfl | rfl <;> rfl)
      (by
        rw [hW1']
        refine Cw.thereAt hc1 _ _ ?_
        rw [List.length_append, List.length_append, flL_len, hlAB, hx3]
        simp only [z3, List.length_cons, List.length_nil]
        omega)
  have hW : Hid (W1 = w.drew.setCells g (0 + A.length * 3) (flL B)) := hW1
  have hWW : Hid (W1 = w.drew.setCells g (A.length * 3) (flL B)) := hW1'
  have hac : A.length ≤ cap := by omega
  have hac1 : A.length + 1 ≤ cap := by omega
  have hn1 : A.length + B.length + 1 ≤ 1025 := by omega
  have hne : ¬ (A.length : Int) = (A.length : Int) + 1 := by omega
  unfold maxLen at hcm
  rw [← hW1'] at hfin hgr hsz
  clear h hc hc1 hc2 hW1 hW1' hcl hlA hlAB hn
  generalize A.length = a at *
  generalize hBl : B.length = b at *
  have q1 : 0 ≤ (a : Int) + 1 := by omega
  have q2 : (a : Int) ≤ (a : Int) + (b : Int) := by omega
  have mixed : Try.prog.follows .mixedOrders = true := by kernel_rfl
  go_enter Try.func36, Try.ntmps36
  go_wp2_with fail
  go_region_law_o (refine step_append_room rfl (.tmp 22) (.tmp 25) 54 rfl 59 i0 3 Try.underlying54 hi0 hz1 g 0 a cap (by simp [Act.eval, Act.put]) ad b (cap - (a + 1)) (flL B) (by simp [Act.eval, Act.put]) s1.out hsrc.out s2.out (by omega) s3.out ?_; rw [← hW.out])
  have q3 : a + b ≤ cap := by omega
  have q4 : ¬ cap = a + b := by omega
  go_wp2_with fail
  go_ret
  exact ⟨_, rfl, hfin, rfl, hgr, hsz⟩
end Go.Proofs.Ytnfmhcljncdkgaa
