/-
  What a frame makes of a state is a state.
-/
import Derived.Test.YtlknolbfhfcflaaVmS
namespace Go.Proofs.Ytlknolbfhfcflaa
open Go.RowKit
theorem runI_wf {fr i0 i1 : Int} {l : List Ii} (ho : Okp l) (hi : Ins3 fr i0 i1) : ∀ (k : Nat) (m m' : Mp) (p : Pm), p.Wf → Rep p m → runI fr i0 i1 l k m = some m' → ∃ p' : Pm, p'.Wf ∧ Rep p' m'
  | 0, m, m', p, hw, hr, h => by
    unfold runI at h
    by_cases e : l.length ≤ m.pc
    · rw [if_pos e] at h
      cases h
      exact ⟨p, hw, hr⟩
    · rw [if_neg e] at h
      cases h
  | k + 1, m, m', p, hw, hr, h => by
    cases hx : l[m.pc]? with
    | none =>
      rw [runI_end (k + 1) (List.getElem?_eq_none_iff.1 hx)] at h
      cases h
      exact ⟨p, hw, hr⟩
    | some x =>
      rw [runI_step k hx] at h
      have hmx := ho.may x (List.mem_of_getElem? hx)
      have hw2 : ({ p with pc := p.pc + 1 } : Pm).Wf := ⟨hw.cells, hw.cin, hw.stk, hw.sin, hw.high, hw.seed⟩
      have hA : Agree (opP fr i0 i1 l.length x { p with pc := p.pc + 1 }) (doI fr i0 i1 l.length x m) := by
        refine opP_agrees (m := m) ?_ hw2 hmx
        exact ⟨hr.cells, hr.seed, hr.over, hr.win, hr.st, by show p.pc + 1 - 1 = _; have := hr.pc; omega, hr.err⟩
      rcases hA with ⟨m2, e2, r2⟩ | ⟨e2, _⟩
      · rw [e2] at h
        exact runI_wf ho hi k m2 m' _ (opP_wf hw2 hmx ho.len hi) r2 h
      · rw [e2] at h
        cases h
theorem noS_wf : noS.Wf := ⟨rfl, by intro x hx; simp only [noS, zeros, List.mem_cons, List.not_mem_nil, or_false, or_self] at hx; subst hx; exact zero_in, by decide⟩
theorem stepF_wf (l : List Ii) (cap fuel : Int) (s : Sp) (i0 i1 : Int) (hs : s.Wf) (hi0 : 0 ≤ i0 ∧ i0 < 65536) (hi1 : 0 ≤ i1 ∧ i1 < 65536) : (stepF l cap fuel s i0 i1).1.Wf := by
  by_cases hE : stepE l cap fuel s = 0
  · rw [show stepF l cap fuel s i0 i1 = (stepS l cap fuel s i0 i1, 0) from if_pos hE]
    obtain ⟨hok, _, hcap, hf1, hf2, hfr0, hfr1, hov, hwin, _⟩ := stepE_ok hE
    have hI3 : Ins3 s.frame i0 i1 := ⟨⟨hfr0, by omega⟩, hi0, hi1⟩
    have ht : (ranS s (runI s.frame i0 i1 l fuel.toNat (startM s))).Wf := by
      cases hR : runI s.frame i0 i1 l fuel.toNat (startM s) with
      | none => exact hs
      | some m =>
        obtain ⟨p, hp, hr⟩ := runI_wf hok hI3 _ _ _ _ (pm0_wf hs) (pm0_rep hov hwin) hR
        rw [← ranS_rep hr hov hwin]
        exact ⟨hp.cells, hp.cin, hp.seed⟩
    show (endS cap (ranS s (runI s.frame i0 i1 l fuel.toNat (startM s)))).Wf
    unfold endS
    split <;> exact ⟨ht.cells, ht.cin, ht.seed⟩
  · rw [show stepF l cap fuel s i0 i1 = (noS, stepE l cap fuel s) from if_neg hE]
    exact noS_wf
end Go.Proofs.Ytlknolbfhfcflaa
