/-
  The document's Get whatever is asked, Known, Both.
-/
import Derived.Test.YtkjoadncbfhjfaaRGet
namespace Go.Proofs.Ytkjoadncbfhjfaa
open Go.RowKit
variable {w w' : World} {lo hi rb a0 a1 b0 b1 : Nat} {l0 l1 : List Pl}
theorem rget_no (b : Addr) (w : World) (p f : Int) (h : p < 0 ∨ 1 < p ∨ f < 0) : Calls Try.prog 13 #[.pointer (some b), .int .i64 p, .int .i64 f] w fun e w' => e = .returned (.tuple #[.int .u16 0, .bool false]) ∧ w' = w := by
  by_cases h1 : p < 0
  · clear h
    go_enter Try.func13, Try.ntmps13
    go_wp2_with fail
    go_ret2
    exact ⟨rfl, rfl⟩
  · by_cases h2 : 1 < p
    · clear h
      go_enter Try.func13, Try.ntmps13
      go_wp2_with fail
      go_ret2
      exact ⟨rfl, rfl⟩
    · have h3 : f < 0 := by omega
      clear h
      go_enter Try.func13, Try.ntmps13
      go_wp2_with fail
      go_ret2
      exact ⟨rfl, rfl⟩
theorem rget_anyR (h : Rq w lo hi rb a0 a1 b0 b1 l0 l1) (p f : Int) : Calls Try.prog 13 #[.pointer (some ⟨rb, 0, none⟩), .int .i64 p, .int .i64 f] w fun e w' => e = .returned (.tuple #[.int .u16 (getP (sel p l0 l1) f).1, .bool (getP (sel p l0 l1) f).2]) ∧ w' = w := by
  by_cases hp : p < 0 ∨ 1 < p
  · rw [sel_no hp, getP_nil]
    exact rget_no _ w p f (by omega)
  · by_cases hf : f < 0
    · rw [show ∀ l, getP l f = (0, false) from fun l => by simp [getP, hf]]
      exact rget_no _ w p f (by omega)
    · obtain ⟨k, rfl⟩ : ∃ k : Nat, f = (k : Int) := ⟨f.toNat, by omega⟩
      obtain rfl | rfl : p = 0 ∨ p = 1 := by omega
      · exact rgetR_0 h k
      · exact rgetR_1 h k
theorem rknown_no (b : Addr) (w : World) (p : Int) (h : p < 0 ∨ 1 < p) : Calls Try.prog 15 #[.pointer (some b), .int .i64 p] w fun e w' => e = .returned (.int .i64 0) ∧ w' = w := by
  by_cases h1 : p < 0
  · clear h
    go_enter Try.func15, Try.ntmps15
    go_wp2_with fail
    go_ret
    exact ⟨rfl, rfl⟩
  · have h2 : 1 < p := by omega
    clear h
    go_enter Try.func15, Try.ntmps15
    go_wp2_with fail
    go_ret
    exact ⟨rfl, rfl⟩
set_option maxHeartbeats 1000000 in
theorem rknownR_0 (h : Rq w lo hi rb a0 a1 b0 b1 l0 l1) : Calls Try.prog 15 #[.pointer (some ⟨rb, 0, none⟩), .int .i64 0] w fun e w' => e = .returned (.int .i64 (kn l0 : Int)) ∧ w' = w := by
  have hL : l0.length = l0.length := rfl
  have c0 := h.q.cell 0
  have cs := h.q.cell 3
  simp only [List.getElem?_cons_succ, List.getElem?_cons_zero, slR] at c0 cs
  have DS : Hid (∀ k, k < l0.length → w.cell? ⟨b0, k, none⟩ = some (.bool (at0 l0 k).2)) := fun k hk => (h.s0.cell _).trans (cellsB_at (by rw [hL]; exact hk))
  have hn2 := h.n2
  have HN : Hid (kn l0 ≤ l0.length) := by have := kn_le l0; show _ ≤ _; omega
  have HST : Hid (kn l0 < l0.length → (at0 l0 (kn l0)).2 = false) := fun hlt => kn_stop l0 (by omega)
  clear h hL
  generalize l0.length = n at *
  have hn3 : (n : Int) ≤ 600 := by omega
  go_enter Try.func15, Try.ntmps15
  go_wp2_with fail
  go_loopw [5] (fun x wr => ∃ k : Nat, Hid (k ≤ kn l0) ∧ x = .int .i64 (k : Int) ∧ w = wr) (fun x _ => n - (intOf x).toNat)
  case atStart => exact ⟨0, hid_into (Nat.zero_le _), rfl, rfl⟩
  case round =>
    obtain ⟨k, hk, rfl, rfl⟩ := hrel
    by_cases hlt : k < n
    · have d1 := DS.out k hlt
      have hlt2 : (k : Int) < (n : Int) := by omega
      cases hb : (at0 l0 k).2 with
      | true =>
        rw [hb] at d1
        have hk2 : Hid (k + 1 ≤ kn l0) := by
          show _ ≤ _
          have h1 := hk.out
          rcases Nat.lt_or_ge k (kn l0) with h2 | h2
          · exact h2
          · have h3 : k = kn l0 := by omega
            have h4 := HST.out (by omega)
            rw [← h3, hb] at h4; cases h4
        clear hb
        go_wp2_with fail
        go_roundw
        case rel => exact ⟨k + 1, hk2, by go_num, trivial⟩
        case measure => simp [intOf]; omega
      | false =>
        rw [hb] at d1
        have hk2 : Hid (kn l0 = k) := by
          show _ = _
          have h1 := hk.out
          rcases Nat.lt_or_ge k (kn l0) with h2 | h2
          · rw [kn_mark l0 k h2] at hb; cases hb
          · omega
        clear hb
        go_wp2_with fail
        go_ret
        rw [hk2.out]
        exact ⟨rfl, rfl⟩
    · have hk2 : Hid (kn l0 = k) := by
        show _ = _
        have h1 := hk.out
        have h2 := HN.out
        omega
      have hlt2 : ¬ (k : Int) < (n : Int) := by omega
      go_wp2_with fail
      go_ret
      rw [hk2.out]
      exact ⟨rfl, rfl⟩
set_option maxHeartbeats 1000000 in
theorem rknownR_1 (h : Rq w lo hi rb a0 a1 b0 b1 l0 l1) : Calls Try.prog 15 #[.pointer (some ⟨rb, 0, none⟩), .int .i64 1] w fun e w' => e = .returned (.int .i64 (kn l1 : Int)) ∧ w' = w := by
  have hL : l1.length = l0.length := h.len
  have c0 := h.q.cell 0
  have cs := h.q.cell 4
  simp only [List.getElem?_cons_succ, List.getElem?_cons_zero, slR] at c0 cs
  have DS : Hid (∀ k, k < l0.length → w.cell? ⟨b1, k, none⟩ = some (.bool (at0 l1 k).2)) := fun k hk => (h.s1.cell _).trans (cellsB_at (by rw [hL]; exact hk))
  have hn2 := h.n2
  have HN : Hid (kn l1 ≤ l0.length) := by have := kn_le l1; show _ ≤ _; omega
  have HST : Hid (kn l1 < l0.length → (at0 l1 (kn l1)).2 = false) := fun hlt => kn_stop l1 (by omega)
  clear h hL
  generalize l0.length = n at *
  have hn3 : (n : Int) ≤ 600 := by omega
  go_enter Try.func15, Try.ntmps15
  go_wp2_with fail
  go_loopw [5] (fun x wr => ∃ k : Nat, Hid (k ≤ kn l1) ∧ x = .int .i64 (k : Int) ∧ w = wr) (fun x _ => n - (intOf x).toNat)
  case atStart => exact ⟨0, hid_into (Nat.zero_le _), rfl, rfl⟩
  case round =>
    obtain ⟨k, hk, rfl, rfl⟩ := hrel
    by_cases hlt : k < n
    · have d1 := DS.out k hlt
      have hlt2 : (k : Int) < (n : Int) := by omega
      cases hb : (at0 l1 k).2 with
      | true =>
        rw [hb] at d1
        have hk2 : Hid (k + 1 ≤ kn l1) := by
          show _ ≤ _
          have h1 := hk.out
          rcases Nat.lt_or_ge k (kn l1) with h2 | h2
          · exact h2
          · have h3 : k = kn l1 := by omega
            have h4 := HST.out (by omega)
            rw [← h3, hb] at h4; cases h4
        clear hb
        go_wp2_with fail
        go_roundw
        case rel => exact ⟨k + 1, hk2, by go_num, trivial⟩
        case measure => simp [intOf]; omega
      | false =>
        rw [hb] at d1
        have hk2 : Hid (kn l1 = k) := by
          show _ = _
          have h1 := hk.out
          rcases Nat.lt_or_ge k (kn l1) with h2 | h2
          · rw [kn_mark l1 k h2] at hb; cases hb
          · omega
        clear hb
        go_wp2_with fail
        go_ret
        rw [hk2.out]
        exact ⟨rfl, rfl⟩
    · have hk2 : Hid (kn l1 = k) := by
        show _ = _
        have h1 := hk.out
        have h2 := HN.out
        omega
      have hlt2 : ¬ (k : Int) < (n : Int) := by omega
      go_wp2_with fail
      go_ret
      rw [hk2.out]
      exact ⟨rfl, rfl⟩
theorem rknown_anyR (h : Rq w lo hi rb a0 a1 b0 b1 l0 l1) (p : Int) : Calls Try.prog 15 #[.pointer (some ⟨rb, 0, none⟩), .int .i64 p] w fun e w' => e = .returned (.int .i64 (kn (sel p l0 l1) : Int)) ∧ w' = w := by
  by_cases hp : p < 0 ∨ 1 < p
  · rw [sel_no hp]
    exact rknown_no _ w p hp
  · obtain rfl | rfl : p = 0 ∨ p = 1 := by omega
    · exact rknownR_0 h
    · exact rknownR_1 h
theorem rBoth_any (h : Rq w lo hi rb a0 a1 b0 b1 l0 l1) : Calls Try.prog 17 #[.pointer (some ⟨rb, 0, none⟩)] w fun e w' => e = .returned (.int .i64 ((min (kn l0) (kn l1) : Nat) : Int)) ∧ w' = w := by
  have C0 := hid_into (rknownR_0 h)
  have C1 := hid_into (rknownR_1 h)
  clear h
  generalize kn l0 = A at *
  generalize kn l1 = C at *
  by_cases e : (C : Int) < (A : Int)
  · rw [Nat.min_eq_right (by omega)]
    go_enter Try.func17, Try.ntmps17
    go_wp2_with (first
      | (go_at_call_of 15 (Value.int .i64 0); refine C0.out.mono ?_; rintro e w1 ⟨rfl, hw1⟩; replace hw1 := hw1.symm; subst hw1)
      | (go_at_call 15; refine C1.out.mono ?_; rintro e w1 ⟨rfl, hw1⟩; replace hw1 := hw1.symm; subst hw1)
      | (go_at_call 15; refine C0.out.mono ?_; rintro e w1 ⟨rfl, hw1⟩; replace hw1 := hw1.symm; subst hw1))
    go_ret
    exact ⟨rfl, rfl⟩
  · rw [Nat.min_eq_left (by omega)]
    go_enter Try.func17, Try.ntmps17
    go_wp2_with (first
      | (go_at_call_of 15 (Value.int .i64 0); refine C0.out.mono ?_; rintro e w1 ⟨rfl, hw1⟩; replace hw1 := hw1.symm; subst hw1)
      | (go_at_call 15; refine C1.out.mono ?_; rintro e w1 ⟨rfl, hw1⟩; replace hw1 := hw1.symm; subst hw1)
      | (go_at_call 15; refine C0.out.mono ?_; rintro e w1 ⟨rfl, hw1⟩; replace hw1 := hw1.symm; subst hw1))
    go_ret
    exact ⟨rfl, rfl⟩
end Go.Proofs.Ytkjoadncbfhjfaa
