/-
  Joined from: RCheck.
-/
import Derived.Test.YtbfldcieibdapabGreatM03
section
/-
  The document's may and Check.
-/
namespace Go.Proofs.YtbfldcieibdapabGreat
open Go.RowKit
set_option maxRecDepth 20000 in
set_option maxHeartbeats 4000000 in
theorem rmay_any (o a n : Int) (w : World) : Calls Tryz.prog 37 #[.agg #[.int .i64 o, .int .i64 a], .int .i64 n] w fun e w' => e = .returned (.bool (mayI (o, a) n)) ∧ Below w.heap.size w w' := by
  have HA : Hid (Below w.heap.size w (w.alloc (.cells #[.int .i64 o, .int .i64 a] 66))) := (Below.refl _ _).alloc (Nat.le_refl _) _
  by_cases k1 : o = 1
  · subst k1
    by_cases h1 : -2147483648 ≤ a
    · by_cases h2 : a ≤ 2147483647
      · rw [show mayI (1, a) n = true by simp [mayI, opI, argI]; omega]
        go_enter Tryz.func37, Tryz.ntmps37
        go_wp2
        go_ret
        exact ⟨rfl, HA.out⟩
      · rw [show mayI (1, a) n = false by simp [mayI, opI, argI]; omega]
        go_enter Tryz.func37, Tryz.ntmps37
        go_wp2
        go_ret
        exact ⟨rfl, HA.out⟩
    · rw [show mayI (1, a) n = false by simp [mayI, opI, argI]; omega]
      go_enter Tryz.func37, Tryz.ntmps37
      go_wp2
      go_ret
      exact ⟨rfl, HA.out⟩
  have e1 : (o == 1) = false := by simp [k1]
  by_cases k2 : o = 2
  · subst k2
    by_cases h1 : 0 ≤ a
    · by_cases h2 : a < 16
      · rw [show mayI (2, a) n = true by simp [mayI, opI, argI]; omega]
        go_enter Tryz.func37, Tryz.ntmps37
        go_wp2
        go_ret
        exact ⟨rfl, HA.out⟩
      · rw [show mayI (2, a) n = false by simp [mayI, opI, argI]; omega]
        go_enter Tryz.func37, Tryz.ntmps37
        go_wp2
        go_ret
        exact ⟨rfl, HA.out⟩
    · rw [show mayI (2, a) n = false by simp [mayI, opI, argI]; omega]
      go_enter Tryz.func37, Tryz.ntmps37
      go_wp2
      go_ret
      exact ⟨rfl, HA.out⟩
  have e2 : (o == 2) = false := by simp [k2]
  by_cases k3 : o = 3
  · subst k3
    by_cases h1 : 0 ≤ a
    · by_cases h2 : a < 16
      · rw [show mayI (3, a) n = true by simp [mayI, opI, argI]; omega]
        go_enter Tryz.func37, Tryz.ntmps37
        go_wp2
        go_ret
        exact ⟨rfl, HA.out⟩
      · rw [show mayI (3, a) n = false by simp [mayI, opI, argI]; omega]
        go_enter Tryz.func37, Tryz.ntmps37
        go_wp2
        go_ret
        exact ⟨rfl, HA.out⟩
    · rw [show mayI (3, a) n = false by simp [mayI, opI, argI]; omega]
      go_enter Tryz.func37, Tryz.ntmps37
      go_wp2
      go_ret
      exact ⟨rfl, HA.out⟩
  have e3 : (o == 3) = false := by simp [k3]
  by_cases k18 : o = 18
  · subst k18
    by_cases h1 : 0 ≤ a
    · by_cases h2 : a ≤ n
      · rw [show mayI (18, a) n = true by simp [mayI, opI, argI]; omega]
        go_enter Tryz.func37, Tryz.ntmps37
        go_wp2
        go_ret
        exact ⟨rfl, HA.out⟩
      · rw [show mayI (18, a) n = false by simp [mayI, opI, argI]; omega]
        go_enter Tryz.func37, Tryz.ntmps37
        go_wp2
        go_ret
        exact ⟨rfl, HA.out⟩
    · rw [show mayI (18, a) n = false by simp [mayI, opI, argI]; omega]
      go_enter Tryz.func37, Tryz.ntmps37
      go_wp2
      go_ret
      exact ⟨rfl, HA.out⟩
  have e18 : (o == 18) = false := by simp [k18]
  by_cases k19 : o = 19
  · subst k19
    by_cases h1 : 0 ≤ a
    · by_cases h2 : a ≤ n
      · rw [show mayI (19, a) n = true by simp [mayI, opI, argI]; omega]
        go_enter Tryz.func37, Tryz.ntmps37
        go_wp2
        go_ret
        exact ⟨rfl, HA.out⟩
      · rw [show mayI (19, a) n = false by simp [mayI, opI, argI]; omega]
        go_enter Tryz.func37, Tryz.ntmps37
        go_wp2
        go_ret
        exact ⟨rfl, HA.out⟩
    · rw [show mayI (19, a) n = false by simp [mayI, opI, argI]; omega]
      go_enter Tryz.func37, Tryz.ntmps37
      go_wp2
      go_ret
      exact ⟨rfl, HA.out⟩
  have e19 : (o == 19) = false := by simp [k19]
  by_cases k20 : o = 20
  · subst k20
    by_cases h1 : 0 ≤ a
    · by_cases h2 : a ≤ 2
      · rw [show mayI (20, a) n = true by simp [mayI, opI, argI]; omega]
        go_enter Tryz.func37, Tryz.ntmps37
        go_wp2
        go_ret
        exact ⟨rfl, HA.out⟩
      · rw [show mayI (20, a) n = false by simp [mayI, opI, argI]; omega]
        go_enter Tryz.func37, Tryz.ntmps37
        go_wp2
        go_ret
        exact ⟨rfl, HA.out⟩
    · rw [show mayI (20, a) n = false by simp [mayI, opI, argI]; omega]
      go_enter Tryz.func37, Tryz.ntmps37
      go_wp2
      go_ret
      exact ⟨rfl, HA.out⟩
  have e20 : (o == 20) = false := by simp [k20]
  by_cases k16 : o = 16
  · subst k16
    by_cases h1 : a = 0
    · subst h1
      rw [show mayI (16, 0) n = true by simp [mayI, opI, argI]]
      go_enter Tryz.func37, Tryz.ntmps37
      go_wp2
      go_ret
      exact ⟨rfl, HA.out⟩
    have f1 : (a == 0) = false := by simp [h1]
    by_cases h2 : a = 1
    · subst h2
      rw [show mayI (16, 1) n = true by simp [mayI, opI, argI]]
      go_enter Tryz.func37, Tryz.ntmps37
      go_wp2
      go_ret
      exact ⟨rfl, HA.out⟩
    have f2 : (a == 1) = false := by simp [h2]
    rw [show mayI (16, a) n = false by simp [mayI, opI, argI]; omega]
    clear h1 h2
    go_enter Tryz.func37, Tryz.ntmps37
    go_wp2
    go_ret
    exact ⟨rfl, HA.out⟩
  have e16 : (o == 16) = false := by simp [k16]
  have hm : mayI (o, a) n = (decide (1 ≤ o) && (decide (o ≤ 22) && decide (a = 0))) := by
    simp only [mayI, opI, argI]
    rw [if_neg k1, if_neg (by omega), if_neg k16, if_neg (by omega), if_neg k20]
    by_cases h1 : 1 ≤ o <;> by_cases h2 : o ≤ 22 <;> simp [h1, h2]
  rw [hm]
  clear hm k1 k2 k3 k16 k18 k19 k20
  by_cases h1 : 1 ≤ o
  · by_cases h2 : o ≤ 22
    · by_cases h3 : a = 0
      · subst h3
        rw [show (decide (1 ≤ o) && (decide (o ≤ 22) && decide ((0 : Int) = 0))) = true by simp [h1, h2]]
        go_enter Tryz.func37, Tryz.ntmps37
        go_wp2
        go_ret
        exact ⟨rfl, HA.out⟩
      · rw [show (decide (1 ≤ o) && (decide (o ≤ 22) && decide (a = 0))) = false by simp [h3]]
        have f1 : (a == 0) = false := by simp [h3]
        clear h3
        go_enter Tryz.func37, Tryz.ntmps37
        go_wp2
        go_ret
        exact ⟨rfl, HA.out⟩
    · rw [show (decide (1 ≤ o) && (decide (o ≤ 22) && decide (a = 0))) = false by simp [h2]]
      go_enter Tryz.func37, Tryz.ntmps37
      go_wp2
      go_ret
      exact ⟨rfl, HA.out⟩
  · rw [show (decide (1 ≤ o) && (decide (o ≤ 22) && decide (a = 0))) = false by simp [h1]]
    go_enter Tryz.func37, Tryz.ntmps37
    go_wp2
    go_ret
    exact ⟨rfl, HA.out⟩
set_option maxRecDepth 20000 in
set_option maxHeartbeats 4000000 in
theorem rcheck_any (v : Value) (l : List Ii) (w : World) (h : Ls w v l) :
    Calls Tryz.prog 16 #[v] w fun e w' => e = .returned (.tuple #[.int .i64 (chk l).1, .int .i64 (chk l).2]) ∧ Below w.heap.size w w' := by
  obtain ⟨ao, cap, rfl, hm⟩ := h.len
  have hm' : l.length ≤ 9223372036854775807 := by unfold maxLen at hm; omega
  have HL := hid_into h
  clear h hm
  by_cases h256 : 256 < l.length
  · rw [chk_long h256]
    go_enter Tryz.func16, Tryz.ntmps16
    go_wp2
    go_ret2
    exact ⟨rfl, Below.refl _ _⟩
  · go_enter Tryz.func16, Tryz.ntmps16
    go_wp2_with fail
    go_loopw [4] (fun i wr => ∃ k : Nat, k ≤ l.length ∧ i = .int .i64 (k : Int) ∧ Hid (∀ j y, j < k → l[j]? = some y → mayI y l.length = true) ∧ Hid (Below w.heap.size w wr)) (fun i _ => l.length - (intOf i).toNat)
    case atStart => exact ⟨0, Nat.zero_le _, rfl, fun j y hj => absurd hj (by omega), Below.refl _ _⟩
    case round =>
      obtain ⟨k, hk, rfl, HA, HB⟩ := hrel
      by_cases hlt : k < l.length
      · obtain ⟨⟨o, a⟩, hx⟩ : ∃ x, l[k]? = some x := ⟨_, List.getElem?_eq_getElem hlt⟩
        obtain ⟨g, off, hao, x0, x1⟩ := HL.out.at HB.out (Nat.le_refl _) k _ hx
        subst hao
        simp only at x0 x1
        have HX := hid_into hx
        clear hx
        cases hb : mayI (o, a) l.length with
        | true =>
          have HM2 := hid_into hb
          have hc : ∀ W, Calls Tryz.prog 37 #[.agg #[.int .i64 o, .int .i64 a], .int .i64 (l.length : Int)] W fun e w' => e = .returned (.bool true) ∧ Below W.heap.size W w' := fun W => by have := rmay_any o a l.length W; rwa [hb] at this
          clear hb
          go_wp2_with (go_at_call 37; refine (hc _).mono ?_; rintro e w2 ⟨rfl, B2⟩)
          go_roundw
          case rel =>
            refine ⟨k + 1, by omega, by go_num, fun j y hj hy => ?_, HB.out.trans (B2.mono HB.out.size)⟩
            by_cases hjk : j < k
            · exact HA.out j y hjk hy
            · obtain rfl : j = k := by omega
              rw [HX.out] at hy
              cases hy
              exact HM2.out
          case measure => simp [intOf]; omega
        | false =>
          have HM2 := hid_into hb
          have hc : ∀ W, Calls Tryz.prog 37 #[.agg #[.int .i64 o, .int .i64 a], .int .i64 (l.length : Int)] W fun e w' => e = .returned (.bool false) ∧ Below W.heap.size W w' := fun W => by have := rmay_any o a l.length W; rwa [hb] at this
          clear hb
          go_wp2_with (go_at_call 37; refine (hc _).mono ?_; rintro e w2 ⟨rfl, B2⟩)
          go_ret2
          rw [chk_bad h256 k _ HX.out HA.out HM2.out]
          exact ⟨rfl, HB.out.trans (B2.mono HB.out.size)⟩
      · obtain rfl : k = l.length := by omega
        go_wp2_with fail
        go_ret2
        rw [chk_ok h256 (fun x hx => by
          obtain ⟨j, hj, rfl⟩ := List.getElem_of_mem hx
          exact HA.out j _ hj (List.getElem?_eq_getElem hj))]
        exact ⟨rfl, HB.out⟩
end Go.Proofs.YtbfldcieibdapabGreat
end
