/-
  The document's Get.
-/
import Derived.Test.YtkjoadncbfhjfaaRQueue
namespace Go.Proofs.Ytkjoadncbfhjfaa
open Go.RowKit
variable {w w' : World} {lo hi rb a0 a1 b0 b1 : Nat} {l0 l1 : List Pl}
set_option maxHeartbeats 1000000 in
theorem rgetR_0 (h : Rq w lo hi rb a0 a1 b0 b1 l0 l1) (f : Nat) : Calls Try.prog 13 #[.pointer (some ⟨rb, 0, none⟩), .int .i64 0, .int .i64 (f : Int)] w fun e w' => e = .returned (.tuple #[.int .u16 (getP l0 f).1, .bool (getP l0 f).2]) ∧ w' = w := by
  have hL : l0.length = l0.length := rfl
  have c0 := h.q.cell 0
  have ci := h.q.cell 1
  have cs := h.q.cell 3
  simp only [List.getElem?_cons_succ, List.getElem?_cons_zero, slR] at c0 ci cs
  have DI : Hid (∀ k, k < l0.length → w.cell? ⟨a0, k, none⟩ = some (.int .u16 (at0 l0 k).1)) := fun k hk => (h.i0.cell _).trans (cellsI_at (by rw [hL]; exact hk))
  have DS : Hid (∀ k, k < l0.length → w.cell? ⟨b0, k, none⟩ = some (.bool (at0 l0 k).2)) := fun k hk => (h.s0.cell _).trans (cellsB_at (by rw [hL]; exact hk))
  have hn2 := h.n2
  have HG : getP l0 f = getA f (down l0 (min (f + 1) l0.length)) := by
    unfold getP
    rw [if_neg (by omega), Int.toNat_natCast, hL]
  clear h hL
  generalize l0.length = n at *
  rw [HG]
  clear HG
  have hn3 : (n : Int) ≤ 600 := by omega
  by_cases hlt : f < n
  · have hlt2 : (f : Int) < (n : Int) := by omega
    have d1 := DS.out f hlt
    have d0 := DI.out f hlt
    rw [show min (f + 1) n = f + 1 by omega, down]
    generalize hA : at0 l0 f = A at *
    obtain ⟨y, b⟩ := A
    simp only at d0 d1 ⊢
    cases b with
    | true =>
      simp only [if_true, getA, decide_true]
      go_enter Try.func13, Try.ntmps13
      go_wp2_with fail
      go_ret2
      exact ⟨rfl, rfl⟩
    | false =>
      simp only [Bool.false_eq_true, if_false]
      generalize hR : getA f (down l0 f) = R
      have HR := hid_into hR
      have HA := hid_into hA
      clear hR hA d0
      go_enter Try.func13, Try.ntmps13
      go_wp2_with fail
      go_loopw [8] (fun x wr => ∃ k : Nat, k ≤ f ∧ x = .int .i64 ((k : Int) - 1) ∧ Hid (getA f (down l0 k) = R) ∧ w = wr) (fun x _ => (intOf x + 1).toNat)
      case atStart => exact ⟨f, Nat.le_refl _, by go_num, HR, rfl⟩
      case round =>
        clear HR
        obtain ⟨k, hk, rfl, HR, rfl⟩ := hrel
        cases k with
        | zero =>
          have h := HR.out
          simp only [down, getA] at h
          subst h
          go_wp2_with fail
          go_ret2
          exact ⟨rfl, rfl⟩
        | succ j =>
          have hj : j < n := by omega
          rw [show ((j + 1 : Nat) : Int) - 1 = (j : Int) by omega]
          have d0 := DI.out j hj
          have d2 := DS.out j hj
          have hj2 : (j : Int) < (n : Int) := by omega
          have h := HR.out
          simp only [down] at h
          cases hb : (at0 l0 j).2 with
          | true =>
            rw [hb] at d2
            rw [if_pos hb] at h
            simp only [getA] at h
            rw [decide_eq_false (show ¬ ((j : Int) = (f : Int)) by omega)] at h
            subst h
            clear hb HR
            go_wp2_with fail
            go_ret2
            exact ⟨rfl, rfl⟩
          | false =>
            rw [hb] at d2
            rw [if_neg (by simp [hb])] at h
            have HR2 := hid_into h
            clear hb HR h
            go_wp2_with fail
            go_roundw
            case rel => exact ⟨j, by omega, by go_num, HR2, trivial⟩
            case measure => simp [intOf]
  · have hlt2 : ¬ (f : Int) < (n : Int) := by omega
    rw [show min (f + 1) n = n by omega]
    generalize hR : getA f (down l0 n) = R
    have HR := hid_into hR
    clear hR
    by_cases hgt : (n : Int) < (f : Int)
    · go_enter Try.func13, Try.ntmps13
      go_wp2_with fail
      go_loopw [8] (fun x wr => ∃ k : Nat, k ≤ n ∧ x = .int .i64 ((k : Int) - 1) ∧ Hid (getA f (down l0 k) = R) ∧ w = wr) (fun x _ => (intOf x + 1).toNat)
      case atStart => exact ⟨n, Nat.le_refl _, by go_num, HR, rfl⟩
      case round =>
        clear HR
        obtain ⟨k, hk, rfl, HR, rfl⟩ := hrel
        cases k with
        | zero =>
          have h := HR.out
          simp only [down, getA] at h
          subst h
          go_wp2_with fail
          go_ret2
          exact ⟨rfl, rfl⟩
        | succ j =>
          have hj : j < n := by omega
          rw [show ((j + 1 : Nat) : Int) - 1 = (j : Int) by omega]
          have d0 := DI.out j hj
          have d2 := DS.out j hj
          have hj2 : (j : Int) < (n : Int) := by omega
          have h := HR.out
          simp only [down] at h
          cases hb : (at0 l0 j).2 with
          | true =>
            rw [hb] at d2
            rw [if_pos hb] at h
            simp only [getA] at h
            rw [decide_eq_false (show ¬ ((j : Int) = (f : Int)) by omega)] at h
            subst h
            clear hb HR
            go_wp2_with fail
            go_ret2
            exact ⟨rfl, rfl⟩
          | false =>
            rw [hb] at d2
            rw [if_neg (by simp [hb])] at h
            have HR2 := hid_into h
            clear hb HR h
            go_wp2_with fail
            go_roundw
            case rel => exact ⟨j, by omega, by go_num, HR2, trivial⟩
            case measure => simp [intOf]
    · have hgt2 : f = n := by omega
      clear hlt2 hgt hlt
      subst hgt2
      go_enter Try.func13, Try.ntmps13
      go_wp2_with fail
      go_loopw [8] (fun x wr => ∃ k : Nat, k ≤ f ∧ x = .int .i64 ((k : Int) - 1) ∧ Hid (getA f (down l0 k) = R) ∧ w = wr) (fun x _ => (intOf x + 1).toNat)
      case atStart => exact ⟨f, Nat.le_refl _, by go_num, HR, rfl⟩
      case round =>
        clear HR
        obtain ⟨k, hk, rfl, HR, rfl⟩ := hrel
        cases k with
        | zero =>
          have h := HR.out
          simp only [down, getA] at h
          subst h
          go_wp2_with fail
          go_ret2
          exact ⟨rfl, rfl⟩
        | succ j =>
          have hj : j < f := by omega
          rw [show ((j + 1 : Nat) : Int) - 1 = (j : Int) by omega]
          have d0 := DI.out j hj
          have d2 := DS.out j hj
          have hj2 : (j : Int) < (f : Int) := by omega
          have h := HR.out
          simp only [down] at h
          cases hb : (at0 l0 j).2 with
          | true =>
            rw [hb] at d2
            rw [if_pos hb] at h
            simp only [getA] at h
            rw [decide_eq_false (show ¬ ((j : Int) = (f : Int)) by omega)] at h
            subst h
            clear hb HR
            go_wp2_with fail
            go_ret2
            exact ⟨rfl, rfl⟩
          | false =>
            rw [hb] at d2
            rw [if_neg (by simp [hb])] at h
            have HR2 := hid_into h
            clear hb HR h
            go_wp2_with fail
            go_roundw
            case rel => exact ⟨j, by omega, by go_num, HR2, trivial⟩
            case measure => simp [intOf]

set_option maxHeartbeats 1000000 in
theorem rgetR_1 (h : Rq w lo hi rb a0 a1 b0 b1 l0 l1) (f : Nat) : Calls Try.prog 13 #[.pointer (some ⟨rb, 0, none⟩), .int .i64 1, .int .i64 (f : Int)] w fun e w' => e = .returned (.tuple #[.int .u16 (getP l1 f).1, .bool (getP l1 f).2]) ∧ w' = w := by
  have hL : l1.length = l0.length := h.len
  have c0 := h.q.cell 0
  have ci := h.q.cell 2
  have cs := h.q.cell 4
  simp only [List.getElem?_cons_succ, List.getElem?_cons_zero, slR] at c0 ci cs
  have DI : Hid (∀ k, k < l0.length → w.cell? ⟨a1, k, none⟩ = some (.int .u16 (at0 l1 k).1)) := fun k hk => (h.i1.cell _).trans (cellsI_at (by rw [hL]; exact hk))
  have DS : Hid (∀ k, k < l0.length → w.cell? ⟨b1, k, none⟩ = some (.bool (at0 l1 k).2)) := fun k hk => (h.s1.cell _).trans (cellsB_at (by rw [hL]; exact hk))
  have hn2 := h.n2
  have HG : getP l1 f = getA f (down l1 (min (f + 1) l0.length)) := by
    unfold getP
    rw [if_neg (by omega), Int.toNat_natCast, hL]
  clear h hL
  generalize l0.length = n at *
  rw [HG]
  clear HG
  have hn3 : (n : Int) ≤ 600 := by omega
  by_cases hlt : f < n
  · have hlt2 : (f : Int) < (n : Int) := by omega
    have d1 := DS.out f hlt
    have d0 := DI.out f hlt
    rw [show min (f + 1) n = f + 1 by omega, down]
    generalize hA : at0 l1 f = A at *
    obtain ⟨y, b⟩ := A
    simp only at d0 d1 ⊢
    cases b with
    | true =>
      simp only [if_true, getA, decide_true]
      go_enter Try.func13, Try.ntmps13
      go_wp2_with fail
      go_ret2
      exact ⟨rfl, rfl⟩
    | false =>
      simp only [Bool.false_eq_true, if_false]
      generalize hR : getA f (down l1 f) = R
      have HR := hid_into hR
      have HA := hid_into hA
      clear hR hA d0
      go_enter Try.func13, Try.ntmps13
      go_wp2_with fail
      go_loopw [8] (fun x wr => ∃ k : Nat, k ≤ f ∧ x = .int .i64 ((k : Int) - 1) ∧ Hid (getA f (down l1 k) = R) ∧ w = wr) (fun x _ => (intOf x + 1).toNat)
      case atStart => exact ⟨f, Nat.le_refl _, by go_num, HR, rfl⟩
      case round =>
        clear HR
        obtain ⟨k, hk, rfl, HR, rfl⟩ := hrel
        cases k with
        | zero =>
          have h := HR.out
          simp only [down, getA] at h
          subst h
          go_wp2_with fail
          go_ret2
          exact ⟨rfl, rfl⟩
        | succ j =>
          have hj : j < n := by omega
          rw [show ((j + 1 : Nat) : Int) - 1 = (j : Int) by omega]
          have d0 := DI.out j hj
          have d2 := DS.out j hj
          have hj2 : (j : Int) < (n : Int) := by omega
          have h := HR.out
          simp only [down] at h
          cases hb : (at0 l1 j).2 with
          | true =>
            rw [hb] at d2
            rw [if_pos hb] at h
            simp only [getA] at h
            rw [decide_eq_false (show ¬ ((j : Int) = (f : Int)) by omega)] at h
            subst h
            clear hb HR
            go_wp2_with fail
            go_ret2
            exact ⟨rfl, rfl⟩
          | false =>
            rw [hb] at d2
            rw [if_neg (by simp [hb])] at h
            have HR2 := hid_into h
            clear hb HR h
            go_wp2_with fail
            go_roundw
            case rel => exact ⟨j, by omega, by go_num, HR2, trivial⟩
            case measure => simp [intOf]
  · have hlt2 : ¬ (f : Int) < (n : Int) := by omega
    rw [show min (f + 1) n = n by omega]
    generalize hR : getA f (down l1 n) = R
    have HR := hid_into hR
    clear hR
    by_cases hgt : (n : Int) < (f : Int)
    · go_enter Try.func13, Try.ntmps13
      go_wp2_with fail
      go_loopw [8] (fun x wr => ∃ k : Nat, k ≤ n ∧ x = .int .i64 ((k : Int) - 1) ∧ Hid (getA f (down l1 k) = R) ∧ w = wr) (fun x _ => (intOf x + 1).toNat)
      case atStart => exact ⟨n, Nat.le_refl _, by go_num, HR, rfl⟩
      case round =>
        clear HR
        obtain ⟨k, hk, rfl, HR, rfl⟩ := hrel
        cases k with
        | zero =>
          have h := HR.out
          simp only [down, getA] at h
          subst h
          go_wp2_with fail
          go_ret2
          exact ⟨rfl, rfl⟩
        | succ j =>
          have hj : j < n := by omega
          rw [show ((j + 1 : Nat) : Int) - 1 = (j : Int) by omega]
          have d0 := DI.out j hj
          have d2 := DS.out j hj
          have hj2 : (j : Int) < (n : Int) := by omega
          have h := HR.out
          simp only [down] at h
          cases hb : (at0 l1 j).2 with
          | true =>
            rw [hb] at d2
            rw [if_pos hb] at h
            simp only [getA] at h
            rw [decide_eq_false (show ¬ ((j : Int) = (f : Int)) by omega)] at h
            subst h
            clear hb HR
            go_wp2_with fail
            go_ret2
            exact ⟨rfl, rfl⟩
          | false =>
            rw [hb] at d2
            rw [if_neg (by simp [hb])] at h
            have HR2 := hid_into h
            clear hb HR h
            go_wp2_with fail
            go_roundw
            case rel => exact ⟨j, by omega, by go_num, HR2, trivial⟩
            case measure => simp [intOf]
    · have hgt2 : f = n := by omega
      clear hlt2 hgt hlt
      subst hgt2
      go_enter Try.func13, Try.ntmps13
      go_wp2_with fail
      go_loopw [8] (fun x wr => ∃ k : Nat, k ≤ f ∧ x = .int .i64 ((k : Int) - 1) ∧ Hid (getA f (down l1 k) = R) ∧ w = wr) (fun x _ => (intOf x + 1).toNat)
      case atStart => exact ⟨f, Nat.le_refl _, by go_num, HR, rfl⟩
      case round =>
        clear HR
        obtain ⟨k, hk, rfl, HR, rfl⟩ := hrel
        cases k with
        | zero =>
          have h := HR.out
          simp only [down, getA] at h
          subst h
          go_wp2_with fail
          go_ret2
          exact ⟨rfl, rfl⟩
        | succ j =>
          have hj : j < f := by omega
          rw [show ((j + 1 : Nat) : Int) - 1 = (j : Int) by omega]
          have d0 := DI.out j hj
          have d2 := DS.out j hj
          have hj2 : (j : Int) < (f : Int) := by omega
          have h := HR.out
          simp only [down] at h
          cases hb : (at0 l1 j).2 with
          | true =>
            rw [hb] at d2
            rw [if_pos hb] at h
            simp only [getA] at h
            rw [decide_eq_false (show ¬ ((j : Int) = (f : Int)) by omega)] at h
            subst h
            clear hb HR
            go_wp2_with fail
            go_ret2
            exact ⟨rfl, rfl⟩
          | false =>
            rw [hb] at d2
            rw [if_neg (by simp [hb])] at h
            have HR2 := hid_into h
            clear hb HR h
            go_wp2_with fail
            go_roundw
            case rel => exact ⟨j, by omega, by go_num, HR2, trivial⟩
            case measure => simp [intOf]
end Go.Proofs.Ytkjoadncbfhjfaa
