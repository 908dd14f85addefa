/-
  A row's put, get, known, by contracts.
-/
import Derived.Test.YtkjoadncbfhjfaaMem
namespace Go.Proofs.Ytkjoadncbfhjfaa
open Go.RowKit
theorem Try.size70 : (Try.prog.info? 70).map (·.size) = some 2 := by kernel_rfl
section
variable {w w' : World} {g : Nat} {l : List Pl}
theorem rput_nil (w : World) (f x : Int) : Calls Try.prog 22 #[.slice none 0 0, .int .i64 f, .int .u16 x] w fun e w' => e = .returned (.int .i64 1) ∧ w' = w := by
  by_cases h : f < 0
  · go_enter Try.func22, Try.ntmps22
    go_wp2_with fail
    go_ret
    exact ⟨rfl, rfl⟩
  · go_enter Try.func22, Try.ntmps22
    go_wp2_with fail
    go_ret
    exact ⟨rfl, rfl⟩
/-- Ahead of all frames nothing is found. -/
theorem rget_neg (ao : Option Addr) (n : Nat) (hn : n ≤ 600) (w : World) (f : Int) (hf : f < 0) : Calls Try.prog 24 #[.slice ao n n, .int .i64 f] w fun e w' => e = .returned (.tuple #[.int .u16 0, .bool false]) ∧ w' = w := by
  have h1 : ¬ ((n : Int) - 1 < f) := by omega
  go_enter Try.func24, Try.ntmps24
  go_wp2_with fail
  go_loopw [6] (fun x wr => ∃ m : Int, m < 0 ∧ x = .int .i64 m ∧ w = wr) (fun _ _ => 0)
  case atStart => exact ⟨f, hf, rfl, rfl⟩
  case round =>
    obtain ⟨m, hm, rfl, rfl⟩ := hrel
    go_wp2_with fail
    go_ret2
    exact ⟨rfl, rfl⟩
theorem rget_nil (w : World) (f : Int) : Calls Try.prog 24 #[.slice none 0 0, .int .i64 f] w fun e w' => e = .returned (.tuple #[.int .u16 0, .bool false]) ∧ w' = w := by
  by_cases h : f < 0
  · exact rget_neg none 0 (by omega) w f h
  · have h1 : -1 < f := by omega
    go_enter Try.func24, Try.ntmps24
    go_wp2_with fail
    go_loopw [6] (fun x wr => ∃ m : Int, m < 0 ∧ x = .int .i64 m ∧ w = wr) (fun _ _ => 0)
    case atStart => exact ⟨-1, by decide, rfl, rfl⟩
    case round =>
      obtain ⟨m, hm, rfl, rfl⟩ := hrel
      go_wp2_with fail
      go_ret2
      exact ⟨rfl, rfl⟩
theorem rknown_nil (w : World) : Calls Try.prog 25 #[.slice none 0 0] w fun e w' => e = .returned (.int .i64 0) ∧ w' = w := by
  go_enter Try.func25, Try.ntmps25
  go_wp2_with fail
  go_loopw [3] (fun x wr => x = .int .i64 0 ∧ w = wr) (fun _ _ => 0)
  case atStart => exact ⟨rfl, rfl⟩
  case round =>
    obtain ⟨rfl, rfl⟩ := hrel
    go_wp2_with fail
    go_ret
    exact ⟨rfl, rfl⟩
set_option maxHeartbeats 1000000 in
theorem rknown_any (hc : Cw w g (cellsR l) 70) (hn : l.length ≤ 600) : Calls Try.prog 25 #[slR g l.length] w fun e w' => e = .returned (.int .i64 (kn l : Int)) ∧ w' = w := by
  unfold slR
  have HC := hid_into hc
  have HN := hid_into (kn_le l)
  clear hc
  go_enter Try.func25, Try.ntmps25
  go_wp2_with fail
  go_loopw [3] (fun x wr => ∃ k : Nat, Hid (k ≤ kn l) ∧ x = .int .i64 (k : Int) ∧ w = wr) (fun x _ => l.length - (intOf x).toNat)
  case atStart => exact ⟨0, hid_into (Nat.zero_le _), rfl, rfl⟩
  case round =>
    obtain ⟨k, hk, rfl, rfl⟩ := hrel
    by_cases hlt : k < l.length
    · have d1 : w.cell? ⟨g, k * 2 + 1, none⟩ = some (.bool (at0 l k).2) := (HC.out.cell _).trans (cellsR_at l k hlt).2
      have hlt2 : (k : Int) < (l.length : Int) := by omega
      cases hb : (at0 l k).2 with
      | true =>
        rw [hb] at d1
        have hk2 : Hid (k + 1 ≤ kn l) := by
          show _ ≤ _
          have h1 := hk.out
          rcases Nat.lt_or_ge k (kn l) with h2 | h2
          · exact h2
          · have h3 : k = kn l := by omega
            have h4 := kn_stop l (by omega)
            rw [← h3, hb] at h4; cases h4
        clear hb
        go_wp2_with fail
        go_roundw
        case rel => exact ⟨k + 1, hk2, by go_num, trivial⟩
        case measure => simp [intOf]; omega
      | false =>
        rw [hb] at d1
        have hk2 : Hid (kn l = k) := by
          show _ = _
          have h1 := hk.out
          rcases Nat.lt_or_ge k (kn l) with h2 | h2
          · rw [kn_mark l k h2] at hb; cases hb
          · omega
        clear hb
        go_wp2_with fail
        go_ret
        rw [hk2.out]
        exact ⟨rfl, rfl⟩
    · have hk2 : Hid (kn l = k) := by
        show _ = _
        have h1 := hk.out
        have h2 := HN.out
        omega
      have hlt2 : ¬ (k : Int) < (l.length : Int) := by omega
      go_wp2_with fail
      go_ret
      rw [hk2.out]
      exact ⟨rfl, rfl⟩
set_option maxHeartbeats 1000000 in
theorem rget_any (hc : Cw w g (cellsR l) 70) (hn : l.length ≤ 600) (f : Int) : Calls Try.prog 24 #[slR g l.length, .int .i64 f] w fun e w' => e = .returned (.tuple #[.int .u16 (getP l f).1, .bool (getP l f).2]) ∧ w' = w := by
  unfold slR
  by_cases hf : f < 0
  · rw [show getP l f = (0, false) by simp [getP, hf]]
    exact rget_neg _ _ hn w f hf
  obtain ⟨R, hR⟩ : ∃ R, R = getP l f := ⟨_, rfl⟩
  rw [← hR]
  have hR2 : getA f (down l (min (f.toNat + 1) l.length)) = R := by rw [hR]; simp [getP, hf]
  clear hR
  have HC := hid_into hc
  clear hc
  obtain ⟨k0, hk0, hk1⟩ : ∃ k0 : Nat, k0 = min (f.toNat + 1) l.length ∧ k0 ≤ l.length := ⟨_, rfl, by omega⟩
  have hmin : (if (l.length : Int) - 1 < f then (l.length : Int) - 1 else f) = (k0 : Int) - 1 := by split <;> omega
  rw [← hk0] at hR2
  have HR := hid_into hR2
  have HM := hid_into hmin
  have HK := hid_into hk1
  clear hR2 hmin hk1 hk0
  go_enter Try.func24, Try.ntmps24
  by_cases hcs : (l.length : Int) - 1 < f
  · go_wp2_with fail
    go_loopw [6] (fun x wr => ∃ k : Nat, k ≤ l.length ∧ x = .int .i64 ((k : Int) - 1) ∧ Hid (getA f (down l k) = R) ∧ w = wr) (fun x _ => (intOf x + 1).toNat)
    case atStart =>
      have h := HM.out
      rw [if_pos hcs] at h
      exact ⟨k0, HK.out, by rw [h], HR, rfl⟩
    case round =>
      clear HR HM HK hcs
      obtain ⟨k, hk, rfl, HR, rfl⟩ := hrel
      cases k with
      | zero =>
        have h := HR.out
        simp only [down, getA] at h
        subst h
        go_wp2_with fail
        go_ret2
        exact ⟨rfl, rfl⟩
      | succ j =>
        have hj : j < l.length := by omega
        rw [show ((j + 1 : Nat) : Int) - 1 = (j : Int) by omega]
        have d0 : w.cell? ⟨g, j * 2, none⟩ = some (.int .u16 (at0 l j).1) := (HC.out.cell _).trans (cellsR_at l j hj).1
        have d1 : w.cell? ⟨g, j * 2 + 1, none⟩ = some (.bool (at0 l j).2) := (HC.out.cell _).trans (cellsR_at l j hj).2
        have hj2 : (j : Int) < (l.length : Int) := by omega
        have h := HR.out
        simp only [down] at h
        cases hb : (at0 l j).2 with
        | true =>
          rw [hb] at d1
          rw [if_pos hb] at h
          simp only [getA] at h
          subst h
          clear hb HR
          go_wp2_with fail
          go_ret2
          exact ⟨rfl, rfl⟩
        | false =>
          rw [hb] at d1
          rw [if_neg (by simp [hb])] at h
          have HR2 := hid_into h
          clear hb HR h
          go_wp2_with fail
          go_roundw
          case rel => exact ⟨j, by omega, by go_num, HR2, trivial⟩
          case measure => simp [intOf]
  · go_wp2_with fail
    go_loopw [6] (fun x wr => ∃ k : Nat, k ≤ l.length ∧ x = .int .i64 ((k : Int) - 1) ∧ Hid (getA f (down l k) = R) ∧ w = wr) (fun x _ => (intOf x + 1).toNat)
    case atStart =>
      have h := HM.out
      rw [if_neg (by omega)] at h
      exact ⟨k0, HK.out, by rw [h], HR, rfl⟩
    case round =>
      clear HR HM HK hcs
      obtain ⟨k, hk, rfl, HR, rfl⟩ := hrel
      cases k with
      | zero =>
        have h := HR.out
        simp only [down, getA] at h
        subst h
        go_wp2_with fail
        go_ret2
        exact ⟨rfl, rfl⟩
      | succ j =>
        have hj : j < l.length := by omega
        rw [show ((j + 1 : Nat) : Int) - 1 = (j : Int) by omega]
        have d0 : w.cell? ⟨g, j * 2, none⟩ = some (.int .u16 (at0 l j).1) := (HC.out.cell _).trans (cellsR_at l j hj).1
        have d1 : w.cell? ⟨g, j * 2 + 1, none⟩ = some (.bool (at0 l j).2) := (HC.out.cell _).trans (cellsR_at l j hj).2
        have hj2 : (j : Int) < (l.length : Int) := by omega
        have h := HR.out
        simp only [down] at h
        cases hb : (at0 l j).2 with
        | true =>
          rw [hb] at d1
          rw [if_pos hb] at h
          simp only [getA] at h
          subst h
          clear hb HR
          go_wp2_with fail
          go_ret2
          exact ⟨rfl, rfl⟩
        | false =>
          rw [hb] at d1
          rw [if_neg (by simp [hb])] at h
          have HR2 := hid_into h
          clear hb HR h
          go_wp2_with fail
          go_roundw
          case rel => exact ⟨j, by omega, by go_num, HR2, trivial⟩
          case measure => simp [intOf]
theorem rput_out (g : Nat) (f x : Int) (h : f < 0 ∨ (l.length : Int) ≤ f) : Calls Try.prog 22 #[slR g l.length, .int .i64 f, .int .u16 x] w fun e w' => e = .returned (.int .i64 1) ∧ w' = w := by
  unfold slR
  by_cases h1 : f < 0
  · clear h
    go_enter Try.func22, Try.ntmps22
    go_wp2_with fail
    go_ret
    exact ⟨rfl, rfl⟩
  · have h2 : (l.length : Int) ≤ f := by omega
    clear h
    go_enter Try.func22, Try.ntmps22
    go_wp2_with fail
    go_ret
    exact ⟨rfl, rfl⟩
theorem rput_in (hc : Cw w g (cellsR l) 70) (_hn : l.length ≤ 600) (k : Nat) (x : Int) (hk : k < l.length) : Calls Try.prog 22 #[slR g l.length, .int .i64 (k : Int), .int .u16 x] w fun e w' => e = .returned (.int .i64 (putE l k x)) ∧ Cw w' g (cellsR (putL l k x)) 70 ∧ Only g w w' := by
  have hp : putE l k x = if (at0 l k).2 = true then (if (at0 l k).1 = x then 8 else 18) else 0 := by
    unfold putE
    rw [if_neg (by omega), Int.toNat_natCast]
  obtain ⟨c0, c1⟩ := cellsR_at l k hk
  have d0 : w.cell? ⟨g, k * 2, none⟩ = some (.int .u16 (at0 l k).1) := (hc.cell _).trans c0
  have d1 : w.cell? ⟨g, k * 2 + 1, none⟩ = some (.bool (at0 l k).2) := (hc.cell _).trans c1
  have z0 := hc.frozen (k * 2)
  have z1 := hc.frozen (k * 2 + 1)
  have hpl : putL l k x = if putE l k x = 0 then l.set k (x, true) else l := by simp [putL]
  rw [hpl, hp]
  have hset := cellsR_set l k (x, true) hk
  generalize hA : at0 l k = A at *
  obtain ⟨y, b⟩ := A
  clear hA hp hpl c0 c1
  simp only at d0 d1
  unfold slR
  have hn2 : (k : Int) < (l.length : Int) := by omega
  cases b with
  | false =>
    simp only [Bool.false_eq_true, if_false, if_true]
    have HS := hid_into hset
    clear hset
    have HC := hid_into hc
    clear hc
    go_enter Try.func22, Try.ntmps22
    go_wp2_with fail
    go_ret
    refine ⟨rfl, ?_, (Only.set _ _ _ _).trans (Only.set _ _ _ _)⟩
    rw [← HS.out]
    exact (HC.out.set _ _).set _ _
  | true =>
    by_cases e : y = x
    · subst e
      simp only [if_true]
      go_enter Try.func22, Try.ntmps22
      go_wp2_with fail
      go_ret
      exact ⟨rfl, hc, Only.refl _ _⟩
    · simp only [if_true, if_neg e]
      go_enter Try.func22, Try.ntmps22
      go_wp2_with fail
      go_ret
      exact ⟨rfl, hc, Only.refl _ _⟩
end
end Go.Proofs.Ytkjoadncbfhjfaa
