/-
  Two rows of the same pairs are the same (the laws' pairs).
-/
import Derived.Test.YtkjoadncbfhjfaaRPairs
namespace Go.Proofs.Ytkjoadncbfhjfaa
open Go.RowKit
theorem sizeOf31 (w : World) : (sizeOf 31).run Try.prog w = .ok 1 w := by kernel_rfl
theorem run_eqP (a b : Int) (w : World) : (Op.equalIn 10000 47 (.agg #[.int .u16 a, .int .u16 b]) (.agg #[.int .u16 a, .int .u16 b])).run Try.prog w = .ok true w := by
  have pe : ∀ x : Int, (Op.equalIn 9999 31 (.int .u16 x) (.int .u16 x)).run Try.prog w = .ok true w := fun x => by
    rw [run_equalIn_int w 9998 31 .u16 .u16 _ _ Try.underlying31]; simp
  rw [Op.equalIn]
  simp only [Sem.run_bind, run_underlying Try.underlying47, Result.andThen_ok, sizeOf31, Std.Legacy.Range.forIn_eq_forIn_range', Std.Legacy.Range.size, Nat.sub_zero, Nat.add_sub_cancel, Nat.div_one]
  have e : List.range' 0 2 1 = [0, 1] := rfl
  rw [e]
  simp [part, isAgg, run_underlying Try.underlying31, pe]
set_option maxHeartbeats 1000000 in
theorem pairs_same (w : World) (va vb : Value) (l : List Pi) (ha : Ps w va l) (hb : Ps w vb l) (hl : l.length ≤ 1000) : Calls Try.prog 18 #[va, vb] w fun e w' => e = .returned (.bool true) ∧ Below w.heap.size w w' := by
  obtain ⟨ao, ca, rfl, _⟩ := ha.len
  obtain ⟨bo, cb, rfl, _⟩ := hb.len
  have HA := hid_into ha
  have HB := hid_into hb
  obtain ⟨n, hn⟩ : ∃ n, n = l.length := ⟨_, rfl⟩
  rw [← hn] at HA HB hl ⊢
  have HN := hid_into hn
  clear ha hb hn
  have hl2 : (n : Int) ≤ 1000 := by omega
  go_enter Try.func18, Try.ntmps18
  go_wp2_with fail
  go_loopw [5] (fun x wr => ∃ k : Nat, k ≤ n ∧ x = .int .i64 (k : Int) ∧ Hid (Below w.heap.size w wr)) (fun x _ => n - (intOf x).toNat)
  case atStart => exact ⟨0, Nat.zero_le _, rfl, Below.refl _ _⟩
  case round =>
    obtain ⟨k, hk, rfl, HW⟩ := hrel
    by_cases hlt : k < n
    · have hlt2 : (k : Int) < (n : Int) := by omega
      obtain ⟨x, hx⟩ : ∃ x, l[k]? = some x := ⟨_, List.getElem?_eq_getElem (by rw [← HN.out]; exact hlt)⟩
      obtain ⟨g, off, rfl, d0, d1⟩ := HA.out.at HW.out (Nat.le_refl _) k x hx
      obtain ⟨g', off', rfl, e0, e1⟩ := HB.out.at HW.out (Nat.le_refl _) k x hx
      clear hx
      have hq := run_eqP x.1 x.2
      go_wp2_with fail
      go_region
      go_wp2_with fail
      go_roundw
      case rel => exact ⟨k + 1, by omega, by go_num, HW.out.drew⟩
      case measure => simp [intOf]; omega
    · obtain rfl : k = n := by omega
      clear hlt
      go_wp2_with fail
      go_ret
      exact ⟨rfl, HW.out⟩
end Go.Proofs.Ytkjoadncbfhjfaa
