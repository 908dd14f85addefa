/-
  The document's own Hex, by contract.
-/
import Derived.Test.YtkfmplkbimnjfaaHexP
namespace Go.Proofs.Ytkfmplkbimnjfaa
open Go.RowKit
theorem run_hexcut (n : Nat) (hn : n < 16) (w : World) : (Instr.sliceAt 9 (.string hexS) (some (.int .u8 (n : Int))) (some (.int .u8 ((n : Int) + 1))) none).run Try.prog w = .ok (.string (strOfNums [((hexN.getD n 0 : Nat) : Int)])) w := by
  have : n = 0 ∨ n = 1 ∨ n = 2 ∨ n = 3 ∨ n = 4 ∨ n = 5 ∨ n = 6 ∨ n = 7 ∨ n = 8 ∨ n = 9 ∨ n = 10 ∨ n = 11 ∨ n = 12 ∨ n = 13 ∨ n = 14 ∨ n = 15 := by omega
  rcases this with rfl | rfl | rfl | rfl | rfl | rfl | rfl | rfl | rfl | rfl | rfl | rfl | rfl | rfl | rfl | rfl <;> rfl
theorem exec_cut {a : Act} {o : Oper} (ty : TypeId) (x y z : Operand) (ho : o.op = .slice ty x (some y) (some z) none) (vx vy vz v : Value) (hx : a.eval x = vx) (hy : a.eval y = vy) (hz : a.eval z = vz) (h : ∀ w, (Instr.sliceAt ty vx (some vy) (some vz) none).run Try.prog w = .ok v w) (w : World) : (execOp a.eval o).run Try.prog w = .ok (.value v) w := by
  unfold execOp
  simp only [ho, hx, hy, hz, Sem.run_bind, h, Result.andThen_ok, Sem.run_pure, Option.map_some, Option.map_none]
theorem strOfNums_app (a b : List Int) : strOfNums a ++ strOfNums b = strOfNums (a ++ b) := by
  apply ByteArray.ext
  simp [strOfNums]
set_option maxHeartbeats 800000 in
theorem rhex_any (h : List Int) (w : World) (hl : h.length = 32) (hby : Byt h) :
    Calls Try.prog 15 #[.agg (cellsOf h).toArray] w fun e w' => e = .returned (.string (strOfNums (hexI h))) ∧ Below w.heap.size w w' := by
  have HHL := hid_into hl
  have HBY := hid_into hby
  clear hl hby
  go_enter Try.func15, Try.ntmps15
  refine wp_seq (wp_region_lit (wpList_box_row rfl 25 (.tmp 0) rfl (cellsOf h) rfl ?_))
  intro W1 hc1 B1 HS1
  go_wp2_with fail
  go_loopw [3, 4] (fun sv iv wx => ∃ (k : Nat) (s : ByteArray), k ≤ 32 ∧ iv = .int .i64 k ∧ sv = .string s ∧ Hid (s = strOfNums (hexI (h.take k))) ∧ Cw wx w.heap.size (cellsOf h) 25 ∧ Below w.heap.size w wx) (fun _ iv _ => 32 - (intOf iv).toNat)
  case atStart => exact ⟨0, _, Nat.zero_le _, rfl, rfl, rfl, hc1, B1⟩
  case round =>
    clear hc1 B1
    obtain ⟨k, s, hk, rfl, rfl, HY, hc, bel⟩ := hrel
    by_cases hk32 : k < 32
    · have hck := hc.byte k (by rw [HHL.out]; exact hk32)
      have hb := HBY.out.get k
      have HSUC := hid_into (hexI_take h k (by rw [HHL.out]; exact hk32))
      generalize h.getD k 0 = x at *
      obtain ⟨X, rfl⟩ := Int.eq_ofNat_of_zero_le hb.1
      have hX : X < 256 := by omega
      have hk32' : (k : Int) < 32 := by omega
      obtain ⟨q, hq⟩ : ∃ q, q = X / 16 := ⟨_, rfl⟩
      obtain ⟨r, hr⟩ : ∃ r, r = X % 16 := ⟨_, rfl⟩
      have q1 : (X : Int) / 16 = (q : Int) := by omega
      have r1 : (X : Int) % 16 = (r : Int) := by omega
      have rt : (X : Int).tmod 16 = (r : Int) := by rw [Int.tmod_eq_emod_of_nonneg (by omega)]; exact r1
      have q2 : (q : Int) < 16 := by omega
      have r2 : (r : Int) < 16 := by omega
      have HQ := hid_into hq
      have HR := hid_into hr
      have q3 : IntKind.u8.wrap ((q : Int) + 1) = ((q + 1 : Nat) : Int) := by rw [IntKind.wrap_u8']; omega
      have r3 : IntKind.u8.wrap ((r : Int) + 1) = ((r + 1 : Nat) : Int) := by rw [IntKind.wrap_u8']; omega
      have q0 : IntKind.u8.wrap (q : Int) = (q : Int) := by rw [IntKind.wrap_u8']; omega
      have r0 : IntKind.u8.wrap (r : Int) = (r : Int) := by rw [IntKind.wrap_u8']; omega
      obtain ⟨t1, ht1⟩ : ∃ t, t = strOfNums [((hexN.getD q 0 : Nat) : Int)] := ⟨_, rfl⟩
      obtain ⟨t2, ht2⟩ : ∃ t, t = strOfNums [((hexN.getD r 0 : Nat) : Int)] := ⟨_, rfl⟩
      have hcut1 := run_hexcut q (by omega)
      have hcut2 := run_hexcut r (by omega)
      rw [← ht1] at hcut1
      rw [← ht2] at hcut2
      have z1 : t1.size = 1 := by rw [ht1, strOfNums_size]; rfl
      have z2 : t2.size = 1 := by rw [ht2, strOfNums_size]; rfl
      have zs : s.size = 2 * k := by rw [HY.out, strOfNums_size, hexI_len, List.length_take, HHL.out]; omega
      have n1 : ¬ 9223372036854775807 < s.size + t1.size := by omega
      have n2 : ¬ 9223372036854775807 < (s ++ t1).size + t2.size := by rw [ByteArray.size_append]; omega
      have n2' : ¬ 9223372036854775807 < s.size + t1.size + t2.size := by omega
      have HT1 := hid_into ht1
      have HT2 := hid_into ht2
      replace hcut1 := hid_into hcut1
      replace hcut2 := hid_into hcut2
      clear hq hr hX hb ht1 ht2 z1 z2 zs
      go_wp2_with fail
      refine wp_region_still_lit (by kernel_rfl) (by kernel_rfl) ?_
      change wpStill _ _ (World.drew _) _ _ _
      repeat still_step
      refine wpStill_step (fun K hK => ?_)
      rw [if_pos (by rfl)]
      unfold Oper.still
      rw [exec_cut 9 (.const (.string hexS)) (.tmp 13) (.tmp 18) rfl (.string hexS) (.int .u8 (q : Int)) (.int .u8 ((q : Int) + 1)) _ rfl rfl rfl hcut1.out, Oper.stillUpon_value]
      refine hK _ ?_
      clear hK K
      simp only [Act.put, List.setIfInBounds_toArray, List.set_cons_zero, List.set_cons_succ]
      repeat still_step
      refine wpStill_step (fun K hK => ?_)
      rw [if_pos (by rfl)]
      unfold Oper.still
      rw [exec_cut 9 (.const (.string hexS)) (.tmp 24) (.tmp 29) rfl (.string hexS) (.int .u8 (r : Int)) (.int .u8 ((r : Int) + 1)) _ rfl rfl rfl hcut2.out, Oper.stillUpon_value]
      refine hK _ ?_
      clear hK K
      simp only [Act.put, List.setIfInBounds_toArray, List.set_cons_zero, List.set_cons_succ]
      repeat still_step
      refine wpStill_nil ?_
      go_wp2_with fail
      go_roundw
      case rel =>
        refine ⟨k + 1, _, by omega, by go_num, rfl, ?_, hc, bel.drew⟩
        show _ = _
        rw [HY.out, HT1.out, HT2.out, HSUC.out, HQ.out, HR.out, Int.toNat_natCast, strOfNums_app, strOfNums_app, List.append_assoc]
        rfl
      case measure => simp [intOf]; omega
    · have HE : Hid (s = strOfNums (hexI h)) := by
        show _ = _
        rw [HY.out, List.take_of_length_le (by rw [HHL.out]; omega)]
      go_wp2_with fail
      go_ret
      exact ⟨by rw [HE.out]; rfl, bel⟩
end Go.Proofs.Ytkfmplkbimnjfaa
