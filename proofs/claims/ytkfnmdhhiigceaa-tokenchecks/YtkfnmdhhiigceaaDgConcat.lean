/-
  slices.Grow and slices.Concat of two rows of bytes; digest.Link, masked, blockKey, by contracts.
-/
import Derived.Test.YtkfnmdhhiigceaaDgSumP
import Derived.Test.YtkfnmdhhiigceaaDgHexP
import Derived.Lib.AppendZeros
namespace Go.Proofs.Ytkfnmdhhiigceaa.Dg
open Go.RowKit
theorem Bs_one (w : World) (x : Int) : Bs (w.alloc (.cells #[.int .u8 x] 5)) (.slice (some ⟨w.heap.size, 0, none⟩) 1 1) [x] := Bs_of_block (zs := [x]) (heap_alloc_new w _) (by simp [maxLen])
theorem exec_append {a : Act} {o : Oper} (s x : Operand) (t tn : TypeId) (ho : o.op = .call { callee := .builtin .append, args := #[s, x], argTypes := #[t, tn] }) (vs vx v : Value) (w W : World) (hs : a.eval s = vs) (hx : a.eval x = vx)
    (h : (Builtin.append_ #[t, tn] o.type #[vs, vx]).run Try.prog w = .ok v W) : (execOp a.eval o).run Try.prog w = .ok (.value v) W := by
  unfold execOp
  simp only [ho, resolve, invoke, builtin, Sem.run_bind, Sem.run_pure, Result.andThen_ok, List.map_toArray, List.map_cons, List.map_nil, hs, hx, h]
theorem grow_nil (n : Nat) (hn : n ≤ 1000000000) (w : World) :
    Calls Try.prog 37 #[.slice none 0 0, .int .i64 (n : Int)] w fun e w' => ∃ ao cap, e = .returned (.slice ao 0 cap) ∧ Ow w' w.heap.size (.slice ao 0 cap) [] ∧ Below w.heap.size w w' := by
  by_cases h0 : n = 0
  · subst h0
    go_enter Try.func37, Try.ntmps37
    go_wp2
    go_ret
    exact ⟨none, 0, rfl, World.ownsRow_nil _ _ _ _, Below.refl _ _⟩
  · obtain ⟨i0, hi0, hz0, hz1, hz2⟩ := info_parts Try.info5
    have hrun := Lib.run_append_nil_zeros (P := Try.prog) w 22 3 22 5 i0 (.int .u8 0) .i64 .i64 Try.underlying22 Try.underlying3 hi0 hz0 n (by omega) (by rw [hz1]; decide) (by omega) (by rw [hz2]; omega)
    have hge := grownCap_ge w n 0 5
    have hle := grownCap_le_maxLen w n 0 5 (by unfold maxLen; omega)
    have hp : (0 : Int) < (n : Int) := by omega
    generalize grownCap w n 0 5 = c at *
    have ho : Ow (w.drew.alloc (.cells (Builtin.zeroCells (Value.int .u8 0).cells n ++ Builtin.zeroCells (Value.int .u8 0).cells (c - n)) 5)) w.heap.size (.slice (some ⟨w.heap.size, 0, none⟩) 0 c) [] := by
      refine ⟨rfl, Or.inr ⟨w.heap.size, c, _, rfl, Nat.le_refl _, heap_alloc_new w.drew _, Nat.zero_le _, hle, ?_, rfl⟩⟩
      simp [Builtin.zeroCells, Value.cells]
      omega
    have B : Below w.heap.size w (w.drew.alloc (.cells (Builtin.zeroCells (Value.int .u8 0).cells n ++ Builtin.zeroCells (Value.int .u8 0).cells (c - n)) 5)) := (Below.refl _ w).drew.alloc (Nat.le_refl _) _
    generalize (w.drew.alloc (.cells (Builtin.zeroCells (Value.int .u8 0).cells n ++ Builtin.zeroCells (Value.int .u8 0).cells (c - n)) 5)) = W at *
    have HC : Hid (n ≤ c) := hge
    unfold maxLen at hle
    have hci : (0 : Int) ≤ (c : Int) := by omega
    have HRUN := hid_into hrun
    clear hrun
    go_enter Try.func37, Try.ntmps37
    go_wp2_with (at_builtin; refine Great.wpList_runTo rfl (some 22) rfl (.slice (some ⟨w.heap.size, 0, none⟩) n c) W (exec_append (.tmp 20) (.tmp 21) 22 3 rfl (.slice none 0 0) (.int .i64 (n : Int)) _ _ _ rfl rfl HRUN.out) ?_)
    go_ret
    exact ⟨_, c, rfl, ho, B⟩
theorem take_setJ (A B : List Int) (k : Nat) (h1 : k < B.length) (h2 : A.length = B.length) : (A.take k ++ B.drop k).set k (A.getD k 0) = A.take (k + 1) ++ B.drop (k + 1) := by
  rw [List.set_append_right _ _ (by simp; omega), show k - (A.take k).length = 0 by simp; omega, List.drop_eq_getElem_cons h1, List.take_succ_eq_append_getElem (by omega)]
  simp only [List.getD, List.getElem?_eq_getElem (show k < A.length by omega), Option.getD_some, List.append_assoc]
  rfl
theorem take_getI (A B : List Int) (k : Nat) (h2 : A.length = B.length) (h : k < B.length) : (A.take k ++ B.drop k).getD k 0 = B.getD k 0 := by
  simp only [List.getD]
  rw [List.getElem?_append_right (by simp; omega)]
  simp [show k - min k A.length = 0 by omega]
theorem xorL_get (m : Nat) (k : List Int) (i : Nat) (h : i < k.length) : (xorL m k).getD i 0 = (((k.getD i 0).toNat ^^^ m : Nat) : Int) := by
  simp [xorL, List.getD, h]
set_option maxRecDepth 20000 in
set_option maxHeartbeats 800000 in
theorem masked_any (k : List Int) (m : Nat) (w : World) (hl : k.length = 64) (hby : Byt k) (hm : m < 256) :
    Calls Try.prog 30 #[.agg (cellsOf k).toArray, .int .u8 (m : Int)] w fun e w' => e = .returned (.slice (some ⟨w.heap.size, 0, none⟩) 64 64) ∧ Bs w' (.slice (some ⟨w.heap.size, 0, none⟩) 64 64) (xorL m k) ∧ Below w.heap.size w w' := by
  have HHL := hid_into hl
  have HBY := hid_into hby
  clear hl hby
  go_enter Try.func30, Try.ntmps30
  refine wp_seq (wp_region_lit (wpList_box_row rfl 58 (.tmp 0) rfl (cellsOf k) rfl ?_))
  intro W1 hc1 B1 HS1
  go_wp2_with fail
  go_loopw [6] (fun iv wx => ∃ i : Nat, i ≤ 64 ∧ iv = .int .i64 (i : Int) ∧ Cw wx w.heap.size (cellsOf ((xorL m k).take i ++ k.drop i)) 58 ∧ Below w.heap.size w wx) (fun iv _ => 64 - (intOf iv).toNat)
  case atStart => exact ⟨0, Nat.zero_le _, rfl, hc1, B1⟩
  case round =>
    clear hc1 B1
    obtain ⟨i, hi, rfl, hc, bel⟩ := hrel
    have hxl : (xorL m k).length = 64 := by simp [xorL, HHL.out]
    by_cases hi64 : i < 64
    · have hll : ((xorL m k).take i ++ k.drop i).length = 64 := by rw [List.length_append, List.length_take, List.length_drop, hxl, HHL.out]; omega
      have hck := hc.byte i (by rw [hll]; exact hi64)
      rw [take_getI _ k i (by rw [hxl, HHL.out]) (by rw [HHL.out]; exact hi64)] at hck
      have hfk := hc.frozen i
      have hb := HBY.out.get i
      have HX := hid_into (xorL_get m k i (by rw [HHL.out]; exact hi64))
      have hcw2 := hc.setB i ((xorL m k).getD i 0)
      rw [take_setJ (xorL m k) k i (by rw [HHL.out]; exact hi64) (by rw [hxl, HHL.out]), HX.out] at hcw2
      have HB := hid_into (fun x => bel.setCell (p := ⟨w.heap.size, i, none⟩) (Nat.le_refl _) x)
      generalize k.getD i 0 = x at *
      obtain ⟨X, rfl⟩ := Int.eq_ofNat_of_zero_le hb.1
      rw [Int.toNat_natCast] at hcw2
      have e1 : bits .xor .u8 (X : Int) (m : Int) = ((X ^^^ m : Nat) : Int) := u8_xor_nat X m (by omega) hm
      have hi' : (i : Int) < 64 := by omega
      replace hcw2 := hid_into hcw2
      clear hc bel hll HX
      go_wp2_with fail
      go_roundw
      case rel => exact ⟨i + 1, by omega, by go_num, hcw2.out, HB.out _⟩
      case measure => simp [intOf]; omega
    · have hfin : Cw wr w.heap.size (cellsOf (xorL m k)) 58 := by
        have e : (xorL m k).take i ++ k.drop i = xorL m k := by
          rw [List.take_of_length_le (by rw [hxl]; omega), List.drop_of_length_le (by rw [HHL.out]; omega), List.append_nil]
        rw [e] at hc; exact hc
      have hbs := hfin.bs (by rw [hxl]; unfold maxLen; omega)
      rw [hxl] at hbs
      clear hc hfin
      go_wp2_with fail
      go_ret
      exact ⟨rfl, hbs, bel⟩
set_option maxRecDepth 20000 in
set_option maxHeartbeats 600000 in
theorem concat_two (b : Nat) (v1 v2 : Value) (xs ys : List Int) (w : World) (hc : Cw w b [v1, v2] 22) (h1 : Bs w v1 xs) (h2 : Bs w v2 ys) (hx : xs.length ≤ 1000000) (hy : ys.length ≤ 1000000) :
    Calls Try.prog 29 #[.slice (some ⟨b, 0, none⟩) 2 2] w fun e w' => ∃ ao cap, e = .returned (.slice ao (xs ++ ys).length cap) ∧ Ow w' w.heap.size (.slice ao (xs ++ ys).length cap) (xs ++ ys) ∧ Below w.heap.size w w' := by
  obtain ⟨a1, c1, e1, _⟩ := h1.len
  obtain ⟨a2, c2, e2, _⟩ := h2.len
  subst e1; subst e2
  have k0 : w.cell? ⟨b, 0, none⟩ = some (.slice a1 xs.length c1) := by rw [hc.cell]; rfl
  have k1 : w.cell? ⟨b, 1, none⟩ = some (.slice a2 ys.length c2) := by rw [hc.cell]; rfl
  go_enter Try.func29, Try.ntmps29
  go_wp2_with fail
  go_loopw [3, 11] (fun sv iv wx => ∃ (i s : Nat), i ≤ 2 ∧ iv = .int .i64 (i : Int) ∧ sv = .int .i64 (s : Int) ∧ Hid ((i = 0 ∧ s = 0) ∨ (i = 1 ∧ s = xs.length) ∨ (i = 2 ∧ s = xs.length + ys.length)) ∧ Hid (wx = w)) (fun _ iv _ => 2 - (intOf iv).toNat)
  case atStart => exact ⟨0, 0, Nat.zero_le _, rfl, rfl, Or.inl ⟨rfl, rfl⟩, rfl⟩
  case round =>
    obtain ⟨i, s, hi, rfl, rfl, HS, HW⟩ := hrel
    have k0' : wr.cell? ⟨b, 0, none⟩ = some (.slice a1 xs.length c1) := by rw [HW.out]; exact k0
    have k1' : wr.cell? ⟨b, 1, none⟩ = some (.slice a2 ys.length c2) := by rw [HW.out]; exact k1
    rcases HS.out with ⟨hi0, hs0⟩ | ⟨hi0, hs0⟩ | ⟨hi0, hs0⟩
    · have hi2 : (i : Int) < 2 := by omega
      subst hi0; subst hs0
      go_wp2_with fail
      go_roundw
      case rel => exact ⟨1, xs.length, by decide, by go_num, by go_num, Or.inr (Or.inl ⟨rfl, rfl⟩), HW⟩
      case measure => simp [intOf]
    · have hi2 : (i : Int) < 2 := by omega
      subst hi0; subst hs0
      go_wp2_with fail
      go_roundw
      case rel => exact ⟨2, xs.length + ys.length, by decide, by go_num, by go_num, Or.inr (Or.inr ⟨rfl, rfl⟩), HW⟩
      case measure => simp [intOf]
    · have hi2 : ¬ (i : Int) < 2 := by omega
      have hsl : s ≤ 1000000000 := by omega
      have HSL := hid_into hs0
      have hcr : Cw wr b [.slice a1 xs.length c1, .slice a2 ys.length c2] 22 := by rw [HW.out]; exact hc
      have h1r : Bs wr (.slice a1 xs.length c1) xs := by rw [HW.out]; exact h1
      have h2r : Bs wr (.slice a2 ys.length c2) ys := by rw [HW.out]; exact h2
      have HSZ : Hid (wr.heap.size = w.heap.size) := by show _ = _; rw [HW.out]
      have HBW : Hid (Below w.heap.size w wr) := by rw [HW.out]; exact Below.refl _ _
      clear hi0 hs0 HS k0 k1 k0' k1'
      go_wp2_with fail
      refine (grow_nil s hsl wr).mono ?_
      rintro e W1 ⟨ao, cap, rfl, ho1, B1⟩
      have BB1 : Below w.heap.size w W1 := HBW.out.trans (B1.mono (by rw [HSZ.out]; exact Nat.le_refl _))
      have hc1 := hcr.below B1 hcr.lt
      have h11 := h1r.below B1 (Nat.le_refl _)
      have h21 := h2r.below B1 (Nat.le_refl _)
      rw [HSZ.out] at ho1
      have HZ1 : Hid (w.heap.size ≤ W1.heap.size) := BB1.size
      have HLB : Hid (b < w.heap.size) := by show _ < _; rw [← HSZ.out]; exact hcr.lt
      have HL1 : Hid (∀ k, (Value.slice a1 xs.length c1).ownBlock = some k → 0 < xs.length → k < w.heap.size) := by
        intro k hk h0
        obtain ⟨b1, o1, d1, hv, _, _, hcl⟩ := h1.form (by intro h; rw [h] at h0; cases h0)
        rw [hv] at hk
        have e : b1 = k := by simpa [Value.ownBlock] using hk
        rw [← e]; exact World.block_lt_of_cell? w _ (hcl 0 h0)
      have HL2 : Hid (∀ k, (Value.slice a2 ys.length c2).ownBlock = some k → 0 < ys.length → k < w.heap.size) := by
        intro k hk h0
        obtain ⟨b1, o1, d1, hv, _, _, hcl⟩ := h2.form (by intro h; rw [h] at h0; cases h0)
        rw [hv] at hk
        have e : b1 = k := by simpa [Value.ownBlock] using hk
        rw [← e]; exact World.block_lt_of_cell? w _ (hcl 0 h0)
      have H1W := hid_into h1
      have H2W := hid_into h2
      have HCW := hid_into hc
      clear hcr h1r h2r B1 HBW HW hc1 h11 h21 h1 h2 hc
      go_wp2_with fail
      go_loopw [6, 27] (fun nv iv wx => ∃ (i : Nat) (zs : List Int) (ao : Option Addr) (cap : Nat), i ≤ 2 ∧ iv = .int .i64 (i : Int) ∧ Hid ((i = 0 ∧ zs = []) ∨ (i = 1 ∧ zs = xs) ∨ (i = 2 ∧ zs = xs ++ ys)) ∧ nv = .slice ao zs.length cap ∧ Ow wx w.heap.size (.slice ao zs.length cap) zs ∧ Below w.heap.size w wx) (fun _ iv _ => 2 - (intOf iv).toNat)
      case atStart => exact ⟨0, [], ao, cap, Nat.zero_le _, rfl, Or.inl ⟨rfl, rfl⟩, rfl, ho1, BB1⟩
      case round =>
        clear ho1 BB1
        obtain ⟨i, zs, ao3, cap3, hi, rfl, HS, rfl, ho, bel⟩ := hrel
        have hcr := HCW.out.below bel HLB.out
        have k0 : wr.cell? ⟨b, 0, none⟩ = some (.slice a1 xs.length c1) := by rw [hcr.cell]; rfl
        have k1 : wr.cell? ⟨b, 1, none⟩ = some (.slice a2 ys.length c2) := by rw [hcr.cell]; rfl
        have h1r := H1W.out.below bel (Nat.le_refl _)
        have h2r := H2W.out.below bel (Nat.le_refl _)
        have HZR := hid_into bel.size
        rcases HS.out with ⟨hi0, hs0⟩ | ⟨hi0, hs0⟩ | ⟨hi0, hs0⟩
        · subst hi0; subst hs0
          clear HS
          go_wp2_with (at_builtin; refine wpList_append_bs _ rfl (.tmp 31) (.tmp 32) rfl w.heap.size _ [] rfl ho _ xs rfl h1r (by simp; omega) HZR.out ?_; intro ao5 cap5 W5 ho5 hg5 hat5; have hB5 := grown_below hg5 ho HZR.out; clear hg5 hat5)
          have bel5 : Below w.heap.size w W5 := bel.trans hB5
          have ho5' : Ow W5 w.heap.size (.slice ao5 xs.length cap5) xs := by simpa using ho5
          clear ho bel hB5 ho5
          go_wp2_with fail
          go_roundw
          case rel => exact ⟨1, xs, ao5, cap5, by decide, by go_num, Or.inr (Or.inl ⟨rfl, rfl⟩), by simp, ho5', bel5⟩
          case measure => simp [intOf]
        · subst hi0; subst hs0
          clear HS
          go_wp2_with (at_builtin; refine wpList_append_bs _ rfl (.tmp 31) (.tmp 32) rfl w.heap.size _ zs rfl ho _ ys rfl h2r (by omega) HZR.out ?_; intro ao5 cap5 W5 ho5 hg5 hat5; have hB5 := grown_below hg5 ho HZR.out; clear hg5 hat5)
          have bel5 : Below w.heap.size w W5 := bel.trans hB5
          have ho5' : Ow W5 w.heap.size (.slice ao5 (zs ++ ys).length cap5) (zs ++ ys) := by rw [List.length_append]; exact ho5
          clear ho bel hB5 ho5
          go_wp2_with fail
          go_roundw
          case rel => exact ⟨2, zs ++ ys, ao5, cap5, by decide, by go_num, Or.inr (Or.inr ⟨rfl, rfl⟩), by simp, ho5', bel5⟩
          case measure => simp [intOf]
        · have hi2 : ¬ (i : Int) < 2 := by omega
          have HE := hid_into hs0
          clear hi0 hs0 HS k0 k1 h1r h2r hcr
          go_wp2_with fail
          go_ret
          have e := HE.out
          rw [e, List.length_append] at ho
          exact ⟨ao3, cap3, by rw [e, List.length_append]; rfl, ho, bel⟩
end Go.Proofs.Ytkfnmdhhiigceaa.Dg
