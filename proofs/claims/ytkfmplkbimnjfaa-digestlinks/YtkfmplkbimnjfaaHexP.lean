/-
  digest.Hex, by contract: a digest's digits.
-/
import Derived.Test.YtkfmplkbimnjfaaEnding
import Derived.OwnWalk
import Derived.Laws.BytesArg
import Derived.StillTailTactics
namespace Go.Proofs.Ytkfmplkbimnjfaa
open Go.RowKit
def hexI (h : List Int) : List Int := (hexL h).map fun (x : Nat) => (x : Int)
theorem run_index_b (w : World) (ws : List Int) (i n : Nat) (ty : TypeId) (hu : Try.prog.underlying ty = some (.array n 5)) (hi : i < n) (hl : ws.length = n) :
    (Instr.index ty (.agg (cellsOf ws).toArray) (.int .i64 (i : Int))).run Try.prog w = .ok (.int .u8 (ws.getD i 0)) w := by
  have hs : (sizeOf 5).run Try.prog w = .ok 1 w := by kernel_rfl
  have hp : (part 5 (cellsOf ws).toArray (i * 1)).run Try.prog w = .ok (.int .u8 (ws.getD i 0)) w := by
    simp [part, isAgg, run_underlying Try.underlying5, cellsOf, List.getD, List.getElem?_eq_getElem (show i < ws.length by omega)]
  have h0 : (0 : Int) ≤ (i : Int) ∧ (i : Int) < (n : Int) := by omega
  simp only [Instr.index, asIntOf, Sem.run_bind, Sem.run_pure, Result.andThen_ok, run_underlying hu, h0, and_self, if_true, hs, Int.toNat_natCast, hp]
theorem hexI_cons (x : Int) (h : List Int) : hexI (x :: h) = ((hexN.getD (x.toNat / 16) 0 : Nat) : Int) :: ((hexN.getD (x.toNat % 16) 0 : Nat) : Int) :: hexI h := rfl
theorem hexI_app : ∀ (a b : List Int), hexI (a ++ b) = hexI a ++ hexI b
  | [], _ => rfl
  | x :: a, b => by rw [List.cons_append, hexI_cons, hexI_cons, hexI_app a b]; rfl
theorem hexI_len : ∀ (h : List Int), (hexI h).length = 2 * h.length
  | [] => rfl
  | x :: h => by rw [hexI_cons, List.length_cons, List.length_cons, hexI_len h, List.length_cons]; omega
theorem hexI_take (h : List Int) (k : Nat) (hk : k < h.length) : hexI (h.take (k + 1)) = hexI (h.take k) ++ [((hexN.getD ((h.getD k 0).toNat / 16) 0 : Nat) : Int), ((hexN.getD ((h.getD k 0).toNat % 16) 0 : Nat) : Int)] := by
  rw [List.take_succ_eq_append_getElem hk, hexI_app]
  have e : h.getD k 0 = h[k] := by simp [List.getD, hk]
  rw [e]
  rfl
def hexS : ByteArray := ⟨#[48, 49, 50, 51, 52, 53, 54, 55, 56, 57, 97, 98, 99, 100, 101, 102]⟩
theorem run_hexdig (n : Nat) (hn : n < 16) (w : World) : (Instr.index 9 (.string hexS) (.int .u8 (n : Int))).run Try.prog w = .ok (.int .u8 ((hexN.getD n 0 : Nat) : Int)) w := by
  have : n = 0 ∨ n = 1 ∨ n = 2 ∨ n = 3 ∨ n = 4 ∨ n = 5 ∨ n = 6 ∨ n = 7 ∨ n = 8 ∨ n = 9 ∨ n = 10 ∨ n = 11 ∨ n = 12 ∨ n = 13 ∨ n = 14 ∨ n = 15 := by omega
  rcases this with rfl | rfl | rfl | rfl | rfl | rfl | rfl | rfl | rfl | rfl | rfl | rfl | rfl | rfl | rfl | rfl <;> rfl
theorem exec_index {a : Act} {o : Oper} (ty : TypeId) (x y : Operand) (ho : o.op = .index ty x y) (vx vy v : Value) (hx : a.eval x = vx) (hy : a.eval y = vy) (h : ∀ w, (Instr.index ty vx vy).run Try.prog w = .ok v w) (w : World) : (execOp a.eval o).run Try.prog w = .ok (.value v) w := by
  unfold execOp
  simp only [ho, hx, hy, Sem.run_bind, h, Result.andThen_ok, Sem.run_pure]
theorem exec_convert {a : Act} {o : Oper} (s t : TypeId) (x : Operand) (ho : o.op = .convert s t x) (vx v : Value) (hx : a.eval x = vx) (w : World) (h : (convert s t vx).run Try.prog w = .ok v w) : (execOp a.eval o).run Try.prog w = .ok (.value v) w := by
  unfold execOp
  simp only [ho, hx, Sem.run_bind, h, Result.andThen_ok, Sem.run_pure]
theorem wp_append_bs (w : World) {o : Oper} {a : Act} {K : Act → World → Prop} {Q : Exit → Act → World → Prop} (s x : Operand)
    (ho : o.op = .call { callee := .builtin .append, args := #[s, x], argTypes := #[22, 22] })
    (base : Nat) (v : Value) (xs : List Int) (hs : a.eval s = v) (hown : Ow w base v xs) (vx : Value) (zs : List Int) (hx : a.eval x = vx) (hb : Bs w vx zs)
    (h63 : xs.length + zs.length ≤ 140737488355328) (hbase : base ≤ w.heap.size)
    (h : ∀ ao cap w', Ow w' base (.slice ao (xs.length + zs.length) cap) (xs ++ zs) → w.grownBy w' v.ownBlock → K (a.put o.dst (.slice ao (xs.length + zs.length) cap)) w') : o.wp Try.prog a w K Q := by
  obtain ⟨ao, cap, w', hr, h2, h3, h4⟩ := run_append_bs w base o.type v xs hown vx zs hb h63 hbase
  unfold Oper.wp execOp
  simp only [ho, resolve, invoke, builtin, Sem.run_bind, Sem.run_pure, Result.andThen_ok, List.map_toArray, List.map_cons, List.map_nil, hs, hx, hr]
  exact h ao cap w' h2 h3
theorem Bs_two (w : World) (x y : Int) : Bs (w.alloc (.cells #[.int .u8 x, .int .u8 y] 5)) (.slice (some ⟨w.heap.size, 0, none⟩) 2 2) [x, y] := Bs_of_block (zs := [x, y]) (heap_alloc_new w _) (by simp [maxLen])
theorem grown_below {w w' : World} {base : Nat} {v : Value} {zs : List Int} (h : w.grownBy w' v.ownBlock) (ho : Ow w base v zs) (hb : base ≤ w.heap.size) : Below base w w' :=
  ⟨h.os, h.tape, h.output, h.size, fun k hk => h.block k (by omega) (fun e => by have := (World.ownsRow.lt ho k e.symm).1; omega)⟩
theorem Ow.alloc' {w : World} {base : Nat} {v : Value} {zs : List Int} (h : Ow w base v zs) (b : Obj) : Ow (w.alloc b) base v zs := World.ownsRow.alloc h b
set_option maxHeartbeats 1600000 in
theorem hex_any (h : List Int) (w : World) (hl : h.length = 32) (hby : Byt h) :
    Calls Try.prog 14 #[.agg (cellsOf h).toArray] w fun e w' => e = .returned (.string (strOfNums (hexI h))) ∧ Below w.heap.size w w' := by
  have HIh := hsB (ws := h) Try.size25 hl
  have HHL := hid_into hl
  have HBY := hid_into hby
  clear hl hby
  go_enter Try.func14, Try.ntmps14
  refine wp_seq (wp_region_lit (wpList_box_row rfl 25 (.tmp 0) rfl (cellsOf h) rfl ?_))
  intro W1 hc1 B1 HS1
  obtain ⟨i0, hi0, hz0, hz1, hz2⟩ := info_parts Try.info5
  go_wp2_with (first
    | (at_make; refine wpList_make_own _ rfl _ _ 22 rfl (w.heap.size + 1) 5 i0 (.int .u8 0) 1 Try.underlying22 hi0 hz0 hz1 .i64 .i64 64 64 rfl rfl rfl (by rw [hz2]; omega) (by unfold maxLen; omega) (by rw [HS1.out]; exact Nat.le_refl _) ?_; intro W2 ho2 hg2; have B2 : Below (w.heap.size + 1) W1 W2 := ⟨hg2.os, hg2.tape, hg2.output, hg2.size, fun i hi => hg2.block i (by rw [HS1.out]; omega) (by simp)⟩; have hc2 : Cw W2 w.heap.size (cellsOf h) 25 := hc1.below B2 (by omega))
    | (refine wpList_load_rw rfl 25 (.tmp 1) rfl w.heap.size (cellsOf h) 25 _ rfl hc2 Try.underlying25 rfl HIh ?_))
  have BB2 : Below w.heap.size w W2 := B1.trans (B2.mono (by omega))
  have HS2 : Hid (w.heap.size + 1 ≤ W2.heap.size) := by have := B2.size; rw [HS1.out] at this; exact this
  obtain ⟨gb, hgb⟩ : ∃ gb, gb = W1.heap.size := ⟨_, rfl⟩
  rw [← hgb] at ho2
  simp only [← hgb]
  have ho0 : Ow W2 (w.heap.size + 1) (.slice (some ⟨gb, 0, none⟩) ([] : List Int).length 64) [] := ho2
  clear ho2 hg2 B2 hc1 B1 HS1 hc2 hgb
  go_loopw [3, 8] (fun tv iv wx => ∃ (k : Nat) (ys : List Int) (ao : Option Addr) (cap : Nat), k ≤ 32 ∧ iv = .int .i64 k ∧ Hid (ys = hexI (h.take k)) ∧ tv = .slice ao ys.length cap ∧ Ow wx (w.heap.size + 1) (.slice ao ys.length cap) ys ∧ Below w.heap.size w wx ∧ Hid (w.heap.size + 1 ≤ wx.heap.size)) (fun _ iv _ => 32 - (intOf iv).toNat)
  case atStart => exact ⟨0, [], _, 64, Nat.zero_le _, rfl, rfl, rfl, ho0, BB2, HS2⟩
  case round =>
    clear ho0 BB2 HS2
    obtain ⟨k, ys, ao, cap, hk, rfl, HY, rfl, ho, bel, HSZ⟩ := hrel
    have HYL : Hid (ys.length = 2 * k) := by
      show _ = _
      rw [HY.out, hexI_len, List.length_take, HHL.out]; omega
    by_cases hk32 : k < 32
    · have hix := fun W => run_index_b W h k 32 25 Try.underlying25 hk32 HHL.out
      have hb := HBY.out.get k
      have HSUC := hid_into (hexI_take h k (by rw [HHL.out]; exact hk32))
      generalize h.getD k 0 = x at *
      obtain ⟨X, rfl⟩ := Int.eq_ofNat_of_zero_le hb.1
      have hX : X < 256 := by omega
      have e1 : bits .and .u8 (X : Int) 15 = ((X % 16 : Nat) : Int) := by
        have := u8_and_nat X 15 (by omega) (by decide)
        rw [nat_mask4] at this; exact this
      have hyl : ys.length ≤ 1000 := by have := HYL.out; omega
      rw [Int.toNat_natCast] at HSUC
      obtain ⟨c1, hc1⟩ : ∃ c, c = hexN.getD (X / 16) 0 := ⟨_, rfl⟩
      obtain ⟨c2, hc2⟩ : ∃ c, c = hexN.getD (X % 16) 0 := ⟨_, rfl⟩
      rw [← hc1, ← hc2] at HSUC
      go_wp2_with fail
      have hs1 : ∀ w, (Instr.index 9 (.string hexS) (.int .u8 ((X : Int) / 16))).run Try.prog w = .ok (.int .u8 (c1 : Int)) w := by
        intro w; rw [show (X : Int) / 16 = ((X / 16 : Nat) : Int) by omega, hc1]; exact run_hexdig (X / 16) (by omega) w
      have hs2 : ∀ w, (Instr.index 9 (.string hexS) (.int .u8 ((X % 16 : Nat) : Int))).run Try.prog w = .ok (.int .u8 (c2 : Int)) w := by
        intro w; rw [hc2]; exact run_hexdig (X % 16) (by omega) w
      replace hs1 := hid_into hs1
      replace hs2 := hid_into hs2
      clear hc1 hc2
      refine wp_region_any (by kernel_rfl) ?_
      change wpAny _ _ _ _ _ _ _ (World.drew _)
      refine wpAny_take (i := 0) (v := .slice ao ys.length cap) rfl (by kernel_rfl) (by kernel_rfl) (by kernel_rfl) (fun _ _ _ h => h) (Or.inl ⟨by rfl, by intro w; go_simp⟩) ?_
      refine wpAny_take (i := 1) (v := .int .u8 (X : Int)) rfl (by kernel_rfl) (by kernel_rfl) (by kernel_rfl) (fun _ _ _ h => h) (Or.inl ⟨by rfl, by intro w; go_simp⟩) ?_
      refine wpAny_take (i := 2) (v := .int .u8 ((X : Int) / 16)) rfl (by kernel_rfl) (by kernel_rfl) (by kernel_rfl) (fun _ _ _ h => h) (Or.inl ⟨by rfl, by intro w; go_simp⟩) ?_
      refine wpAny_take (i := 3) (v := .int .u8 (c1 : Int)) rfl (by kernel_rfl) (by kernel_rfl) (by kernel_rfl) (fun _ _ _ h => h) (Or.inl ⟨by rfl, fun w => exec_index 9 (.const (.string hexS)) (.tmp 13) rfl (.string hexS) (.int .u8 ((X : Int) / 16)) _ rfl rfl hs1.out w⟩) ?_
      refine wpAny_take (i := 4) (v := .int .u8 (X : Int)) rfl (by kernel_rfl) (by kernel_rfl) (by kernel_rfl) (fun _ _ _ h => h) (Or.inl ⟨by rfl, by intro w; go_simp⟩) ?_
      refine wpAny_take (i := 5) (v := .int .u8 ((X % 16 : Nat) : Int)) rfl (by kernel_rfl) (by kernel_rfl) (by kernel_rfl) (fun _ _ _ h => h) (Or.inl ⟨by rfl, by intro w; go_simp⟩) ?_
      refine wpAny_take (i := 6) (v := .int .u8 (c2 : Int)) rfl (by kernel_rfl) (by kernel_rfl) (by kernel_rfl) (fun _ _ _ h => h) (Or.inl ⟨by rfl, fun w => exec_index 9 (.const (.string hexS)) (.tmp 16) rfl (.string hexS) (.int .u8 ((X % 16 : Nat) : Int)) _ rfl rfl hs2.out w⟩) ?_
      refine wpAny_ready (rs := [7]) (by kernel_rfl) (by simp) ?_
      refine AllReady.cons rfl (fun K hK => ?_) AllReady.nil
      go_simp
      refine hK _ _ ?_
      clear hK K
      refine wpAny_ready (rs := [8]) (by kernel_rfl) (by simp) ?_
      refine AllReady.cons rfl (fun K hK => ?_) AllReady.nil
      rw [if_pos (by rfl)]
      refine wp_append_bs _ (.tmp 11) (.tmp 18) rfl (w.heap.size + 1) _ ys rfl (by exact ho.alloc' _) _ [(c1 : Int), (c2 : Int)] rfl (by exact Bs_two _ _ _) (by simp; omega) (by show _ ≤ (wr.alloc _).heap.size; rw [World.size_alloc]; exact Nat.le_succ_of_le HSZ.out) ?_
      intro ao5 cap5 W5 ho5 hg5
      have hB5 := grown_below hg5 (ho.alloc' _) (by show _ ≤ (wr.alloc _).heap.size; rw [World.size_alloc]; exact Nat.le_succ_of_le HSZ.out)
      refine hK _ _ ?_
      clear hK K
      refine wpAny_ready (rs := [9]) (by kernel_rfl) (by simp) ?_
      refine AllReady.cons rfl (fun K hK => ?_) AllReady.nil
      go_simp
      refine hK _ _ ?_
      clear hK K
      refine wpAny_done (by kernel_rfl) ?_ _
      have hB5' : Below (w.heap.size + 1) wr W5 := ((Below.refl _ wr).alloc HSZ.out _).trans ⟨hB5.os, hB5.tape, hB5.output, hB5.size, hB5.block⟩
      have bel5 : Below w.heap.size w W5 := bel.trans (hB5'.mono (by omega))
      have HSZ5 : Hid (w.heap.size + 1 ≤ W5.heap.size) := by show _ ≤ _; have := hB5'.size; have := HSZ.out; omega
      have ho5' : Ow W5 (w.heap.size + 1) (.slice ao5 (ys ++ [(c1 : Int), (c2 : Int)]).length cap5) (ys ++ [(c1 : Int), (c2 : Int)]) := by rw [List.length_append]; exact ho5
      have HY5 : Hid (ys ++ [(c1 : Int), (c2 : Int)] = hexI (h.take (k + 1))) := by show _ = _; rw [HY.out]; exact HSUC.out.symm
      clear hB5 hB5' ho bel hg5 ho5 HSUC hs1 hs2 hix
      go_wp2_with fail
      go_roundw
      case rel => exact ⟨k + 1, _, ao5, cap5, by omega, by go_num, HY5, by simp, ho5', bel5, HSZ5⟩
      case measure => simp [intOf]; omega
    · have hk2 : k = 32 := by omega
      have HY2 : Hid (ys = hexI h) := by
        show _ = _
        rw [HY.out, hk2, List.take_of_length_le (by rw [HHL.out]; exact Nat.le_refl _)]
      have hne : ys ≠ [] := by
        intro e
        have := HYL.out
        rw [e, hk2] at this; cases this
      obtain ⟨b, off, c, hv, h1, h2, h3⟩ := ho.bs.form hne
      simp only [Value.slice.injEq] at hv
      obtain ⟨rfl, _, rfl⟩ := hv
      have hcv := hid_into (run_convert_bytes_arg wr 22 5 Try.underlying22 Try.underlying5 b off ys.length cap ys rfl h3 9 Try.underlying9)
      clear h3 hne ho
      go_wp2_with fail
      rw [hcv.out]
      go_wp2_with fail
      go_ret
      exact ⟨by rw [HY2.out]; rfl, bel⟩
end Go.Proofs.Ytkfmplkbimnjfaa
