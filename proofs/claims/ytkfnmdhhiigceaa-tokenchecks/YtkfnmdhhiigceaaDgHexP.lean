/-
  digest.Hex, by contract: a digest's digits.
-/
import Derived.Test.YtkfnmdhhiigceaaDgEnding
import Derived.OwnWalk
import Derived.Laws.BytesArg
import Derived.StillTailTactics
namespace Go.Proofs.Ytkfnmdhhiigceaa.Dg
open Go.RowKit
def hexI (h : List Int) : List Int := (hexL h).map fun (x : Nat) => (x : Int)
theorem run_index_b (w : World) (ws : List Int) (i n : Nat) (ty : TypeId) (hu : Try.prog.underlying ty = some (.array n 5)) (hi : i < n) (hl : ws.length = n) :
    (Instr.index ty (.agg (cellsOf ws).toArray) (.int .i64 (i : Int))).run Try.prog w = .ok (.int .u8 (ws.getD i 0)) w := by
  have hs : (sizeOf 5).run Try.prog w = .ok 1 w := by kernel_rfl
  have hp : (part 5 (cellsOf ws).toArray (i * 1)).run Try.prog w = .ok (.int .u8 (ws.getD i 0)) w := by
    simp [part, isAgg, run_underlying Try.underlying5, cellsOf, List.getD, List.getElem?_eq_getElem (show i < ws.length by omega)]
  have h0 : (0 : Int) ≤ (i : Int) ∧ (i : Int) < (n : Int) := by omega
  simp only [Instr.index, asIntOf, Sem.run_bind, Sem.run_pure, Result.andThen_ok, run_underlying hu, h0, and_self, if_true, hs, Int.toNat_natCast, hp]
theorem hexI_cons (x : Int) (h : List Int) : hexI (x :: h) = ((hexN.getD (x.toNat / 16) 0 : Nat) : Int) :: ((hexN.getD (x.toNat % 16) 0 : Nat) : Int) :: hexI h := rfl
theorem hexI_app : ∀ (a b : List Int), hexI (a ++ b) = hexI a ++ hexI b
  | [], _ => rfl
  | x :: a, b => by rw [List.cons_append, hexI_cons, hexI_cons, hexI_app a b]; rfl
theorem hexI_len : ∀ (h : List Int), (hexI h).length = 2 * h.length
  | [] => rfl
  | x :: h => by rw [hexI_cons, List.length_cons, List.length_cons, hexI_len h, List.length_cons]; omega
theorem hexI_take (h : List Int) (k : Nat) (hk : k < h.length) : hexI (h.take (k + 1)) = hexI (h.take k) ++ [((hexN.getD ((h.getD k 0).toNat / 16) 0 : Nat) : Int), ((hexN.getD ((h.getD k 0).toNat % 16) 0 : Nat) : Int)] := by
  rw [List.take_succ_eq_append_getElem hk, hexI_app]
  have e : h.getD k 0 = h[k] := by simp [List.getD, hk]
  rw [e]
  rfl
def hexS : ByteArray := ⟨#[48, 49, 50, 51, 52, 53, 54, 55, 56, 57, 97, 98, 99, 100, 101, 102]⟩
theorem run_hexdig (n : Nat) (hn : n < 16) (w : World) : (Instr.index 9 (.string hexS) (.int .u8 (n : Int))).run Try.prog w = .ok (.int .u8 ((hexN.getD n 0 : Nat) : Int)) w := by
  have : n = 0 ∨ n = 1 ∨ n = 2 ∨ n = 3 ∨ n = 4 ∨ n = 5 ∨ n = 6 ∨ n = 7 ∨ n = 8 ∨ n = 9 ∨ n = 10 ∨ n = 11 ∨ n = 12 ∨ n = 13 ∨ n = 14 ∨ n = 15 := by omega
  rcases this with rfl | rfl | rfl | rfl | rfl | rfl | rfl | rfl | rfl | rfl | rfl | rfl | rfl | rfl | rfl | rfl <;> rfl
theorem exec_index {a : Act} {o : Oper} (ty : TypeId) (x y : Operand) (ho : o.op = .index ty x y) (vx vy v : Value) (hx : a.eval x = vx) (hy : a.eval y = vy) (h : ∀ w, (Instr.index ty vx vy).run Try.prog w = .ok v w) (w : World) : (execOp a.eval o).run Try.prog w = .ok (.value v) w := by
  unfold execOp
  simp only [ho, hx, hy, Sem.run_bind, h, Result.andThen_ok, Sem.run_pure]
theorem exec_convert {a : Act} {o : Oper} (s t : TypeId) (x : Operand) (ho : o.op = .convert s t x) (vx v : Value) (hx : a.eval x = vx) (w : World) (h : (convert s t vx).run Try.prog w = .ok v w) : (execOp a.eval o).run Try.prog w = .ok (.value v) w := by
  unfold execOp
  simp only [ho, hx, Sem.run_bind, h, Result.andThen_ok, Sem.run_pure]
theorem wp_append_bs (w : World) {o : Oper} {a : Act} {K : Act → World → Prop} {Q : Exit → Act → World → Prop} (s x : Operand)
    (ho : o.op = .call { callee := .builtin .append, args := #[s, x], argTypes := #[22, 22] })
    (base : Nat) (v : Value) (xs : List Int) (hs : a.eval s = v) (hown : Ow w base v xs) (vx : Value) (zs : List Int) (hx : a.eval x = vx) (hb : Bs w vx zs)
    (h63 : xs.length + zs.length ≤ 140737488355328) (hbase : base ≤ w.heap.size)
    (h : ∀ ao cap w', Ow w' base (.slice ao (xs.length + zs.length) cap) (xs ++ zs) → w.grownBy w' v.ownBlock → K (a.put o.dst (.slice ao (xs.length + zs.length) cap)) w') : o.wp Try.prog a w K Q := by
  obtain ⟨ao, cap, w', hr, h2, h3, h4⟩ := run_append_bs w base o.type v xs hown vx zs hb h63 hbase
  unfold Oper.wp execOp
  simp only [ho, resolve, invoke, builtin, Sem.run_bind, Sem.run_pure, Result.andThen_ok, List.map_toArray, List.map_cons, List.map_nil, hs, hx, hr]
  exact h ao cap w' h2 h3
theorem Bs_two (w : World) (x y : Int) : Bs (w.alloc (.cells #[.int .u8 x, .int .u8 y] 5)) (.slice (some ⟨w.heap.size, 0, none⟩) 2 2) [x, y] := Bs_of_block (zs := [x, y]) (heap_alloc_new w _) (by simp [maxLen])
theorem grown_below {w w' : World} {base : Nat} {v : Value} {zs : List Int} (h : w.grownBy w' v.ownBlock) (ho : Ow w base v zs) (hb : base ≤ w.heap.size) : Below base w w' :=
  ⟨h.os, h.tape, h.output, h.size, fun k hk => h.block k (by omega) (fun e => by have := (World.ownsRow.lt ho k e.symm).1; omega)⟩
theorem Ow.alloc' {w : World} {base : Nat} {v : Value} {zs : List Int} (h : Ow w base v zs) (b : Obj) : Ow (w.alloc b) base v zs := World.ownsRow.alloc h b
end Go.Proofs.Ytkfnmdhhiigceaa.Dg
