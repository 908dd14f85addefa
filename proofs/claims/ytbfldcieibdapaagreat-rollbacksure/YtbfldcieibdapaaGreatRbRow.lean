/-
  Rows of the laws' own: pairs, one by one; picks by their last digits.
-/
import Derived.Test.YtbfldcieibdapaaGreatRbBoth
import Derived.Test.YtbfldcieibdapaaGreatRbPair
namespace Go.Proofs.YtbfldcieibdapaaGreat
open Go.RowKit
theorem bits_and (a : Int) (m : Nat) (hm : m < 65536) : bits .and .i64 a (m : Int) = (((BitVec.ofInt 64 a).toNat &&& m : Nat) : Int) := by
  have e : bits .and .i64 a (m : Int) = IntKind.i64.wrap (((BitVec.ofInt 64 a &&& BitVec.ofInt 64 (m : Int)).toNat : Nat) : Int) := rfl
  have hb : (BitVec.ofInt 64 a &&& BitVec.ofInt 64 (m : Int)).toNat = (BitVec.ofInt 64 a).toNat &&& m := by
    rw [BitVec.toNat_and]
    have : (BitVec.ofInt 64 (m : Int)).toNat = m := by
      rw [BitVec.ofInt_natCast, BitVec.toNat_ofNat]
      omega
    rw [this]
  have hlt : (BitVec.ofInt 64 a).toNat &&& m < 65536 := Nat.lt_of_le_of_lt Nat.and_le_right hm
  rw [e, hb]
  generalize (BitVec.ofInt 64 a).toNat &&& m = n at *
  simp [IntKind.wrap, IntKind.bits, IntKind.signed]
  omega
theorem and3 (a : Int) : bits .and .i64 a 3 = a % 4 := by
  have h := bits_and a 3 (by decide)
  rw [show (((3 : Nat)) : Int) = 3 from rfl] at h
  rw [h, show (3 : Nat) = 2 ^ 2 - 1 from rfl, Nat.and_two_pow_sub_one_eq_mod, BitVec.toNat_ofInt]
  omega
theorem and1 (a : Int) : bits .and .i64 a 1 = a % 2 := by
  have h := bits_and a 1 (by decide)
  rw [show (((1 : Nat)) : Int) = 1 from rfl] at h
  rw [h, show (1 : Nat) = 2 ^ 1 - 1 from rfl, Nat.and_two_pow_sub_one_eq_mod, BitVec.toNat_ofInt]
  omega
section
variable {o : Oper} {a : Act} {w w' : World} {ops : Array Oper}
/-- An append whose run is known. -/
theorem step_append_eq {K : Act → World → Prop} {Q : Exit → Act → World → Prop} {E : Prop} (hgd : o.guard = none) (t : TypeId) (s x : Operand) (ho : o.op = .call { callee := .builtin .append, args := #[s, x], argTypes := #[t, t] })
    (v u v' : Value) (hs : a.eval s = v) (hx : a.eval x = u) (hr : ∀ ty, (Builtin.append_ #[t, t] ty #[v, u]).run Tryz.prog w = .ok v' w') (h : K (a.put o.dst v') w') : if Region.wanted o (yielded ops a.tmps) = true then Oper.wp Tryz.prog o a w K Q else E := by
  have hw : Region.wanted o (yielded ops a.tmps) = true := by simp [Region.wanted, hgd]
  rw [if_pos hw]
  unfold Oper.wp execOp
  simp only [ho, resolve, invoke, builtin, Sem.run_bind, Sem.run_pure, Result.andThen_ok, List.map_toArray, List.map_cons, List.map_nil, hs, hx, hr]
  exact h
theorem wpList_append_eq {rest : List Oper} {Q : Exit → Act → World → Prop} (hgd : o.guard = none) (t : TypeId) (s x : Operand) (ho : o.op = .call { callee := .builtin .append, args := #[s, x], argTypes := #[t, t] })
    (v u v' : Value) (hs : a.eval s = v) (hx : a.eval x = u) (hr : ∀ ty, (Builtin.append_ #[t, t] ty #[v, u]).run Tryz.prog w = .ok v' w') (h : wpList Tryz.prog ops Q rest (a.put o.dst v') w') : wpList Tryz.prog ops Q (o :: rest) a w := by
  refine wpList_plain hgd fun _ hK => ?_
  unfold Oper.wp execOp
  simp only [ho, resolve, invoke, builtin, Sem.run_bind, Sem.run_pure, Result.andThen_ok, List.map_toArray, List.map_cons, List.map_nil, hs, hx, hr]
  exact hK _ _ h
end
/-- A pair behind a row of pairs of the call's own. -/
theorem app1 {wr : World} {B : Nat} {v : Value} {xs : List (Int × Int)} (a b : Int) (hp : Po wr B v xs) (hl : xs.length ≤ 1000) (hB : B ≤ wr.heap.size) (W : World) (hW : W.heap = (wr.alloc (.cells #[.int .u16 a, .int .u16 b] 62)).heap) (hb0 : Below B wr W) :
    ∃ v' w', (∀ ty, (Builtin.append_ #[60, 60] ty #[v, .slice (some ⟨wr.heap.size, 0, none⟩) 1 1]).run Tryz.prog W = .ok v' w') ∧ Po w' B v' (xs ++ [(a, b)]) ∧ Below B wr w' := by
  have hsz : W.heap.size = wr.heap.size + 1 := by rw [hW, World.size_alloc]
  have hn : Po W B v xs := hp.keep fun k _ hk => by rw [hW]; exact Below.heap_alloc _ _ _ hk
  have hq : Ps W (.slice (some ⟨wr.heap.size, 0, none⟩) 1 1) [(a, b)] := Ps_of_block (l := [(a, b)]) (by rw [hW]; exact heap_alloc_new wr _) (by unfold maxLen; simp)
  obtain ⟨ao, cap, w2, hr, h2, h3, h4⟩ := run_append_ps W B 60 v xs hn _ [(a, b)] hq (by simp; omega) (by omega)
  refine ⟨_, w2, fun ty => hr, by simpa using h2, ⟨h3.os.trans hb0.os, h3.tape.trans hb0.tape, h3.output.trans hb0.output, Nat.le_trans hb0.size h3.size, fun k hk => ?_⟩⟩
  refine (h3.block k (by omega) fun e => ?_).trans (hb0.block k hk)
  have := (hp.lt k e.symm).1
  omega
/-- The first so many of a row of pairs. -/
def frst (f : Nat → Int × Int) (k : Nat) : List (Int × Int) := (List.range k).map f
theorem frst_succ (f : Nat → Int × Int) (k : Nat) : frst f (k + 1) = frst f k ++ [f k] := by simp [frst, List.range_succ]
theorem frst_len (f : Nat → Int × Int) (k : Nat) : (frst f k).length = k := by simp [frst]
theorem frst_in {f : Nat → Int × Int} (h : ∀ k, (0 ≤ (f k).1 ∧ (f k).1 < 65536) ∧ (0 ≤ (f k).2 ∧ (f k).2 < 65536)) (n : Nat) : InP (frst f n) := fun p hp => by
  obtain ⟨k, _, rfl⟩ := List.mem_map.1 hp
  exact h k
end Go.Proofs.YtbfldcieibdapaaGreat
