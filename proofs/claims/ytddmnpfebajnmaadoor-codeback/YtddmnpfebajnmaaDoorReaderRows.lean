/-
  The Reader's rows of bytes: takeRow over r.Byte, fill, Two, Four, Hash, by contracts.
-/
import Derived.Test.YtddmnpfebajnmaaDoorNumsWalk
namespace Go.Proofs.YtddmnpfebajnmaaDoor
open Go.RowKit

/-- Block g is a row of bytes. -/
def Rw (w : World) (g : Nat) (ys : List Int) (t : TypeId) : Prop := w.heap[g]? = some (.cells (cellsOf ys).toArray t (0, 0))
theorem Rw.lt {w : World} {g : Nat} {ys : List Int} {t : TypeId} (h : Rw w g ys t) : g < w.heap.size := (Array.getElem?_eq_some_iff.1 h).1
theorem Rw.cell {w : World} {g : Nat} {ys : List Int} {t : TypeId} (h : Rw w g ys t) (i : Nat) (hi : i < ys.length) : w.cell? ⟨g, i, none⟩ = some (.int .u8 (ys.getD i 0)) := by
  rw [cell_of_row w g i _ _ _ h]
  simpa using cellsOf_get' ys i hi
theorem Rw.frozen {w : World} {g : Nat} {ys : List Int} {t : TypeId} (h : Rw w g ys t) (i : Nat) : w.frozen? ⟨g, i, none⟩ = false := by
  simp only [World.frozen?, show w.heap[g]? = _ from h]; simp
theorem Rw.set {w : World} {g : Nat} {ys : List Int} {t : TypeId} (h : Rw w g ys t) (i : Nat) (x : Int) : Rw (w.setCell ⟨g, i, none⟩ (.int .u8 x)) g (ys.set i x) t := by
  have h' : w.heap[g]? = some (.cells (cellsOf ys).toArray t (0, 0)) := h
  simp only [Rw, World.setCell, Array.getElem?_modify, h']
  simp [cellsOf, List.map_set]

/-- All but two blocks is as it was. -/
structure Two2 (b g : Nat) (w w' : World) : Prop where
  os : w'.os = w.os
  tape : w'.tape = w.tape
  output : w'.output = w.output
  size : w.heap.size ≤ w'.heap.size
  block : ∀ k, k < w.heap.size → k ≠ b → k ≠ g → w'.heap[k]? = w.heap[k]?
theorem Two2.refl (b g : Nat) (w : World) : Two2 b g w w := ⟨rfl, rfl, rfl, Nat.le_refl _, fun _ _ _ _ => rfl⟩
theorem Two2.trans {b g : Nat} {w w1 w2 : World} (h : Two2 b g w w1) (k : Two2 b g w1 w2) : Two2 b g w w2 :=
  ⟨k.os.trans h.os, k.tape.trans h.tape, k.output.trans h.output, Nat.le_trans h.size k.size, fun i hi hb hg => (k.block i (Nat.lt_of_lt_of_le hi h.size) hb hg).trans (h.block i hi hb hg)⟩
theorem Rstep.two {b g : Nat} {w w' : World} (h : Rstep b w w') : Two2 b g w w' := ⟨h.os, h.tape, h.output, h.size, fun k hk hb _ => h.block k hk hb⟩
theorem Two2.set (b g i : Nat) (w : World) (v : Value) : Two2 b g w (w.setCell ⟨g, i, none⟩ v) := ⟨rfl, rfl, rfl, by simp [World.setCell], fun k _ _ hg => Below.heap_setCell _ _ _ _ hg⟩

theorem set_take (zs ys : List Int) (k : Nat) (h1 : k < ys.length) (h2 : ys.length ≤ zs.length) : (zs.take k ++ ys.drop k).set k (zs.getD k 0) = zs.take (k + 1) ++ ys.drop (k + 1) := by
  rw [List.set_append]
  have hl : (zs.take k).length = k := by simp; omega
  simp only [hl, Nat.lt_irrefl, if_false, Nat.sub_self]
  rw [take_snoc zs k (by omega), List.append_assoc]
  congr 1
  rw [List.drop_eq_getElem_cons h1]
  rfl

/-- A row ys is filled: what it holds, what is left, the error. -/
def rowR (ys zs : List Int) (e : Int) : List Int × List Int × Int := if e = 0 then (if ys.length ≤ zs.length then (zs.take ys.length, zs.drop ys.length, 0) else (ys, [], 2)) else (ys, zs, e)
theorem rowR_yes {ys zs : List Int} (h : ys.length ≤ zs.length) : rowR ys zs 0 = (zs.take ys.length, zs.drop ys.length, 0) := by simp [rowR, h]
theorem rowR_no {ys zs : List Int} (h : ¬ ys.length ≤ zs.length) : rowR ys zs 0 = (ys, [], 2) := by simp [rowR, h]
theorem rowR_err {ys zs : List Int} {e : Int} (h : e ≠ 0) : rowR ys zs e = (ys, zs, e) := by simp [rowR, h]
theorem rowR_len (ys zs : List Int) (e : Int) : (rowR ys zs e).1.length = ys.length := by
  unfold rowR; split
  · split
    · simp; omega
    · rfl
  · rfl
theorem rowR_byt {ys zs : List Int} {e : Int} (hy : Byt ys) (hz : Byt zs) : Byt (rowR ys zs e).1 ∧ Byt (rowR ys zs e).2.1 := by
  unfold rowR; split
  · split
    · exact ⟨fun z h => hz z (List.mem_of_mem_take h), fun z h => hz z (List.mem_of_mem_drop h)⟩
    · exact ⟨hy, fun z h => by cases h⟩
  · exact ⟨hy, hz⟩

/-- A new row of noughts beside a Reader. -/
theorem Rw_new (w : World) (ys : List Int) (t : TypeId) : Rw (w.alloc (.cells (cellsOf ys).toArray t)) w.heap.size ys t := heap_alloc_new w _
theorem Rd.alloc {w : World} {b : Nat} {v : Value} {zs : List Int} {e : Int} (h : Rd w b v zs e) (o : Obj) : Rd (w.alloc o) b v zs e := h.below ((Below.refl _ _).alloc (Nat.le_refl _) _) (Nat.le_refl _)
theorem Two2.rstep {b : Nat} {w w1 w' : World} (h0 : Below w.heap.size w w1) (h : Two2 b w.heap.size w1 w') : Rstep b w w' :=
  ⟨h.os.trans h0.os, h.tape.trans h0.tape, h.output.trans h0.output, Nat.le_trans h0.size h.size, fun k hk hb => (h.block k (Nat.lt_of_lt_of_le hk h0.size) hb (by omega)).trans (h0.block k hk)⟩

theorem or16 (a c : Int) (ha0 : 0 ≤ a) (ha : a < 256) (hc0 : 0 ≤ c) (hc : c < 256) : bits .or .u16 a (c * 256) = a + 256 * c := by
  rw [u16_or a (c * 256) ha0 (by omega) (by omega) (by omega)]
  have := nat_join 8 (c * 256).toNat a.toNat (by omega) (by omega)
  rw [Nat.or_comm, this]
  omega
theorem or32 (a c : Int) (i : Nat) (hi : i ≤ 24) (ha0 : 0 ≤ a) (ha : a < 2 ^ i) (hc0 : 0 ≤ c) (hc : c < 256) : bits .or .u32 a (c * 2 ^ i) = a + c * 2 ^ i := by
  obtain ⟨A, rfl⟩ := Int.eq_ofNat_of_zero_le ha0
  obtain ⟨C, rfl⟩ := Int.eq_ofNat_of_zero_le hc0
  have hA : A < 2 ^ i := by have e : ((2 ^ i : Nat) : Int) = (2 : Int) ^ i := by simp
                            rw [← e] at ha; omega
  have hp : 2 ^ i ≤ 2 ^ 24 := Nat.pow_le_pow_right (by decide) hi
  have hm : C * 2 ^ i ≤ 255 * 2 ^ 24 := Nat.mul_le_mul (by omega) hp
  have e2 : ((C : Int) * 2 ^ i) = ((C * 2 ^ i : Nat) : Int) := by simp
  rw [e2, u32_or_nat A (C * 2 ^ i) (by omega) (by omega), Nat.or_comm, nat_join i (C * 2 ^ i) A (Nat.mul_mod_left _ _) hA]
  omega
def twoV (l : List Int) : Int := l.getD 0 0 + 256 * l.getD 1 0
def fourV (l : List Int) : Int := l.getD 0 0 + 256 * l.getD 1 0 + 65536 * l.getD 2 0 + 16777216 * l.getD 3 0
end Go.Proofs.YtddmnpfebajnmaaDoor
