/-
  OctetSums, walked: for every row of bytes, place and byte it answers true, and writes nothing that was there.
-/
import Derived.Test.YtkchdkcdkeajkaaOcHelp
namespace Go.Proofs.Ytkchdkcdkeajkaa.Oc
open Go.RowKit

theorem Ow.set {w : World} {base g m cap : Nat} {ys : List Int} (h : Ow w base (.slice (some ⟨g, 0, none⟩) m cap) ys) (i : Nat) (x : Int) :
    Ow (w.setCell ⟨g, i, none⟩ (.int .u8 x)) base (.slice (some ⟨g, 0, none⟩) m cap) (ys.set i x) := by
  obtain ⟨ao, c, he, ⟨rfl, _⟩ | ⟨g', cur, rfl, hb, hl, hg, hn, hc, hs, ht⟩⟩ := h.form
  · simp at he
  · simp only [Value.slice.injEq, Option.some.injEq, Addr.mk.injEq, and_true] at he
    obtain ⟨rfl, rfl, rfl⟩ := he
    refine ⟨by simp [cellsOf], Or.inr ⟨g, cap, cur.setIfInBounds i (.int .u8 x), by simp, hb, ?_, by simpa using hn, hc, by simpa using hs, ?_⟩⟩
    · simp only [World.setCell, Array.getElem?_modify, hg]
      simp
    · simp only [List.length_set, Nat.mul_one, Array.toList_setIfInBounds]
      rw [List.take_set, ht]
      simp [cellsOf, List.map_set]

theorem and30 (a : Int) : ∃ A : Nat, bits .and .i64 a 1073741823 = (A : Int) ∧ A < 1073741824 := by
  have e : bits .and .i64 a 1073741823 = IntKind.i64.wrap (((BitVec.ofInt 64 a &&& BitVec.ofInt 64 1073741823).toNat : Nat) : Int) := rfl
  have hb : (BitVec.ofInt 64 a &&& BitVec.ofInt 64 1073741823).toNat < 1073741824 := by
    rw [BitVec.toNat_and]
    have : (BitVec.ofInt 64 1073741823).toNat = 1073741823 := by decide
    rw [this]
    exact Nat.lt_of_le_of_lt Nat.and_le_right (by decide)
  refine ⟨_, ?_, hb⟩
  rw [e]
  generalize (BitVec.ofInt 64 a &&& BitVec.ofInt 64 1073741823).toNat = n at *
  simp [IntKind.wrap, IntKind.bits, IntKind.signed]
  omega

theorem Ow.frozen {w : World} {base g m cap : Nat} {ys : List Int} (h : Ow w base (.slice (some ⟨g, 0, none⟩) m cap) ys) (i : Nat) : w.frozen? ⟨g, i, none⟩ = false := by
  obtain ⟨ao, c, he, ⟨rfl, _⟩ | ⟨g', cur, rfl, hb, hl, hg, hn, hc, hs, ht⟩⟩ := h.form
  · simp at he
  · simp only [Value.slice.injEq, Option.some.injEq, Addr.mk.injEq, and_true] at he
    obtain ⟨rfl, rfl, rfl⟩ := he
    simp [World.frozen?, hg]

end Go.Proofs.Ytkchdkcdkeajkaa.Oc
