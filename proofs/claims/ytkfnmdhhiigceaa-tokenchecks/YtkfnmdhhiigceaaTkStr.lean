/-
  Strings as rows of numbers.
-/
import Derived.Test.YtkfnmdhhiigceaaTkText
namespace Go.Proofs.Ytkfnmdhhiigceaa
open Go.RowKit Dg
theorem str_byte {xs : List Int} (h : Byt xs) (k : Nat) (hk : k < xs.length) (hs : k < (strOfNums xs).size) : ((strOfNums xs)[k].toNat : Int) = xs.getD k 0 := by
  have hm := h xs[k] (List.getElem_mem hk)
  have e1 : (strOfNums xs)[k] = UInt8.ofNat (xs[k]).toNat := by
    show (strOfNums xs).data[k] = _
    simp [strOfNums]
  rw [e1]
  simp only [List.getD, List.getElem?_eq_getElem hk, Option.getD_some, UInt8.toNat_ofNat']
  omega
theorem str_at {xs : List Int} (h : Byt xs) (k : Nat) (hk : k < xs.length) (w : World) : (Instr.index 9 (.string (strOfNums xs)) (.int .i64 (k : Int))).run Try.prog w = .ok (.int .u8 (xs.getD k 0)) w := by
  have hs : k < (strOfNums xs).size := by rw [strOfNums_size]; exact hk
  have e := str_byte h k hk hs
  rw [← e]
  have h1 : (0 : Int) ≤ (k : Int) ∧ (k : Int) < ((strOfNums xs).size : Int) := by omega
  simp only [Instr.index, asIntOf, Sem.run_bind, Sem.run_pure, Result.andThen_ok, run_underlying Try.underlying9, h1, if_true, Int.toNat_natCast, getElem?_pos (strOfNums xs) k hs]
theorem str_inj {a b : List Int} (ha : Byt a) (hb : Byt b) (h : strOfNums a = strOfNums b) : a = b := by
  have hl : a.length = b.length := by rw [← strOfNums_size, ← strOfNums_size, h]
  apply List.ext_getElem hl
  intro i h1 h2
  have s1 : i < (strOfNums a).size := by rw [strOfNums_size]; exact h1
  have s2 : i < (strOfNums b).size := by rw [strOfNums_size]; exact h2
  have e1 := str_byte ha i h1 s1
  have e2 := str_byte hb i h2 s2
  have e3 : (strOfNums a)[i] = (strOfNums b)[i] := by simp only [h]
  rw [e3, e2] at e1
  simpa [List.getD, h1, h2] using e1.symm
theorem str_nums (s : ByteArray) : ∃ xs, Byt xs ∧ s = strOfNums xs := by
  refine ⟨s.data.toList.map fun b => (b.toNat : Int), ?_, ?_⟩
  · intro z hz
    simp only [List.mem_map] at hz
    obtain ⟨b, _, rfl⟩ := hz
    have := b.toNat_lt
    omega
  · apply ByteArray.ext
    unfold strOfNums
    simp [Function.comp_def]
end Go.Proofs.Ytkfnmdhhiigceaa
