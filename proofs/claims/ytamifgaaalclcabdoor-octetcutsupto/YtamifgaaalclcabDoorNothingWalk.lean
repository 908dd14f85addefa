/-
  OctetOfNothing, walked: for every field it answers true, and writes nothing that was there.
-/
import Derived.Test.YtamifgaaalclcabDoorFields
import Derived.Test.YtamifgaaalclcabDoorHashEq
namespace Go.Proofs.YtamifgaaalclcabDoor
open Go.RowKit
theorem Tryd.info30 : (Tryd.prog.info? 30).map (·.size) = some 35 := by kernel_rfl
theorem range_of_block {w : World} {b : Nat} {cs : List Value} {t : TypeId} {fr : Nat × Nat} (h : w.heap[b]? = some (.cells cs.toArray t fr)) : w.rangeAt b 0 cs := by
  intro j u hu
  rw [Nat.zero_add, cell_of_row w b j _ _ _ h]
  simpa using hu
theorem fold_set : ∀ (vs pre old : List Value), old.length = vs.length → (vs.zipIdx pre.length).foldl (fun cs x => cs.setIfInBounds x.snd x.fst) (pre ++ old).toArray = (pre ++ vs).toArray
  | [], pre, old, hl => by
    have : old = [] := List.eq_nil_of_length_eq_zero hl
    subst this; rfl
  | v :: vs, pre, [], hl => by simp at hl
  | v :: vs, pre, u :: old, hl => by
    have h2 := fold_set vs (pre ++ [v]) old (by simpa using hl)
    simpa using h2
theorem fold_all (vs old : List Value) (hl : old.length = vs.length) : vs.zipIdx.foldl (fun cs x => cs.setIfInBounds x.snd x.fst) old.toArray = vs.toArray := fold_set vs [] old hl
def zeroFd : List Value := .int .i64 0 :: .int .i64 0 :: .slice none 0 0 :: cellsOf zero32

end Go.Proofs.YtamifgaaalclcabDoor
