/-
  What the laws know by heart: a product, a root, a text.
-/
import Derived.Test.YtfciaohicbchgaaDoorTxt
import Derived.Test.YtfciaohicbchgaaDoorReckon
namespace Go.Proofs.YtfciaohicbchgaaDoor
open Go.RowKit
theorem text_known : textS (-98304) = [45, 49, 46, 56, 48, 48, 48] := by
  have e : Lib.decDigits 1 = [49] := by rw [Lib.decDigits]; rfl
  have e2 : textS (-98304) = [45] ++ (Lib.decDigits 1 ++ (46 :: (hexS 32768).drop 1)) := rfl
  rw [e2, e]
  rfl
theorem known_any (w : World) (h : Tb w) : Calls Tryd.prog 19 #[] w fun e w' => e = .returned (.bool true) ∧ Below w.heap.size w w' := by
  have C1 := Mul_any 98304 98304 ⟨by decide, by decide⟩ ⟨by decide, by decide⟩ w
  rw [show heldI (98304 * 98304 / 65536) = 147456 by decide] at C1
  have C2 := Root_any 131072 ⟨by decide, by decide⟩
  rw [show rootF 131072 = 92681 from (RootIs.eq ⟨by decide, by decide, by decide, by decide⟩).symm] at C2
  have C3 := fun (w1 : World) (hb : Below w.heap.size w w1) => Text_any (-98304) ⟨by decide, by decide⟩ w1 (h.below hb (Nat.le_refl _))
  rw [text_known] at C3
  go_enter Tryd.func19, Tryd.ntmps19
  go_wp2_with (first
    | (go_at_call 13; refine C1.mono ?_; rintro e w1 ⟨rfl, B1⟩)
    | (go_at_call 17; refine (C2 _).mono ?_; rintro e w2 ⟨rfl, hw⟩; replace hw := hw.symm; subst hw)
    | (go_at_call 20; refine (C3 _ B1).mono ?_; rintro e w3 ⟨rfl, B3⟩))
  go_ret
  exact ⟨rfl, B1.trans (B3.mono B1.size)⟩
end Go.Proofs.YtfciaohicbchgaaDoor
