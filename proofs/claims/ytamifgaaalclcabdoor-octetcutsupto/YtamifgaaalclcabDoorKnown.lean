/-
  The law's known: a row of fields and a check sum that the document tells. It answers true, and writes nothing that was there.
-/
import Derived.Test.YtamifgaaalclcabDoorSum
import Derived.Lib.SlBytesConst
namespace Go.Proofs.YtamifgaaalclcabDoor
open Go.RowKit

theorem Wr_new (w : World) : Wr (w.alloc (.cells #[.slice none 0 0] 51)) w.heap.size (.slice none 0 0) [] :=
  ⟨heap_alloc_new w _, World.ownsRow_nil _ _ _ _⟩

/-- A step of a Writer whose block, and row, are new from B on leaves all below B. -/
theorem Wstep.below {b B : Nat} {w w' : World} {v v' : Value} (h : Wstep b w v w' v') (hb : B ≤ b) (hB : B ≤ w.heap.size) (hv : ∀ k, v.ownBlock = some k → B ≤ k) : Below B w w' :=
  ⟨h.os, h.tape, h.output, h.size, fun k hk => h.block k (by omega) (by omega) (fun e => by have := hv k e.symm; omega)⟩
theorem Wr.below {b B : Nat} {w w' : World} {v v' : Value} {xs : List Int} (hw : Wr w b v xs) (h : Wstep b w v w' v') (hb : B ≤ b) : Below B w w' :=
  h.below hb (by have := hw.lt; omega) (fun k hk => by have := World.ownsRow.lt hw.2 k hk; omega)

set_option maxHeartbeats 1600000 in
theorem known_any (w : World) (ht : Tab w) : Calls Tryd.prog 6 #[] w fun e w' => e = .returned (.bool true) ∧ Below w.heap.size w w' := by
  have hw0 := Wr_new w
  have kc := fun (w : World) (C : Array Value) (n c : Nat) => Lib.run_convert_bytes_const (P := Tryd.prog) w 24 5 C n c Tryd.underlying24 Tryd.underlying5
  go_enter Tryd.func6, Tryd.ntmps6
  go_wp2_with fail
  refine (num_w w.heap.size _ [] (-1) _ hw0 (by decide) (by decide) (by decide)).mono ?_
  rintro e w1 ⟨rfl, v1, hw1, hs1⟩
  go_wp2_with fail
  refine (two_w w.heap.size v1 _ 258 _ hw1 (by decide)).mono ?_
  rintro e w2 ⟨rfl, v2, hw2, hs2⟩
  have hb2 : Bs (w2.alloc (.cells #[.int .u8 97] 5 (1, 2))) (.slice (some ⟨w2.heap.size, 0, none⟩) 1 1) [97] := Bs_of_block (heap_alloc_new w2 _) (by simp [maxLen])
  go_wp2_with fail
  refine (bytes_w w.heap.size v2 _ _ [97] _ (hw2.alloc _) hb2 (hw2.sep_new 0 1 1) (by decide) (by decide)).mono ?_
  rintro e w3 ⟨rfl, v3, hw3, hs3⟩
  rw [show ([] ++ numOf (-1) ++ twoB 258 ++ numOf (([97] : List Int).length : Int) ++ [97] : List Int) = [1, 2, 1, 2, 97] by decide] at hw3
  go_wp2_with fail
  refine (out_w w.heap.size v3 _ _ hw3 (by decide)).mono ?_
  rintro e w4 ⟨ao, cap, rfl, hown4, hbel4⟩
  have ho4 : Ow w4 w3.heap.size (.slice ao 5 cap) [1, 2, 1, 2, 97] := hown4
  clear hown4
  have hbs4 : Bs (w4.alloc (.cells #[.int .u8 1, .int .u8 2, .int .u8 1, .int .u8 2, .int .u8 97] 5)) (.slice ao 5 cap) [1, 2, 1, 2, 97] := ho4.bs.below ((Below.refl _ _).alloc (Nat.le_refl _) _) (Nat.le_refl _)
  have hbs5 : Bs (w4.alloc (.cells #[.int .u8 1, .int .u8 2, .int .u8 1, .int .u8 2, .int .u8 97] 5)) (.slice (some ⟨w4.heap.size, 0, none⟩) 5 5) [1, 2, 1, 2, 97] := Bs_of_block (heap_alloc_new w4 _) (by simp [maxLen])
  have B1 : Below w.heap.size w w1 := ((Below.refl _ _).alloc (Nat.le_refl _) _).trans (hw0.below hs1 (Nat.le_refl _))
  have B2 : Below w.heap.size w w2 := B1.trans (hw1.below hs2 (Nat.le_refl _))
  have B3 : Below w.heap.size w w3 := (B2.alloc B2.size _).trans ((hw2.alloc _).below hs3 (Nat.le_refl _))
  have B4 : Below w.heap.size w w4 := B3.trans (hbel4.mono B3.size)
  have B5 : Below w.heap.size w (w4.alloc (.cells #[.int .u8 1, .int .u8 2, .int .u8 1, .int .u8 2, .int .u8 97] 5)) := B4.alloc B4.size _
  go_wp2_with fail
  refine (same_any _ _ _ _ _ hbs4 hbs5).mono ?_
  rintro e w5 ⟨rfl, hsm5⟩
  have B6 : Below w.heap.size w w5 := B5.trans (hsm5.below _)
  have ht5 : Tab (w5.alloc (.cells #[.int .u8 49, .int .u8 50, .int .u8 51, .int .u8 52, .int .u8 53, .int .u8 54, .int .u8 55, .int .u8 56, .int .u8 57] 5 (9, 10))) := ht.below (B6.alloc B6.size _) ht.lt
  have hbs6 : Bs (w5.alloc (.cells #[.int .u8 49, .int .u8 50, .int .u8 51, .int .u8 52, .int .u8 53, .int .u8 54, .int .u8 55, .int .u8 56, .int .u8 57] 5 (9, 10))) (.slice (some ⟨w5.heap.size, 0, none⟩) 9 9) [49, 50, 51, 52, 53, 54, 55, 56, 57] := Bs_of_block (heap_alloc_new w5 _) (by simp [maxLen])
  rw [show eqB [1, 2, 1, 2, 97] [1, 2, 1, 2, 97] = true by decide]
  have HB : Hid (Below w.heap.size w (w5.alloc (.cells #[.int .u8 49, .int .u8 50, .int .u8 51, .int .u8 52, .int .u8 53, .int .u8 54, .int .u8 55, .int .u8 56, .int .u8 57] 5 (9, 10)))) := B6.alloc B6.size _
  clear B1 B2 B3 B4 B5 B6 hbs4 hbs5 hw0 hs1 hw1 hs2 hw2 hs3 hw3 hb2 hbel4 hsm5 ho4 ht
  go_wp2_with fail
  refine (sum_any _ _ _ hbs6 (by unfold Byt; decide) ht5).mono ?_
  rintro e w6 ⟨rfl, rfl⟩
  rw [show sumOf [49, 50, 51, 52, 53, 54, 55, 56, 57] = 3808858755 by decide +kernel]
  go_wp2
  go_ret
  exact ⟨rfl, HB.out⟩
end Go.Proofs.YtamifgaaalclcabDoor
