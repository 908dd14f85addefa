/-
  The law's known: two digests that the document tells. It answers true, and writes nothing that was there.
-/
import Derived.Test.YtkfmplkbimnjfaaMacP
namespace Go.Proofs.Ytkfmplkbimnjfaa
open Go.RowKit
theorem str_abc : strOfNums (hexI abcN) = ⟨#[98, 97, 55, 56, 49, 54, 98, 102, 56, 102, 48, 49, 99, 102, 101, 97, 52, 49, 52, 49, 52, 48, 100, 101, 53, 100, 97, 101, 50, 50, 50, 51, 98, 48, 48, 51, 54, 49, 97, 51, 57, 54, 49, 55, 55, 97, 57, 99, 98, 52, 49, 48, 102, 102, 54, 49, 102, 50, 48, 48, 49, 53, 97, 100]⟩ := by kernel_rfl
theorem str_fox : strOfNums (hexI foxN) = ⟨#[102, 55, 98, 99, 56, 51, 102, 52, 51, 48, 53, 51, 56, 52, 50, 52, 98, 49, 51, 50, 57, 56, 101, 54, 97, 97, 54, 102, 98, 49, 52, 51, 101, 102, 52, 100, 53, 57, 97, 49, 52, 57, 52, 54, 49, 55, 53, 57, 57, 55, 52, 55, 57, 100, 98, 99, 50, 100, 49, 97, 51, 99, 100, 56]⟩ := by kernel_rfl
theorem abcN_byt : Byt abcN := by unfold Byt abcN; decide
theorem foxN_byt : Byt foxN := by unfold Byt foxN; decide
set_option maxRecDepth 4000 in
set_option maxHeartbeats 1600000 in
theorem known_any (w : World) : Calls Try.prog 11 #[] w fun e w' => e = .returned (.bool true) ∧ Below w.heap.size w w' := by
  have kc := fun (w : World) (C : Array Value) (n c : Nat) => Lib.run_convert_bytes_const (P := Try.prog) w 22 5 C n c Try.underlying22 Try.underlying5
  have hb0 : Bs (w.alloc (.cells #[.int .u8 97, .int .u8 98, .int .u8 99] 5 (3, 4))) (.slice (some ⟨w.heap.size, 0, none⟩) 3 3) [97, 98, 99] := Bs_of_block (zs := [97, 98, 99]) (heap_alloc_new w _) (by simp [maxLen])
  have B0 : Below w.heap.size w (w.alloc (.cells #[.int .u8 97, .int .u8 98, .int .u8 99] 5 (3, 4))) := (Below.refl _ _).alloc (Nat.le_refl _) _
  go_enter Try.func11, Try.ntmps11
  go_wp2_with fail
  refine (sum_any _ [97, 98, 99] _ hb0 abc_byt (by decide)).mono ?_
  rintro e W1 ⟨rfl, B1⟩
  rw [sha_abc]
  have BB1 : Below w.heap.size w W1 := B0.trans (B1.mono (by rw [World.size_alloc]; omega))
  clear hb0 B0 B1
  go_wp2_with fail
  refine (hex_any abcN W1 rfl abcN_byt).mono ?_
  rintro e W2 ⟨rfl, B2⟩
  rw [str_abc]
  have BB2 : Below w.heap.size w W2 := BB1.trans (B2.mono BB1.size)
  have kc2 := fun (C : Array Value) (n c : Nat) => kc (W2.alloc (.cells #[.int .u8 107, .int .u8 101, .int .u8 121] 5 (3, 4))) C n c
  simp only [World.size_alloc] at kc2
  obtain ⟨W3, hW3⟩ : ∃ W3, W3 = (W2.alloc (.cells #[.int .u8 107, .int .u8 101, .int .u8 121] 5 (3, 4))).alloc (.cells #[.int .u8 84, .int .u8 104, .int .u8 101, .int .u8 32, .int .u8 113, .int .u8 117, .int .u8 105, .int .u8 99, .int .u8 107, .int .u8 32, .int .u8 98, .int .u8 114, .int .u8 111, .int .u8 119, .int .u8 110, .int .u8 32, .int .u8 102, .int .u8 111, .int .u8 120, .int .u8 32, .int .u8 106, .int .u8 117, .int .u8 109, .int .u8 112, .int .u8 115, .int .u8 32, .int .u8 111, .int .u8 118, .int .u8 101, .int .u8 114, .int .u8 32, .int .u8 116, .int .u8 104, .int .u8 101, .int .u8 32, .int .u8 108, .int .u8 97, .int .u8 122, .int .u8 121, .int .u8 32, .int .u8 100, .int .u8 111, .int .u8 103] 5 (43, 44)) := ⟨_, rfl⟩
  have B3 : Below W2.heap.size W2 W3 := by rw [hW3]; exact ((Below.refl _ _).alloc (Nat.le_refl _) _).alloc (by simp) _
  have hk3 : Bs W3 (.slice (some ⟨W2.heap.size, 0, none⟩) 3 3) [107, 101, 121] := by
    have h : Bs (W2.alloc (.cells #[.int .u8 107, .int .u8 101, .int .u8 121] 5 (3, 4))) (.slice (some ⟨W2.heap.size, 0, none⟩) 3 3) [107, 101, 121] := Bs_of_block (zs := [107, 101, 121]) (heap_alloc_new W2 _) (by simp [maxLen])
    rw [hW3]; exact h.below ((Below.refl _ _).alloc (Nat.le_refl _) _) (Nat.le_refl _)
  have ht3 : Bs W3 (.slice (some ⟨W2.heap.size + 1, 0, none⟩) 43 43) foxT := by
    have h := Bs_of_block (zs := foxT) (w := (W2.alloc (.cells #[.int .u8 107, .int .u8 101, .int .u8 121] 5 (3, 4))).alloc (.cells #[.int .u8 84, .int .u8 104, .int .u8 101, .int .u8 32, .int .u8 113, .int .u8 117, .int .u8 105, .int .u8 99, .int .u8 107, .int .u8 32, .int .u8 98, .int .u8 114, .int .u8 111, .int .u8 119, .int .u8 110, .int .u8 32, .int .u8 102, .int .u8 111, .int .u8 120, .int .u8 32, .int .u8 106, .int .u8 117, .int .u8 109, .int .u8 112, .int .u8 115, .int .u8 32, .int .u8 111, .int .u8 118, .int .u8 101, .int .u8 114, .int .u8 32, .int .u8 116, .int .u8 104, .int .u8 101, .int .u8 32, .int .u8 108, .int .u8 97, .int .u8 122, .int .u8 121, .int .u8 32, .int .u8 100, .int .u8 111, .int .u8 103] 5 (43, 44))) (heap_alloc_new _ _) (by simp [maxLen, foxT])
    rw [World.size_alloc] at h
    rw [hW3]; exact h
  have HW3 := hid_into hW3
  have BB3 : Below w.heap.size w W3 := BB2.trans (B3.mono BB2.size)
  clear BB1 B2 B3 BB2
  go_wp2_with fail
  rw [← hW3]
  refine (mac_any _ _ [107, 101, 121] foxT W3 hk3 ht3 key_byt foxT_byt (by decide) (by decide)).mono ?_
  rintro e W4 ⟨rfl, B4⟩
  rw [mac_fox]
  have BB4 : Below w.heap.size w W4 := BB3.trans (B4.mono BB3.size)
  clear hk3 ht3 BB3 B4 hW3 HW3 kc2 kc
  go_wp2_with fail
  refine (hex_any foxN W4 rfl foxN_byt).mono ?_
  rintro e W5 ⟨rfl, B5⟩
  rw [str_fox]
  have BB5 : Below w.heap.size w W5 := BB4.trans (B5.mono BB4.size)
  clear BB4 B5
  go_wp2_with fail
  go_ret
  exact ⟨rfl, BB5⟩
end Go.Proofs.Ytkfmplkbimnjfaa
