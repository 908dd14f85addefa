/-
  CodeParses, walked.
-/
import Derived.Test.YtddmnpfebajnmaaDoorProgs
import Derived.Test.YtddmnpfebajnmaaDoorRParse
namespace Go.Proofs.YtddmnpfebajnmaaDoor
open Go.RowKit
set_option maxRecDepth 20000 in
set_option maxHeartbeats 4000000 in
theorem parses_walk (s : List UInt8) (hsl : s.length ≤ 9223372036854775807) (w : World) (ht : Tt w) :
    Calls Tryd.prog 5 #[.string ⟨s.toArray⟩] w fun e w' => e = .returned (.bool true) ∧ Below w.heap.size w w' := by
  have zs : (⟨s.toArray⟩ : ByteArray).size = s.length := by simp [ByteArray.size]
  by_cases h3 : 3000 < s.length
  · generalize s.length = ns at *
    go_enter Tryd.func5, Tryd.ntmps5
    go_wp2
    go_ret
    exact ⟨rfl, Below.refl _ _⟩
  have HT0 := hid_into ht
  have C22 := fun W h' => parse_any s (by omega) W h'
  have C23 := fun W => rparse_any s (by omega) W
  generalize parS s = D at *
  obtain ⟨dl, da, de⟩ := D
  simp only at C22 C23
  generalize s.length = ns at *
  clear ht
  go_enter Tryd.func5, Tryd.ntmps5
  go_wp2_with (first
    | (go_at_call 22; refine (C22 _ HT0.out).mono ?_; rintro e w1 ⟨s1, rfl, h1, B1⟩; have HB1 := hid_into B1; have HS1 := hid_into h1; clear h1 B1)
    | (go_at_call 23; refine (C23 _).mono ?_; rintro e w2 ⟨s2, rfl, h2, B2⟩; have HB2 := hid_into (HB1.out.trans (B2.mono HB1.out.size)); have HS12 := hid_into (HS1.out.below B2); have HS2 := hid_into h2; clear h2 B2)
    | (go_at_call 16; refine (programs_any _ _ _ _ _ HS12.out HS2.out).mono ?_; rintro e w3 ⟨rfl, sm3⟩; rw [eqI_true rfl]; have HB3 := hid_into (HB2.out.trans (sm3.below _)); clear sm3)
    | (go_at_call 17; refine (known_any _ (HT0.out.tp.below HB3.out (Nat.le_refl _))).mono ?_; rintro e w4 ⟨rfl, B4⟩))
  go_ret
  exact ⟨rfl, HB3.out.trans (B4.mono HB3.out.size)⟩
end Go.Proofs.YtddmnpfebajnmaaDoor
