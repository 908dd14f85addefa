/-
  The Writer's other methods, by contracts: Two, Four, Num, Bytes, Hash, Out; each of a nil Writer too.
-/
import Derived.Test.YtkfnmdhhiigceaaOcWriter
import Derived.Test.YtkfnmdhhiigceaaOcBits
namespace Go.Proofs.Ytkfnmdhhiigceaa.Oc
open Go.RowKit

theorem Wr.alloc {w : World} {b : Nat} {v : Value} {xs : List Int} (h : Wr w b v xs) (o : Obj) : Wr (w.alloc o) b v xs :=
  ⟨by rw [Below.heap_alloc w o b h.lt]; exact h.1, World.ownsRow.alloc h.2 o⟩
theorem Wstep.alloc (b : Nat) (w : World) (v : Value) (o : Obj) : Wstep b w v (w.alloc o) v :=
  ⟨rfl, rfl, rfl, by simp, fun k hk _ _ => Below.heap_alloc w o k hk, Or.inl rfl⟩
theorem Wr.sep_new {w : World} {b : Nat} {v : Value} {xs : List Int} (h : Wr w b v xs) (off n cap : Nat) : ∀ k, (Value.slice (some ⟨w.heap.size, off, none⟩) n cap).ownBlock = some k → k ≠ b ∧ some k ≠ v.ownBlock := by
  intro k hk
  have hk' : w.heap.size = k := by simpa [Value.ownBlock] using hk
  have hlt := h.lt
  refine ⟨by omega, fun e => ?_⟩
  have := (World.ownsRow.lt h.2) k e.symm
  omega

theorem ret_int {k : IntKind} {a b : Int} (h : a = b) : Ending.returned (.int k a) = .returned (.int k b) := by rw [h]

theorem fold_any (x : Int) (w : World) (h0 : -9223372036854775808 ≤ x) (h1 : x ≤ 9223372036854775807) :
    Calls Try.prog 26 #[.int .i64 x] w fun e w' => e = .returned (.int .u64 (foldI x)) ∧ w = w' := by
  by_cases h : x < 0
  · have e1 := not64 x h0 h1
    have e2 := or1 ((-1 - x) * 2) (by omega) (by omega) (by omega)
    have HE : Hid (bits .or .u64 (IntKind.u64.wrap (IntKind.u64.wrap (bits .xor .i64 (-1) x) * 2)) 1 = foldI x) := by
      show _ = _
      rw [foldI_neg h, e1]
      simp only [IntKind.wrap_u64]
      have a1 : (-1 - x) % 18446744073709551616 = -1 - x := by omega
      rw [a1]
      have a2 : (-1 - x) * 2 % 18446744073709551616 = (-1 - x) * 2 := by omega
      rw [a2, e2]
      omega
    clear e1 e2
    go_enter Try.func26, Try.ntmps26
    go_wp2
    go_ret
    exact ⟨ret_int HE.out, rfl⟩
  · have HE : Hid (x * 2 = foldI x) := by show _ = _; rw [foldI_pos h]; omega
    go_enter Try.func26, Try.ntmps26
    go_wp2
    go_ret
    exact ⟨ret_int HE.out, rfl⟩

set_option maxHeartbeats 800000 in
theorem num_w (b : Nat) (v : Value) (xs : List Int) (x : Int) (w : World) (hw : Wr w b v xs) (hn : xs.length ≤ 500000000000) (h0 : -9223372036854775808 ≤ x) (h1 : x ≤ 9223372036854775807) :
    Calls Try.prog 18 #[.pointer (some ⟨b, 0, none⟩), .int .i64 x] w fun e w' => e = .returned (.tuple #[]) ∧ ∃ v', Wr w' b v' (xs ++ numOf x) ∧ Wstep b w v w' v' := by
  have hr := foldI_range x h0 h1
  have hnl := numOf_length x
  go_enter Try.func18, Try.ntmps18
  go_wp2_with (go_at_call 26; refine (fold_any _ _ h0 h1).mono ?_; rintro e w' ⟨rfl, rfl⟩)
  go_loopw [4] (fun i wr => ∃ (f : Nat) (u : Int) (ys : List Int) (v1 : Value), i = .int .u64 u ∧ Fits f u ∧ Hid (ys ++ numB f u = xs ++ numOf x) ∧ Wr wr b v1 ys ∧ Wstep b w v wr v1) (fun i _ => (intOf i).toNat)
  case atStart => exact ⟨9, foldI x, xs, v, rfl, Fits.start _ hr.1 hr.2, rfl, hw, Wstep.refl _ _ _⟩
  case round =>
    obtain ⟨f, u, ys, v1, rfl, hf, HE, hw1, hs1⟩ := hrel
    have hu0 := hf.1
    have hyl : ys.length ≤ 1000000000000 := by
      have := congrArg List.length HE.out
      simp only [List.length_append] at this
      omega
    by_cases hlt : u < 128
    · have HE2 : Hid (ys ++ [u] = xs ++ numOf x) := by rw [numB_small f u hlt] at HE; exact HE
      have hmod : u % 256 = u := by omega
      clear HE
      go_wp2_with (go_at_call 17; refine (byte_w b v1 _ _ _ hw1 hyl).mono ?_; rintro e w' ⟨rfl, v2, hw2, hs2⟩)
      go_end0
      rw [HE2.out] at hw2
      exact ⟨rfl, v2, hw2, hs1.trans hs2⟩
    · obtain ⟨g, rfl, hg⟩ := hf.next hlt
      have HE2 : Hid ((ys ++ [bits .or .u8 (u % 256) 128]) ++ numB g (u / 128) = xs ++ numOf x) := by
        show _ = _
        rw [or128 _ (by omega) (by omega), ← HE.out, numB_more g u hlt, List.append_assoc]
        have e : u % 256 % 128 = u % 128 := by omega
        rw [e]; rfl
      clear HE
      have hge : 128 ≤ u := by omega
      go_wp2_with (go_at_call 17; refine (byte_w b v1 _ _ _ hw1 hyl).mono ?_; rintro e w' ⟨rfl, v2, hw2, hs2⟩)
      go_roundw
      case rel => exact ⟨g, u / 128, _, v2, rfl, hg, HE2, hw2, hs1.trans hs2⟩
      case measure => simp [intOf]; omega

theorem num_nil (x : Int) (w : World) (h0 : -9223372036854775808 ≤ x) (h1 : x ≤ 9223372036854775807) :
    Calls Try.prog 18 #[.pointer none, .int .i64 x] w fun e w' => e = .returned (.tuple #[]) ∧ w' = w := by
  have hr := foldI_range x h0 h1
  go_enter Try.func18, Try.ntmps18
  go_wp2_with (go_at_call 26; refine (fold_any _ _ h0 h1).mono ?_; rintro e w' ⟨rfl, rfl⟩)
  go_loop [4] (fun i => ∃ (u : Int), i = .int .u64 u ∧ 0 ≤ u) (fun i => (intOf i).toNat)
  case atStart => exact ⟨foldI x, rfl, hr.1⟩
  case round =>
    obtain ⟨u, rfl, hu⟩ := hrel
    by_cases hlt : 128 ≤ u
    · go_wp2_with (go_at_call 17; refine (byte_nil _ _).mono ?_; rintro e w' ⟨rfl, rfl⟩)
      go_round
      case rel => exact ⟨u / 128, rfl, by omega⟩
      case measure => simp [intOf]; omega
    · go_wp2_with (go_at_call 17; refine (byte_nil _ _).mono ?_; rintro e w' ⟨rfl, rfl⟩)
      go_end0
      exact ⟨rfl, rfl⟩
end Go.Proofs.Ytkfnmdhhiigceaa.Oc
