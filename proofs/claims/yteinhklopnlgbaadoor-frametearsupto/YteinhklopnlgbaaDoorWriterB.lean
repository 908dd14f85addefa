/-
  The Writer's other methods, by contracts: Two, Four, Num, Bytes, Hash, Out; each of a nil Writer too.
-/
import Derived.Test.YteinhklopnlgbaaDoorWriter
import Derived.Test.YteinhklopnlgbaaDoorBits
namespace Go.Proofs.YteinhklopnlgbaaDoor
open Go.RowKit

theorem layRow_nil (sv : Value) (zs : List Int) (w : World) (hb : Bs w sv zs) :
    Calls Tryd.prog 32 #[.func (.func 25) #[.pointer none] #[], sv] w fun e w' => e = .returned (.tuple #[]) ∧ w' = w := by
  obtain ⟨ao, cap, hsv, hm⟩ := hb.len
  subst hsv
  unfold maxLen at hm
  go_enter Tryd.func32, Tryd.ntmps32
  go_wp2
  go_loop [8] (fun i => ∃ (k : Nat), k ≤ zs.length ∧ i = .int .i64 k) (fun i => zs.length - (intOf i).toNat)
  case atStart => exact ⟨0, Nat.zero_le _, rfl⟩
  case round =>
    obtain ⟨k, hk, rfl⟩ := hrel
    by_cases hlt : k < zs.length
    · rcases hb with ⟨h0, _⟩ | ⟨_, b2, off, cap2, he, hc1, hc2, hcell⟩
      · subst h0; simp at hlt
      · simp only [Value.slice.injEq] at he
        obtain ⟨rfl, _, rfl⟩ := he
        have hck := hcell k hlt
        clear hcell
        go_wp2_with (go_at_call 25; refine (byte_nil _ _).mono ?_; rintro e w' ⟨rfl, rfl⟩)
        go_round
        case rel => exact ⟨k + 1, by omega, by go_num⟩
        case measure => simp [intOf]; omega
    · go_wp2
      go_end0
      exact ⟨rfl, rfl⟩

theorem Wr.alloc {w : World} {b : Nat} {v : Value} {xs : List Int} (h : Wr w b v xs) (o : Obj) : Wr (w.alloc o) b v xs :=
  ⟨by rw [Below.heap_alloc w o b h.lt]; exact h.1, World.ownsRow.alloc h.2 o⟩
theorem Wstep.alloc (b : Nat) (w : World) (v : Value) (o : Obj) : Wstep b w v (w.alloc o) v :=
  ⟨rfl, rfl, rfl, by simp, fun k hk _ _ => Below.heap_alloc w o k hk, Or.inl rfl⟩
theorem Wr.sep_new {w : World} {b : Nat} {v : Value} {xs : List Int} (h : Wr w b v xs) (off n cap : Nat) : ∀ k, (Value.slice (some ⟨w.heap.size, off, none⟩) n cap).ownBlock = some k → k ≠ b ∧ some k ≠ v.ownBlock := by
  intro k hk
  have hk' : w.heap.size = k := by simpa [Value.ownBlock] using hk
  have hlt := h.lt
  refine ⟨by omega, fun e => ?_⟩
  have := (World.ownsRow.lt h.2) k e.symm
  omega

theorem four_w (b : Nat) (v : Value) (xs : List Int) (x : Int) (w : World) (hw : Wr w b v xs) (hn : xs.length ≤ 500000000000) :
    Calls Tryd.prog 21 #[.pointer (some ⟨b, 0, none⟩), .int .u32 x] w fun e w' => e = .returned (.tuple #[]) ∧ ∃ v', Wr w' b v' (xs ++ fourB x) ∧ Wstep b w v w' v' := by
  have hsep := hw.sep_new 0 4 4
  have hbs : Bs (w.alloc (.cells #[.int .u8 (x % 256), .int .u8 (x / 256 % 256), .int .u8 (x / 65536 % 256), .int .u8 (x / 16777216 % 256)] 5)) (.slice (some ⟨w.heap.size, 0, none⟩) 4 4) (fourB x) := Bs_of_block (heap_alloc_new w _) (by simp [fourB, maxLen])
  go_enter Tryd.func21, Tryd.ntmps21
  go_wp2_with (go_at_call 32; refine (layRow_w b v xs _ (fourB x) _ (hw.alloc _) hbs hsep hn (by simp [fourB])).mono ?_; rintro e w' ⟨rfl, v1, hw1, hs1⟩)
  go_end0
  exact ⟨rfl, v1, hw1, (Wstep.alloc b w v _).trans hs1⟩

theorem four_nil (x : Int) (w : World) :
    Calls Tryd.prog 21 #[.pointer none, .int .u32 x] w fun e w' => e = .returned (.tuple #[]) ∧ Below w.heap.size w w' := by
  have hbs : Bs (w.alloc (.cells #[.int .u8 (x % 256), .int .u8 (x / 256 % 256), .int .u8 (x / 65536 % 256), .int .u8 (x / 16777216 % 256)] 5)) (.slice (some ⟨w.heap.size, 0, none⟩) 4 4) (fourB x) := Bs_of_block (heap_alloc_new w _) (by simp [fourB, maxLen])
  go_enter Tryd.func21, Tryd.ntmps21
  go_wp2_with (go_at_call 32; refine (layRow_nil _ (fourB x) _ hbs).mono ?_; rintro e w' ⟨rfl, rfl⟩)
  go_end0
  exact ⟨rfl, (Below.refl _ _).alloc (Nat.le_refl _) _⟩

theorem ret_int {k : IntKind} {a b : Int} (h : a = b) : Ending.returned (.int k a) = .returned (.int k b) := by rw [h]

end Go.Proofs.YteinhklopnlgbaaDoor
