/-
  The law DiskOfNothing, walked: true for every name, bytes and number.
-/
import Derived.Test.YthkgmnmdojmfgaaKnown
namespace Go.Proofs.Ythkgmnmdojmfgaa
open Go.RowKit Go.Maps
variable {w w' : World}
theorem Write_nil (x : Nm) (ap : Option Addr) (m cp : Nat) (w : World) : Calls Try.prog 15 #[.pointer none, encStr x, .slice ap m cp] w fun e w' => e = .returned (.int .i64 1) ∧ Below w.heap.size w w' := by
  have hmf : ∀ (fn : Fn) (first cap : Array Value) (w : World), (Instr.makeFunc fn first cap).run Try.prog w = .ok (.func fn first cap) w := fun _ _ _ _ => rfl
  go_enter Try.func15, Try.ntmps15
  go_wp2_with fail
  refine (gate_nil _ _ _).mono ?_
  rintro e W ⟨rfl, rfl⟩
  go_wp2_with fail
  go_ret
  exact ⟨rfl, (Below.refl _ _).alloc (Nat.le_refl _) _⟩
theorem Sync_nil (x : Nm) (w : World) : Calls Try.prog 19 #[.pointer none, encStr x] w fun e w' => e = .returned (.int .i64 1) ∧ Below w.heap.size w w' := by
  have hmf : ∀ (fn : Fn) (first cap : Array Value) (w : World), (Instr.makeFunc fn first cap).run Try.prog w = .ok (.func fn first cap) w := fun _ _ _ _ => rfl
  go_enter Try.func19, Try.ntmps19
  go_wp2_with fail
  refine (gate_nil _ _ _).mono ?_
  rintro e W ⟨rfl, rfl⟩
  go_wp2_with fail
  go_ret
  exact ⟨rfl, (Below.refl _ _).alloc (Nat.le_refl _) _⟩
theorem Remove_nil (x : Nm) (w : World) : Calls Try.prog 22 #[.pointer none, encStr x] w fun e w' => e = .returned (.int .i64 1) ∧ Below w.heap.size w w' := by
  have hmf : ∀ (fn : Fn) (first cap : Array Value) (w : World), (Instr.makeFunc fn first cap).run Try.prog w = .ok (.func fn first cap) w := fun _ _ _ _ => rfl
  go_enter Try.func22, Try.ntmps22
  go_wp2_with fail
  refine (gate_nil _ _ _).mono ?_
  rintro e W ⟨rfl, rfl⟩
  go_wp2_with fail
  go_ret
  exact ⟨rfl, (Below.refl _ _).alloc (Nat.le_refl _) _⟩
theorem Cut_nil (x : Nm) (n : Int) (w : World) : Calls Try.prog 23 #[.pointer none, encStr x, .int .i64 n] w fun e w' => e = .returned (.int .i64 1) ∧ Below w.heap.size w w' := by
  have hmf : ∀ (fn : Fn) (first cap : Array Value) (w : World), (Instr.makeFunc fn first cap).run Try.prog w = .ok (.func fn first cap) w := fun _ _ _ _ => rfl
  go_enter Try.func23, Try.ntmps23
  go_wp2_with fail
  refine (gate_nil _ _ _).mono ?_
  rintro e W ⟨rfl, rfl⟩
  go_wp2_with fail
  go_ret
  exact ⟨rfl, (Below.refl _ _).alloc (Nat.le_refl _) _⟩
theorem Rename_nil (x y : Nm) (w : World) : Calls Try.prog 24 #[.pointer none, encStr x, encStr y] w fun e w' => e = .returned (.int .i64 1) ∧ Below w.heap.size w w' := by
  have hmf : ∀ (fn : Fn) (first cap : Array Value) (w : World), (Instr.makeFunc fn first cap).run Try.prog w = .ok (.func fn first cap) w := fun _ _ _ _ => rfl
  go_enter Try.func24, Try.ntmps24
  go_wp2_with fail
  refine (gate_nil _ _ _).mono ?_
  rintro e W ⟨rfl, rfl⟩
  go_wp2_with fail
  go_ret
  exact ⟨rfl, (Below.refl _ _).alloc (Nat.le_refl _) _⟩
theorem Copy_nil (w : World) : Calls Try.prog 13 #[.pointer none] w fun e w' => e = .returned (.pointer none) ∧ w' = w := by
  go_enter Try.func13, Try.ntmps13
  go_wp2
  go_ret
  exact ⟨rfl, rfl⟩
set_option maxHeartbeats 1600000 in
theorem nothing_walk (x : Nm) (ap : Option Addr) (cp m : Nat) (n : Int) (w : World) :
    Calls Try.prog 6 #[encStr x, .slice ap m cp, .int .i64 n] w fun e w' => e = .returned (.bool true) ∧ Below w.heap.size w w' := by
  have hs := str_size x
  by_cases h8 : 8000 < wrap64 ((x.length : Int) + (m : Int))
  · go_enter Try.func6, Try.ntmps6
    go_wp2_with fail
    go_ret
    exact ⟨rfl, Below.refl _ _⟩
  · go_enter Try.func6, Try.ntmps6
    go_wp2_with fail
    refine (Fuse_nil _ _).mono ?_
    rintro e W ⟨rfl, rfl⟩
    go_wp2_with fail
    refine (Crash_nil _ _ _).mono ?_
    rintro e W ⟨rfl, rfl⟩
    go_wp2_with fail
    refine (Read_nil _ _).mono ?_
    rintro e W ⟨rfl, rfl⟩
    go_wp2_with fail
    refine (Write_nil x _ _ _ _).mono ?_
    rintro e W1 ⟨rfl, B1⟩
    go_wp2_with fail
    refine (Sync_nil x _).mono ?_
    rintro e W2 ⟨rfl, B2⟩
    replace B2 := B1.trans (B2.mono B1.size)
    clear B1
    go_wp2_with fail
    refine (Cut_nil x _ _).mono ?_
    rintro e W3 ⟨rfl, B3⟩
    replace B3 := B2.trans (B3.mono B2.size)
    clear B2
    go_wp2_with fail
    refine (Rename_nil x x _).mono ?_
    rintro e W4 ⟨rfl, B4⟩
    replace B4 := B3.trans (B4.mono B3.size)
    clear B3
    go_wp2_with fail
    refine (Remove_nil x _).mono ?_
    rintro e W5 ⟨rfl, B5⟩
    replace B5 := B4.trans (B5.mono B4.size)
    clear B4
    go_wp2_with fail
    refine (Names_nil _).mono ?_
    rintro e W6 ⟨rfl, rfl⟩
    go_wp2_with fail
    refine (Used_nil _).mono ?_
    rintro e W7 ⟨rfl, rfl⟩
    go_wp2_with fail
    refine (Copy_nil _).mono ?_
    rintro e W8 ⟨rfl, rfl⟩
    go_wp2_with fail
    refine (known_any _).mono ?_
    rintro e W9 ⟨rfl, B9⟩
    replace B9 := B5.trans (B9.mono B5.size)
    clear B5
    go_wp2_with fail
    go_ret
    exact ⟨rfl, B9⟩
end Go.Proofs.Ythkgmnmdojmfgaa
