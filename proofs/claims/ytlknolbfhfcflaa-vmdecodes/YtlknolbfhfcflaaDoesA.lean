/-
  The document's truth, takes, two and does: each instruction, by a contract.
-/
import Derived.Test.YtlknolbfhfcflaaRefM
import Derived.Test.YtlknolbfhfcflaaVmOps
import Derived.Deep.RegionHeld3
namespace Go.Proofs.Ytlknolbfhfcflaa
open Go.RowKit
variable {fr i0 i1 : Int} {sv : Value} {cells : List Int} {seed : Int} {w w' : World} {g : Nat} {zs : List Int}
theorem rtruth_any (b : Bool) (w : World) : Calls Try.prog 53 #[.bool b] w fun e w' => e = .returned (.int .i32 (truI b)) ∧ w' = w := by
  cases b
  · go_enter Try.func53, Try.ntmps53
    go_wp2
    go_ret
    exact ⟨rfl, rfl⟩
  · go_enter Try.func53, Try.ntmps53
    go_wp2
    go_ret
    exact ⟨rfl, rfl⟩
theorem takes_1 (w : World) : Calls Try.prog 50 #[.int .i64 1] w fun e w' => e = .returned (.int .i64 0) ∧ w' = w := by
  go_enter Try.func50, Try.ntmps50
  go_wp2
  go_ret
  exact ⟨rfl, rfl⟩
theorem takes_2 (w : World) : Calls Try.prog 50 #[.int .i64 2] w fun e w' => e = .returned (.int .i64 0) ∧ w' = w := by
  go_enter Try.func50, Try.ntmps50
  go_wp2
  go_ret
  exact ⟨rfl, rfl⟩
theorem takes_3 (w : World) : Calls Try.prog 50 #[.int .i64 3] w fun e w' => e = .returned (.int .i64 1) ∧ w' = w := by
  go_enter Try.func50, Try.ntmps50
  go_wp2
  go_ret
  exact ⟨rfl, rfl⟩
theorem takes_4 (w : World) : Calls Try.prog 50 #[.int .i64 4] w fun e w' => e = .returned (.int .i64 2) ∧ w' = w := by
  go_enter Try.func50, Try.ntmps50
  go_wp2
  go_ret
  exact ⟨rfl, rfl⟩
theorem takes_5 (w : World) : Calls Try.prog 50 #[.int .i64 5] w fun e w' => e = .returned (.int .i64 2) ∧ w' = w := by
  go_enter Try.func50, Try.ntmps50
  go_wp2
  go_ret
  exact ⟨rfl, rfl⟩
theorem takes_6 (w : World) : Calls Try.prog 50 #[.int .i64 6] w fun e w' => e = .returned (.int .i64 2) ∧ w' = w := by
  go_enter Try.func50, Try.ntmps50
  go_wp2
  go_ret
  exact ⟨rfl, rfl⟩
theorem takes_7 (w : World) : Calls Try.prog 50 #[.int .i64 7] w fun e w' => e = .returned (.int .i64 2) ∧ w' = w := by
  go_enter Try.func50, Try.ntmps50
  go_wp2
  go_ret
  exact ⟨rfl, rfl⟩
theorem takes_8 (w : World) : Calls Try.prog 50 #[.int .i64 8] w fun e w' => e = .returned (.int .i64 2) ∧ w' = w := by
  go_enter Try.func50, Try.ntmps50
  go_wp2
  go_ret
  exact ⟨rfl, rfl⟩
theorem takes_9 (w : World) : Calls Try.prog 50 #[.int .i64 9] w fun e w' => e = .returned (.int .i64 2) ∧ w' = w := by
  go_enter Try.func50, Try.ntmps50
  go_wp2
  go_ret
  exact ⟨rfl, rfl⟩
theorem takes_10 (w : World) : Calls Try.prog 50 #[.int .i64 10] w fun e w' => e = .returned (.int .i64 2) ∧ w' = w := by
  go_enter Try.func50, Try.ntmps50
  go_wp2
  go_ret
  exact ⟨rfl, rfl⟩
theorem takes_11 (w : World) : Calls Try.prog 50 #[.int .i64 11] w fun e w' => e = .returned (.int .i64 2) ∧ w' = w := by
  go_enter Try.func50, Try.ntmps50
  go_wp2
  go_ret
  exact ⟨rfl, rfl⟩
theorem takes_12 (w : World) : Calls Try.prog 50 #[.int .i64 12] w fun e w' => e = .returned (.int .i64 1) ∧ w' = w := by
  go_enter Try.func50, Try.ntmps50
  go_wp2
  go_ret
  exact ⟨rfl, rfl⟩
theorem takes_13 (w : World) : Calls Try.prog 50 #[.int .i64 13] w fun e w' => e = .returned (.int .i64 1) ∧ w' = w := by
  go_enter Try.func50, Try.ntmps50
  go_wp2
  go_ret
  exact ⟨rfl, rfl⟩
theorem takes_14 (w : World) : Calls Try.prog 50 #[.int .i64 14] w fun e w' => e = .returned (.int .i64 2) ∧ w' = w := by
  go_enter Try.func50, Try.ntmps50
  go_wp2
  go_ret
  exact ⟨rfl, rfl⟩
theorem takes_15 (w : World) : Calls Try.prog 50 #[.int .i64 15] w fun e w' => e = .returned (.int .i64 1) ∧ w' = w := by
  go_enter Try.func50, Try.ntmps50
  go_wp2
  go_ret
  exact ⟨rfl, rfl⟩
theorem takes_16 (w : World) : Calls Try.prog 50 #[.int .i64 16] w fun e w' => e = .returned (.int .i64 0) ∧ w' = w := by
  go_enter Try.func50, Try.ntmps50
  go_wp2
  go_ret
  exact ⟨rfl, rfl⟩
theorem takes_17 (w : World) : Calls Try.prog 50 #[.int .i64 17] w fun e w' => e = .returned (.int .i64 0) ∧ w' = w := by
  go_enter Try.func50, Try.ntmps50
  go_wp2
  go_ret
  exact ⟨rfl, rfl⟩
theorem takes_18 (w : World) : Calls Try.prog 50 #[.int .i64 18] w fun e w' => e = .returned (.int .i64 0) ∧ w' = w := by
  go_enter Try.func50, Try.ntmps50
  go_wp2
  go_ret
  exact ⟨rfl, rfl⟩
theorem takes_19 (w : World) : Calls Try.prog 50 #[.int .i64 19] w fun e w' => e = .returned (.int .i64 1) ∧ w' = w := by
  go_enter Try.func50, Try.ntmps50
  go_wp2
  go_ret
  exact ⟨rfl, rfl⟩
theorem takes_20 (w : World) : Calls Try.prog 50 #[.int .i64 20] w fun e w' => e = .returned (.int .i64 0) ∧ w' = w := by
  go_enter Try.func50, Try.ntmps50
  go_wp2
  go_ret
  exact ⟨rfl, rfl⟩
theorem takes_21 (w : World) : Calls Try.prog 50 #[.int .i64 21] w fun e w' => e = .returned (.int .i64 0) ∧ w' = w := by
  go_enter Try.func50, Try.ntmps50
  go_wp2
  go_ret
  exact ⟨rfl, rfl⟩
theorem takes_22 (w : World) : Calls Try.prog 50 #[.int .i64 22] w fun e w' => e = .returned (.int .i64 0) ∧ w' = w := by
  go_enter Try.func50, Try.ntmps50
  go_wp2
  go_ret
  exact ⟨rfl, rfl⟩
theorem two_4 (b a : Int) (hb : In32 b) (ha : In32 a) (w : World) : Calls Try.prog 54 #[.int .i64 4, .int .i32 b, .int .i32 a] w fun e w' => e = .returned (.int .i32 (twoI 4 b a)) ∧ w' = w := by
  have HB := hid_into (And.intro hb ha)
  go_enter Try.func54, Try.ntmps54
  go_wp2_with (go_at_call 21; refine (RefAdd_any _ _ HB.out.1 HB.out.2 _).mono ?_; rintro e w' ⟨rfl, rfl⟩)
  go_ret
  exact ⟨rfl, rfl⟩
theorem two_5 (b a : Int) (hb : In32 b) (ha : In32 a) (w : World) : Calls Try.prog 54 #[.int .i64 5, .int .i32 b, .int .i32 a] w fun e w' => e = .returned (.int .i32 (twoI 5 b a)) ∧ w' = w := by
  have HB := hid_into (And.intro hb ha)
  go_enter Try.func54, Try.ntmps54
  go_wp2_with (go_at_call 22; refine (RefSub_any _ _ HB.out.1 HB.out.2 _).mono ?_; rintro e w' ⟨rfl, rfl⟩)
  go_ret
  exact ⟨rfl, rfl⟩
theorem two_6 (b a : Int) (hb : In32 b) (ha : In32 a) (w : World) : Calls Try.prog 54 #[.int .i64 6, .int .i32 b, .int .i32 a] w fun e w' => e = .returned (.int .i32 (twoI 6 b a)) ∧ w' = w := by
  have HB := hid_into (And.intro hb ha)
  go_enter Try.func54, Try.ntmps54
  go_wp2_with (go_at_call 23; refine (RefMul_any _ _ HB.out.1 HB.out.2 _).mono ?_; rintro e w' ⟨rfl, rfl⟩)
  go_ret
  exact ⟨rfl, rfl⟩
theorem two_7 (b a : Int) (hb : In32 b) (ha : In32 a) (w : World) : Calls Try.prog 54 #[.int .i64 7, .int .i32 b, .int .i32 a] w fun e w' => e = .returned (.int .i32 (twoI 7 b a)) ∧ w' = w := by
  have HB := hid_into (And.intro hb ha)
  go_enter Try.func54, Try.ntmps54
  go_wp2_with (go_at_call 24; refine (RefDiv_any _ _ HB.out.1 HB.out.2 _).mono ?_; rintro e w' ⟨rfl, rfl⟩)
  go_ret
  exact ⟨rfl, rfl⟩
theorem two_8 (b a : Int) (_ : In32 b) (_ : In32 a) (w : World) : Calls Try.prog 54 #[.int .i64 8, .int .i32 b, .int .i32 a] w fun e w' => e = .returned (.int .i32 (twoI 8 b a)) ∧ w' = w := by
  by_cases hm : a ≤ b
  · have e8 : twoI 8 b a = a := by show (if b ≤ a then b else a) = a; split <;> omega
    rw [e8]
    go_enter Try.func54, Try.ntmps54
    go_wp2
    go_ret
    exact ⟨rfl, rfl⟩
  · have e8 : twoI 8 b a = b := by show (if b ≤ a then b else a) = b; split <;> omega
    rw [e8]
    go_enter Try.func54, Try.ntmps54
    go_wp2
    go_ret
    exact ⟨rfl, rfl⟩
theorem two_9 (b a : Int) (_ : In32 b) (_ : In32 a) (w : World) : Calls Try.prog 54 #[.int .i64 9, .int .i32 b, .int .i32 a] w fun e w' => e = .returned (.int .i32 (twoI 9 b a)) ∧ w' = w := by
  by_cases hm : a < b
  · have e8 : twoI 9 b a = b := by show (if b < a then a else b) = b; split <;> omega
    rw [e8]
    go_enter Try.func54, Try.ntmps54
    go_wp2
    go_ret
    exact ⟨rfl, rfl⟩
  · have e8 : twoI 9 b a = a := by show (if b < a then a else b) = a; split <;> omega
    rw [e8]
    go_enter Try.func54, Try.ntmps54
    go_wp2
    go_ret
    exact ⟨rfl, rfl⟩
theorem two_10 (b a : Int) (_ : In32 b) (_ : In32 a) (w : World) : Calls Try.prog 54 #[.int .i64 10, .int .i32 b, .int .i32 a] w fun e w' => e = .returned (.int .i32 (twoI 10 b a)) ∧ w' = w := by
  have e8 : Hid (twoI 10 b a = truI (decide (b < a))) := hid_into rfl
  go_enter Try.func54, Try.ntmps54
  go_wp2_with (go_at_call 53; refine (rtruth_any _ _).mono ?_; rintro e w' ⟨rfl, rfl⟩)
  go_ret
  exact ⟨by rw [e8.out]; rfl, rfl⟩
theorem two_11 (b a : Int) (_ : In32 b) (_ : In32 a) (w : World) : Calls Try.prog 54 #[.int .i64 11, .int .i32 b, .int .i32 a] w fun e w' => e = .returned (.int .i32 (twoI 11 b a)) ∧ w' = w := by
  have e8 : Hid (twoI 11 b a = truI (decide (b = a))) := hid_into rfl
  go_enter Try.func54, Try.ntmps54
  go_wp2_with (go_at_call 53; refine (rtruth_any _ _).mono ?_; rintro e w' ⟨rfl, rfl⟩)
  go_ret
  exact ⟨by rw [e8.out]; rfl, rfl⟩
def wonI : Option Int → Int
  | none => -1
  | some a => a
/-- What does answers, and leaves, beside the plain instruction. -/
def DoesP (fr i0 i1 : Int) (n : Nat) (x : Ii) (m : Mp) (r : Bool) (zs : List Int) (q : Rm) : Prop :=
  (∃ m', doI fr i0 i1 n x m = some m' ∧ q.bad = false ∧ q.cells = m'.cells ∧ q.seed = m'.seed ∧ zs = m'.st.reverse ∧ q.won = wonI m'.won ∧ r = decide (m'.pc < n) ∧ (r = true → q.pc = m'.pc ∧ m'.won = none)) ∨ (doI fr i0 i1 n x m = none ∧ q.bad = true ∧ r = false)
def DoesQ (w : World) (g n j : Nat) (fr i0 i1 : Int) (cells : List Int) (seed : Int) (zs : List Int) (x : Ii) (e : Ending) (w' : World) : Prop :=
  ∃ r zs' q' sv', e = .returned (.bool r) ∧ Rw w' g fr i0 i1 zs' q' sv' ∧ Below g w w' ∧ DoesP fr i0 i1 n x ⟨cells, seed, zs.reverse, j, none⟩ r zs' q'
def DoesC (w : World) (g n j : Nat) (fr i0 i1 : Int) (cells : List Int) (seed : Int) (zs : List Int) (x : Ii) : Prop :=
  Calls Try.prog 29 #[.pointer (some ⟨g, 0, none⟩), .agg #[.int .i64 x.1, .int .i64 x.2], .int .i64 (n : Int)] w fun e w' => DoesQ w g n j fr i0 i1 cells seed zs x e w'
end Go.Proofs.Ytlknolbfhfcflaa
