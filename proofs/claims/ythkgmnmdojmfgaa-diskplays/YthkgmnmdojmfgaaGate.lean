/-
  disk's gate: the names (isNone, slices.ContainsFunc of one or two names), the fuse (burnt, burn), and what is done, by contracts.
-/
import Derived.Test.YthkgmnmdojmfgaaStepsC
import Derived.LoopN
namespace Go.Proofs.Ythkgmnmdojmfgaa
open Go.RowKit Go.Maps
variable {X : Nm → Prop} {w w' : World} {F : Nat → Prop} {sb : Nat} {mb : Option Nat} {room : Int} {fs : Fls} {lit : Bool} {left : Int}

/-- Is a name none? -/
def noneB (x : Nm) : Bool := decide ((x.length : Int) < 1) || decide ((64 : Int) < (x.length : Int))
theorem str_size (x : Nm) : (⟨x.toArray⟩ : ByteArray).size = x.length := by simp [ByteArray.size]
theorem isNone_any (x : Nm) (w : World) : Calls Try.prog 55 #[encStr x] w fun e w' => e = .returned (.bool (noneB x)) ∧ w' = w := by
  have hs := str_size x
  by_cases h1 : (x.length : Int) < 1
  · have HN : Hid (noneB x = true) := by simp [Hid, noneB, h1]
    go_enter Try.func55, Try.ntmps55
    go_wp2
    go_ret
    exact ⟨by rw [HN.out]; rfl, rfl⟩
  · have HN : Hid (noneB x = decide ((64 : Int) < (x.length : Int))) := by simp [Hid, noneB, h1]
    go_enter Try.func55, Try.ntmps55
    go_wp2
    go_ret
    exact ⟨by rw [HN.out]; rfl, rfl⟩
def burntB (lit : Bool) (left : Int) : Bool := lit && (left == 0)
theorem burnt_any (lit : Bool) (left : Int) (w : World) : Calls Try.prog 53 #[.agg #[.bool lit, .int .i64 left]] w fun e w' => e = .returned (.bool (burntB lit left)) ∧ Below w.heap.size w w' := by
  cases lit with
  | false =>
    go_enter Try.func53, Try.ntmps53
    go_wp2
    go_ret
    exact ⟨rfl, (Below.refl _ _).alloc (Nat.le_refl _) _⟩
  | true =>
    go_enter Try.func53, Try.ntmps53
    go_wp2
    go_ret
    exact ⟨by simp [burntB], (Below.refl _ _).alloc (Nat.le_refl _) _⟩
theorem has_one (b : Nat) (x : Nm) (w : World) (hc : Cw w b [encStr x] 9) : Calls Try.prog 54 #[.slice (some ⟨b, 0, none⟩) 1 1, .func (.func 55) #[] #[]] w fun e w' => e = .returned (.bool (noneB x)) ∧ w' = w := by
  have c0 : w.cell? ⟨b, 0, none⟩ = some (encStr x) := by rw [hc.cell]; rfl
  cases hn : noneB x with
  | true =>
    have hi : Calls Try.prog 66 #[.slice (some ⟨b, 0, none⟩) 1 1, .func (.func 55) #[] #[]] w fun e w' => e = .returned (.int .i64 0) ∧ w' = w := by
      go_enter Try.func66, Try.ntmps66
      go_wp2_with fail
      refine wp_loop_rounds 2 ?_
      rw [rounds_succ]
      go_wp2_with fail
      refine (isNone_any x w).mono ?_
      rintro e w' ⟨rfl, rfl⟩
      go_wp2_with fail
      go_ret
      exact ⟨rfl, rfl⟩
    go_enter Try.func54, Try.ntmps54
    go_wp2_with fail
    refine hi.mono ?_
    rintro e w' ⟨rfl, rfl⟩
    go_wp2_with fail
    go_ret
    exact ⟨rfl, rfl⟩
  | false =>
    have hi : Calls Try.prog 66 #[.slice (some ⟨b, 0, none⟩) 1 1, .func (.func 55) #[] #[]] w fun e w' => e = .returned (.int .i64 (-1)) ∧ w' = w := by
      go_enter Try.func66, Try.ntmps66
      go_wp2_with fail
      refine wp_loop_rounds 2 ?_
      rw [rounds_succ]
      go_wp2_with fail
      refine (isNone_any x w).mono ?_
      rintro e w' ⟨rfl, rfl⟩
      go_wp2_with fail
      rw [rounds_succ]
      go_wp2_with fail
      go_ret
      exact ⟨rfl, rfl⟩
    go_enter Try.func54, Try.ntmps54
    go_wp2_with fail
    refine hi.mono ?_
    rintro e w' ⟨rfl, rfl⟩
    go_wp2_with fail
    go_ret
    exact ⟨rfl, rfl⟩
theorem has_two (b : Nat) (x y : Nm) (w : World) (hc : Cw w b [encStr x, encStr y] 9) : Calls Try.prog 54 #[.slice (some ⟨b, 0, none⟩) 2 2, .func (.func 55) #[] #[]] w fun e w' => e = .returned (.bool (noneB x || noneB y)) ∧ w' = w := by
  have c0 : w.cell? ⟨b, 0, none⟩ = some (encStr x) := by rw [hc.cell]; rfl
  have c1 : w.cell? ⟨b, 1, none⟩ = some (encStr y) := by rw [hc.cell]; rfl
  cases hn : noneB x with
  | true =>
    have hi : Calls Try.prog 66 #[.slice (some ⟨b, 0, none⟩) 2 2, .func (.func 55) #[] #[]] w fun e w' => e = .returned (.int .i64 0) ∧ w' = w := by
      go_enter Try.func66, Try.ntmps66
      go_wp2_with fail
      refine wp_loop_rounds 2 ?_
      rw [rounds_succ]
      go_wp2_with fail
      refine (isNone_any x w).mono ?_
      rintro e w' ⟨rfl, rfl⟩
      go_wp2_with fail
      go_ret
      exact ⟨rfl, rfl⟩
    go_enter Try.func54, Try.ntmps54
    go_wp2_with fail
    refine hi.mono ?_
    rintro e w' ⟨rfl, rfl⟩
    go_wp2_with fail
    go_ret
    exact ⟨rfl, rfl⟩
  | false =>
    cases hm : noneB y with
    | true =>
      have hi : Calls Try.prog 66 #[.slice (some ⟨b, 0, none⟩) 2 2, .func (.func 55) #[] #[]] w fun e w' => e = .returned (.int .i64 1) ∧ w' = w := by
        go_enter Try.func66, Try.ntmps66
        go_wp2_with fail
        refine wp_loop_rounds 3 ?_
        rw [rounds_succ]
        go_wp2_with fail
        refine (isNone_any x w).mono ?_
        rintro e w' ⟨rfl, rfl⟩
        go_wp2_with fail
        rw [rounds_succ]
        go_wp2_with fail
        refine (isNone_any y _).mono ?_
        rintro e w' ⟨rfl, rfl⟩
        go_wp2_with fail
        go_ret
        exact ⟨rfl, rfl⟩
      go_enter Try.func54, Try.ntmps54
      go_wp2_with fail
      refine hi.mono ?_
      rintro e w' ⟨rfl, rfl⟩
      go_wp2_with fail
      go_ret
      exact ⟨rfl, rfl⟩
    | false =>
      have hi : Calls Try.prog 66 #[.slice (some ⟨b, 0, none⟩) 2 2, .func (.func 55) #[] #[]] w fun e w' => e = .returned (.int .i64 (-1)) ∧ w' = w := by
        go_enter Try.func66, Try.ntmps66
        go_wp2_with fail
        refine wp_loop_rounds 3 ?_
        rw [rounds_succ]
        go_wp2_with fail
        refine (isNone_any x w).mono ?_
        rintro e w' ⟨rfl, rfl⟩
        go_wp2_with fail
        rw [rounds_succ]
        go_wp2_with fail
        refine (isNone_any y _).mono ?_
        rintro e w' ⟨rfl, rfl⟩
        go_wp2_with fail
        rw [rounds_succ]
        go_wp2_with fail
        go_ret
        exact ⟨rfl, rfl⟩
      go_enter Try.func54, Try.ntmps54
      go_wp2_with fail
      refine hi.mono ?_
      rintro e w' ⟨rfl, rfl⟩
      go_wp2_with fail
      go_ret
      exact ⟨rfl, rfl⟩
def burnL (ev : Int) (lit : Bool) (left : Int) : Int := if ev = 0 ∧ lit = true then left - 1 else left
theorem Dx.setLeft (h : Dk w F sb mb room fs lit left) (n : Int) (hn : 0 ≤ n ∧ n < 9223372036854775808) : Dk (w.setCell ⟨sb, 4, none⟩ (.int .i64 n)) F sb mb room fs lit n where
  cells := h.cells.set 4 _
  sF := h.sF
  nn := h.nn
  map := fun b hb => ⟨(h.map b hb).1, ownsMap_keep (h.map b hb).2 (Below.heap_setCell _ _ _ _ fun e => mb_ne h (by rw [hb]; exact congrArg some e.symm))⟩
  form := h.form
  rowsX := fun p hp hx => by
    obtain ⟨h1, h2, h3, h4⟩ := h.rowsX p hp hx
    exact ⟨h1.keep fun k hk => Below.heap_setCell _ _ _ _ (row_ne h h1 hk).1, h2, h3, h4⟩
  apart := h.apart
  room0 := h.room0
  fits := h.fits
  left0 := hn
  cnt := h.cnt
theorem burn_any (h : Dk w F sb mb room fs lit left) (hb : burntB lit left = false) :
    Calls Try.prog 56 #[.pointer (some ⟨sb, 3, none⟩)] w fun e w' => e = .returned (.tuple #[]) ∧ Dk w' F sb mb room fs lit (burnL 0 lit left) ∧ Grows F w w' := by
  obtain ⟨c0, c1, c2, c3, c4⟩ := h.cell
  have f4 := h.cells.frozen 4
  cases lit with
  | false =>
    go_enter Try.func56, Try.ntmps56
    go_wp2
    go_end0
    exact ⟨rfl, h, Grows.refl _ _⟩
  | true =>
    have hl0 := h.left0
    have hn0 : left ≠ 0 := by intro e; simp [burntB, e] at hb
    have hw : wrap64 (left - 1) = left - 1 := by simp only [wrap64]; omega
    have HD : Hid (Dk (w.setCell ⟨sb, 4, none⟩ (.int .i64 (left - 1))) F sb mb room fs true (left - 1)) := h.setLeft (left - 1) (by omega)
    have HG : Hid (Grows F w (w.setCell ⟨sb, 4, none⟩ (.int .i64 (left - 1)))) := Grows.setCell _ _ _ h.sF
    clear hl0 hn0 hb
    go_enter Try.func56, Try.ntmps56
    go_wp2
    go_end0
    exact ⟨rfl, by simpa [burnL] using HD.out, HG.out⟩
end Go.Proofs.Ythkgmnmdojmfgaa
