/-
  disk's gate whole: dead, a name that is none, done.
-/
import Derived.Test.YthkgmnmdojmfgaaGate
import Derived.Shelf.Abstract
namespace Go.Proofs.Ythkgmnmdojmfgaa
open Go.RowKit Go.Maps
variable {X : Nm → Prop} {w w' : World} {F : Nat → Prop} {sb : Nat} {mb : Option Nat} {room : Int} {fs : Fls} {lit : Bool} {left : Int}

theorem gate_nil (dv sv : Value) (w : World) : Calls Try.prog 31 #[.pointer none, dv, sv] w fun e w' => e = .returned (.int .i64 1) ∧ w' = w := by
  go_enter Try.func31, Try.ntmps31
  go_wp2
  go_ret
  exact ⟨rfl, rfl⟩
theorem gate_dead (h : Dk w F sb mb room fs lit left) (dv sv : Value) (hb : burntB lit left = true) :
    Calls Try.prog 31 #[.pointer (some ⟨sb, 0, none⟩), dv, sv] w fun e w' => e = .returned (.int .i64 9) ∧ Below w.heap.size w w' := by
  obtain ⟨c0, c1, c2, c3, c4⟩ := h.cell
  go_enter Try.func31, Try.ntmps31
  go_wp2_with fail
  refine (burnt_any lit left w).mono ?_
  rintro e W1 ⟨rfl, B1⟩
  rw [hb]
  go_wp2_with fail
  go_ret
  exact ⟨rfl, B1⟩
theorem gate_arg (h : Dk w F sb mb room fs lit left) (dv sv : Value) (hb : burntB lit left = false) (hn : ∀ w1, Below w.heap.size w w1 → Calls Try.prog 54 #[sv, .func (.func 55) #[] #[]] w1 fun e w' => e = .returned (.bool true) ∧ w' = w1) :
    Calls Try.prog 31 #[.pointer (some ⟨sb, 0, none⟩), dv, sv] w fun e w' => e = .returned (.int .i64 1) ∧ Below w.heap.size w w' := by
  obtain ⟨c0, c1, c2, c3, c4⟩ := h.cell
  have HN := hid_into hn
  clear hn
  go_enter Try.func31, Try.ntmps31
  go_wp2_with fail
  refine (burnt_any lit left w).mono ?_
  rintro e W1 ⟨rfl, B1⟩
  rw [hb]
  go_wp2_with fail
  refine (HN.out W1 B1).mono ?_
  rintro e W2 ⟨rfl, rfl⟩
  go_wp2_with fail
  go_ret
  exact ⟨rfl, B1⟩
/-- What the gate leaves where it is gone through. -/
def GRes (P : Int → Fls → Prop) (F : Nat → Prop) (sb : Nat) (room : Int) (lit : Bool) (left : Int) (w : World) (e : Ending) (w' : World) : Prop :=
  ∃ ev fs', P ev fs' ∧ e = .returned (.int .i64 ev) ∧ Res F sb room fs' lit (burnL ev lit left) w w'
set_option maxHeartbeats 800000 in
theorem gate_do (P : Int → Fls → Prop) (h : Dk w F sb mb room fs lit left) (fn : FuncId) (en : ∀ (args : Array Value) (w : World), (callFunc fn args).run Try.prog w = .ok (.enter fn args) w) (sa sv : Value) (hb : burntB lit left = false) (hn : ∀ w1, Below w.heap.size w w1 → Calls Try.prog 54 #[sv, .func (.func 55) #[] #[]] w1 fun e w' => e = .returned (.bool false) ∧ w' = w1)
    (hdo : ∀ w1, Below w.heap.size w w1 → Calls Try.prog fn #[sa] w1 fun e w' => ∃ ev fs', P ev fs' ∧ e = .returned (.int .i64 ev) ∧ Res F sb room fs' lit left w1 w') :
    Calls Try.prog 31 #[.pointer (some ⟨sb, 0, none⟩), .func (.func fn) #[sa] #[], sv] w fun e w' => GRes P F sb room lit left w e w' := by
  obtain ⟨c0, c1, c2, c3, c4⟩ := h.cell
  have HN := hid_into hn
  have HD := hid_into hdo
  clear hn hdo
  go_enter Try.func31, Try.ntmps31
  go_wp2_with fail
  refine (burnt_any lit left w).mono ?_
  rintro e W1 ⟨rfl, B1⟩
  rw [hb]
  go_wp2_with fail
  refine (HN.out W1 B1).mono ?_
  rintro e W2 ⟨rfl, rfl⟩
  have HB := hid_into hb
  have HB1 := hid_into B1
  clear hb B1 h c0 c1 c2 c3 c4
  go_wp2_with fail
  refine (HD.out W2 HB1.out).mono ?_
  rintro e W3 ⟨ev, fs', hP, rfl, mb', h3, hG3⟩
  have HG3 : Hid (Grows F w W3) := ((Grows.refl F w).bel HB1.out).trans hG3 fun _ hk => Or.inl hk
  have HS : Hid (w.heap.size ≤ W2.heap.size) := HB1.out.size
  replace hP := hid_into hP
  clear hG3
  by_cases he : ev = 0
  · subst he
    go_wp2_with fail
    refine (burn_any h3 HB.out).mono ?_
    rintro e W4 ⟨rfl, h4, hG4⟩
    have HG4 : Hid (Grows F w W4) := HG3.out.trans hG4 fun k hk => by
      rcases hk with hk | hk
      · exact Or.inl hk
      · exact Or.inr (Nat.le_trans HS.out hk)
    clear hG4
    go_wp2_with fail
    go_ret
    exact ⟨0, fs', hP.out, rfl, mb', h4.more fun k hk _ => (by rcases hk with hk | hk; exact Or.inl hk; exact Or.inr (Nat.le_trans HS.out hk)), HG4.out⟩
  · have HE := hid_into he
    have he2 : (ev == 0) = false := by simp [he]
    go_wp2_with fail
    go_ret
    refine ⟨ev, fs', hP.out, rfl, mb', ?_, HG3.out⟩
    have e1 : burnL ev lit left = left := by simp [burnL, HE.out]
    rw [e1]
    exact h3.more fun k hk _ => (by rcases hk with hk | hk; exact Or.inl hk; exact Or.inr (Nat.le_trans HS.out hk))
end Go.Proofs.Ythkgmnmdojmfgaa
