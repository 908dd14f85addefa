/-
  Joined from: RefFix.
-/
import Derived.Test.YtbfldcieibdapabGreatM02
section
/-
  Roots: what a root is (RootIs), that there is one; the program's Root and the document's.
-/
namespace Go.Proofs.YtbfldcieibdapabGreat
open Go.RowKit
def sqV (a : Int) : Int := if a ≤ 0 then 0 else a * 65536
/-- r is the root of a. -/
def RootIs (a r : Int) : Prop := 0 ≤ r ∧ r ≤ 33554431 ∧ r * r ≤ sqV a ∧ sqV a < (r + 1) * (r + 1)
theorem sq_mono {x y : Int} (h0 : 0 ≤ x) (h : x ≤ y) : x * x ≤ y * y := Int.mul_le_mul h h h0 (by omega)
theorem RootIs.le {a b r s : Int} (h : RootIs a r) (k : RootIs b s) (hab : a ≤ b) : r ≤ s := by
  rcases Int.lt_or_le s r with hlt | hle
  · have h1 := sq_mono (x := s + 1) (y := r) (by have := k.1; omega) (by omega)
    have h2 := k.2.2.2
    have h3 := h.2.2.1
    have h4 : sqV a ≤ sqV b := by unfold sqV; split <;> split <;> omega
    omega
  · exact hle
theorem RootIs.uniq {a r s : Int} (h : RootIs a r) (k : RootIs a s) : r = s := Int.le_antisymm (h.le k (Int.le_refl _)) (k.le h (Int.le_refl _))
noncomputable def rootF (a : Int) : Int := open Classical in if h : ∃ r, RootIs a r then h.choose else 0
theorem RootIs.eq {a r : Int} (h : RootIs a r) : r = rootF a := by
  have he : ∃ r, RootIs a r := ⟨r, h⟩
  have : RootIs a (rootF a) := by unfold rootF; rw [dif_pos he]; exact he.choose_spec
  exact h.uniq this
theorem pow_half (k : Nat) : ((2 : Int) ^ (k + 1)) / 2 = 2 ^ k := by rw [Int.pow_succ]; exact Int.mul_ediv_cancel _ (by decide)
theorem pow_pos (k : Nat) : (1 : Int) ≤ 2 ^ k := by
  induction k with
  | zero => decide
  | succ k ih => rw [Int.pow_succ]; omega
/-- What the loop of a root holds, k steps from its end. -/
structure Near (a r : Int) (k : Nat) : Prop where
  nn : 0 ≤ r
  top : r + 2 ^ k ≤ 33554432
  low : r * r ≤ sqV a
  high : sqV a < (r + 2 ^ k) * (r + 2 ^ k)
theorem Near.start {a : Int} (ha : In32 a) : Near a 0 24 := by
  have h2 := ha.2
  refine ⟨by decide, by decide, by unfold sqV; split <;> omega, ?_⟩
  rw [show ((0 : Int) + 2 ^ 24) * (0 + 2 ^ 24) = 281474976710656 by decide]
  unfold sqV; split <;> omega
theorem Near.start25 {a : Int} (ha : In32 a) : Near a 0 25 := by
  have h2 := ha.2
  refine ⟨by decide, by decide, by unfold sqV; split <;> omega, ?_⟩
  rw [show ((0 : Int) + 2 ^ 25) * (0 + 2 ^ 25) = 1125899906842624 by decide]
  unfold sqV; split <;> omega
theorem Near.last {a r : Int} (h : Near a r 0) : RootIs a r := ⟨h.nn, by have := h.top; rw [show (2 : Int) ^ 0 = 1 from rfl] at this; omega, h.low, h.high⟩
theorem Near.up {a r : Int} {k : Nat} (h : Near a r (k + 1)) (hx : (r + 2 ^ k) * (r + 2 ^ k) ≤ sqV a) : Near a (r + 2 ^ k) k := by
  have e : r + 2 ^ k + 2 ^ k = r + 2 ^ (k + 1) := by rw [Int.pow_succ]; omega
  exact ⟨by have := pow_pos k; have := h.nn; omega, by rw [e]; exact h.top, hx, by rw [e]; exact h.high⟩
theorem Near.stay {a r : Int} {k : Nat} (h : Near a r (k + 1)) (hx : sqV a < (r + 2 ^ k) * (r + 2 ^ k)) : Near a r k := by
  refine ⟨h.nn, ?_, h.low, hx⟩
  have := h.top; rw [Int.pow_succ] at this; have := pow_pos k; omega
theorem Near.bound {a r : Int} {k : Nat} (h : Near a r (k + 1)) : 1 ≤ r + 2 ^ k ∧ r + 2 ^ k ≤ 33554432 ∧ 1 ≤ (r + 2 ^ k) * (r + 2 ^ k) ∧ (r + 2 ^ k) * (r + 2 ^ k) ≤ 1125899906842624 := by
  have h1 := h.top; rw [Int.pow_succ] at h1; have h2 := pow_pos k; have h3 := h.nn
  refine ⟨by omega, by omega, ?_, ?_⟩
  · have := sq_mono (x := 1) (y := r + 2 ^ k) (by decide) (by omega); omega
  · have := sq_mono (x := r + 2 ^ k) (y := 33554432) (by omega) (by omega); omega
theorem sq_of {a x : Int} (h : 1 ≤ x) : a * 65536 < x ↔ sqV a < x := by unfold sqV; split <;> omega
theorem RefAdd_any (a b : Int) (ha : In32 a) (hb : In32 b) (w : World) : Calls Tryz.prog 116 #[.int .i32 a, .int .i32 b] w fun e w' => e = .returned (.int .i32 (heldI (a + b))) ∧ w' = w := by
  have h1 := ha.1; have h2 := ha.2; have h3 := hb.1; have h4 := hb.2
  have c1 : wrap64 a = a := by unfold wrap64; omega
  have c2 : wrap64 b = b := by unfold wrap64; omega
  have c3 : wrap64 (a + b) = a + b := by unfold wrap64; omega
  go_enter Tryz.func116, Tryz.ntmps116
  go_wp2_with (go_at_call 132; refine (held_any _ _).mono ?_; rintro e w' ⟨rfl, rfl⟩)
  go_ret
  exact ⟨by first | rfl | (rw [c3]; rfl), rfl⟩
theorem RefSub_any (a b : Int) (ha : In32 a) (hb : In32 b) (w : World) : Calls Tryz.prog 117 #[.int .i32 a, .int .i32 b] w fun e w' => e = .returned (.int .i32 (heldI (a - b))) ∧ w' = w := by
  have h1 := ha.1; have h2 := ha.2; have h3 := hb.1; have h4 := hb.2
  have c1 : wrap64 a = a := by unfold wrap64; omega
  have c2 : wrap64 b = b := by unfold wrap64; omega
  have c3 : wrap64 (a - b) = a - b := by unfold wrap64; omega
  go_enter Tryz.func117, Tryz.ntmps117
  go_wp2_with (go_at_call 132; refine (held_any _ _).mono ?_; rintro e w' ⟨rfl, rfl⟩)
  go_ret
  exact ⟨by first | rfl | (rw [c3]; rfl), rfl⟩
theorem RefMul_any (a b : Int) (ha : In32 a) (hb : In32 b) (w : World) : Calls Tryz.prog 118 #[.int .i32 a, .int .i32 b] w fun e w' => e = .returned (.int .i32 (heldI (a * b / 65536))) ∧ w' = w := by
  obtain ⟨h5, h6⟩ := mul_in ha hb
  have h1 := ha.1; have h2 := ha.2; have h3 := hb.1; have h4 := hb.2
  have c1 : wrap64 a = a := by unfold wrap64; omega
  have c2 : wrap64 b = b := by unfold wrap64; omega
  obtain ⟨p, hp⟩ : ∃ p, p = a * b := ⟨_, rfl⟩
  have c3 : wrap64 (a * b) = a * b := by rw [← hp] at h5 h6 ⊢; unfold wrap64; omega
  clear h5 h6 hp
  go_enter Tryz.func118, Tryz.ntmps118
  go_wp2_with (go_at_call 132; refine (held_any _ _).mono ?_; rintro e w' ⟨rfl, rfl⟩)
  go_ret
  exact ⟨by first | rfl | (rw [c3]; rfl), rfl⟩
theorem RefDiv_any (a b : Int) (ha : In32 a) (hb : In32 b) (w : World) : Calls Tryz.prog 119 #[.int .i32 a, .int .i32 b] w fun e w' => e = .returned (.int .i32 (heldI (quoI a b))) ∧ w' = w := by
  have h1 := ha.1; have h2 := ha.2; have h3 := hb.1; have h4 := hb.2
  by_cases hz : b = 0
  · subst hz
    by_cases h5 : 0 < a
    · rw [show heldI (quoI a 0) = 2147483647 by unfold quoI; rw [if_pos rfl, if_pos h5]; rfl]
      go_enter Tryz.func119, Tryz.ntmps119
      go_wp2
      go_ret
      exact ⟨by rfl, rfl⟩
    by_cases h6 : a < 0
    · rw [show heldI (quoI a 0) = -2147483648 by unfold quoI; rw [if_pos rfl, if_neg h5, if_pos h6]; rfl]
      go_enter Tryz.func119, Tryz.ntmps119
      go_wp2
      go_ret
      exact ⟨by rfl, rfl⟩
    · rw [show heldI (quoI a 0) = 0 by unfold quoI; rw [if_pos rfl, if_neg h5, if_neg h6]; rfl]
      go_enter Tryz.func119, Tryz.ntmps119
      go_wp2
      go_ret
      exact ⟨by rfl, rfl⟩
  have c1 : wrap64 a = a := by unfold wrap64; omega
  have c2 : wrap64 b = b := by unfold wrap64; omega
  have c3 : wrap64 (a * 65536) = a * 65536 := by unfold wrap64; omega
  have e2 : wrap64 ((a * 65536).tdiv b) = (a * 65536).tdiv b := by
    have := tdiv_in (n := a * 65536) (b := b) (m := 2147483648 * 65536) (by omega)
    unfold wrap64; omega
  have hne : (b == 0) = false := by simp [hz]
  have EQ : Hid (heldI (quoI a b) = heldI (wrap64 ((a * 65536).tdiv b))) := hid_into (by rw [e2]; unfold quoI; rw [if_neg hz])
  clear e2
  go_enter Tryz.func119, Tryz.ntmps119
  go_wp2_with (go_at_call 132; refine (held_any _ _).mono ?_; rintro e w' ⟨rfl, rfl⟩)
  go_ret
  exact ⟨by rw [EQ.out]; rfl, rfl⟩
end Go.Proofs.YtbfldcieibdapabGreat
end
