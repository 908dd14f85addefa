/-
  A Queue's Put, Get, Known, Both, by contracts.
-/
import Derived.Test.YtkjoadncbfhjfaaRow
import Derived.Shelf.Abstract
namespace Go.Proofs.Ytkjoadncbfhjfaa
open Go.RowKit
section
variable {w w' : World} {lo hi qb g0 g1 : Nat} {l0 l1 : List Pl}
theorem put_nil (w : World) (p f x : Int) : Calls Try.prog 10 #[.pointer none, .int .i64 p, .int .i64 f, .int .u16 x] w fun e w' => e = .returned (.int .i64 1) ∧ w' = w := by
  go_enter Try.func10, Try.ntmps10
  go_wp2_with (first
    | (go_at_call 21; refine (row_nil _ _).mono ?_; rintro e w1 ⟨rfl, rfl⟩)
    | (go_at_call 22; refine (rput_nil _ _ _).mono ?_; rintro e w1 ⟨rfl, rfl⟩))
  go_ret
  exact ⟨rfl, rfl⟩
theorem get_nil (w : World) (p f : Int) : Calls Try.prog 12 #[.pointer none, .int .i64 p, .int .i64 f] w fun e w' => e = .returned (.tuple #[.int .u16 0, .bool false]) ∧ w' = w := by
  go_enter Try.func12, Try.ntmps12
  go_wp2_with (first
    | (go_at_call 21; refine (row_nil _ _).mono ?_; rintro e w1 ⟨rfl, rfl⟩)
    | (go_at_call 24; refine (rget_nil _ _).mono ?_; rintro e w1 ⟨rfl, rfl⟩))
  go_ret2
  exact ⟨rfl, rfl⟩
theorem known_nil (w : World) (p : Int) : Calls Try.prog 14 #[.pointer none, .int .i64 p] w fun e w' => e = .returned (.int .i64 0) ∧ w' = w := by
  go_enter Try.func14, Try.ntmps14
  go_wp2_with (first
    | (go_at_call 21; refine (row_nil _ _).mono ?_; rintro e w1 ⟨rfl, rfl⟩)
    | (go_at_call 25; refine (rknown_nil _).mono ?_; rintro e w1 ⟨rfl, rfl⟩))
  go_ret
  exact ⟨rfl, rfl⟩
/-- A row's put, whatever the frame. -/
theorem rput_any {g : Nat} {l : List Pl} (hc : Cw w g (cellsR l) 70) (hn : l.length ≤ 600) (f x : Int) : Calls Try.prog 22 #[slR g l.length, .int .i64 f, .int .u16 x] w fun e w' => e = .returned (.int .i64 (putE l f x)) ∧ Cw w' g (cellsR (putL l f x)) 70 ∧ Only g w w' := by
  by_cases h : f < 0 ∨ (l.length : Int) ≤ f
  · have h1 : putE l f x = 1 := by unfold putE; rw [if_pos h]
    have h2 : putL l f x = l := by unfold putL; rw [h1, if_neg (by decide)]
    rw [h1, h2]
    refine (rput_out g f x h).mono ?_
    rintro e w1 ⟨rfl, rfl⟩
    exact ⟨rfl, hc, Only.refl _ _⟩
  · obtain ⟨k, rfl⟩ : ∃ k : Nat, f = (k : Int) := ⟨f.toNat, by omega⟩
    exact rput_in hc hn k x (by omega)
theorem put_no (b : Addr) (w : World) (p f x : Int) (hp : p < 0 ∨ 1 < p) : Calls Try.prog 10 #[.pointer (some b), .int .i64 p, .int .i64 f, .int .u16 x] w fun e w' => e = .returned (.int .i64 1) ∧ w' = w := by
  have HP := hid_into hp
  clear hp
  go_enter Try.func10, Try.ntmps10
  go_wp2_with (first
    | (go_at_call 21; refine (row_no _ _ _ HP.out).mono ?_; rintro e w1 ⟨rfl, rfl⟩)
    | (go_at_call 22; refine (rput_nil _ _ _).mono ?_; rintro e w1 ⟨rfl, rfl⟩))
  go_ret
  exact ⟨rfl, rfl⟩
theorem get_no (b : Addr) (w : World) (p f : Int) (hp : p < 0 ∨ 1 < p) : Calls Try.prog 12 #[.pointer (some b), .int .i64 p, .int .i64 f] w fun e w' => e = .returned (.tuple #[.int .u16 0, .bool false]) ∧ w' = w := by
  have HP := hid_into hp
  clear hp
  go_enter Try.func12, Try.ntmps12
  go_wp2_with (first
    | (go_at_call 21; refine (row_no _ _ _ HP.out).mono ?_; rintro e w1 ⟨rfl, rfl⟩)
    | (go_at_call 24; refine (rget_nil _ _).mono ?_; rintro e w1 ⟨rfl, rfl⟩))
  go_ret2
  exact ⟨rfl, rfl⟩
theorem known_no (b : Addr) (w : World) (p : Int) (hp : p < 0 ∨ 1 < p) : Calls Try.prog 14 #[.pointer (some b), .int .i64 p] w fun e w' => e = .returned (.int .i64 0) ∧ w' = w := by
  have HP := hid_into hp
  clear hp
  go_enter Try.func14, Try.ntmps14
  go_wp2_with (first
    | (go_at_call 21; refine (row_no _ _ _ HP.out).mono ?_; rintro e w1 ⟨rfl, rfl⟩)
    | (go_at_call 25; refine (rknown_nil _).mono ?_; rintro e w1 ⟨rfl, rfl⟩))
  go_ret
  exact ⟨rfl, rfl⟩
/-- What Put leaves of a Queue. -/
structure PutP (w w' : World) (lo hi qb g0 g1 : Nat) (l0 l1 : List Pl) (p f x : Int) : Prop where
  q : Qp w' lo hi qb g0 g1 (if p = 0 then putL l0 f x else l0) (if p = 1 then putL l1 f x else l1)
  og : Og (fun k => lo ≤ k ∧ k < hi) w w'
theorem put_any (h : Qp w lo hi qb g0 g1 l0 l1) (p f x : Int) : Calls Try.prog 10 #[.pointer (some ⟨qb, 0, none⟩), .int .i64 p, .int .i64 f, .int .u16 x] w fun e w' => e = .returned (.int .i64 (putE (sel p l0 l1) f x)) ∧ PutP w w' lo hi qb g0 g1 l0 l1 p f x := by
  by_cases hp : p < 0 ∨ 1 < p
  · rw [sel_no hp, putE_nil]
    refine (put_no _ w p f x hp).mono ?_
    rintro e w1 ⟨rfl, rfl⟩
    exact ⟨rfl, by rw [if_neg (by omega), if_neg (by omega)]; exact h, Og.refl _ _⟩
  · by_cases h0 : p = 0
    · subst h0
      have H := hid_into h
      clear h hp
      have hs : sel 0 l0 l1 = l0 := rfl
      rw [hs]
      clear hs
      go_enter Try.func10, Try.ntmps10
      go_wp2_with (first
        | (go_at_call 21; refine (row_0 H.out).mono ?_; rintro e w1 ⟨rfl, rfl⟩)
        | (go_at_call 22; refine (rput_any H.out.r0 H.out.n2 _ _).mono ?_; rintro e w1 ⟨rfl, hc, ho⟩))
      go_ret
      exact ⟨rfl, by rw [if_pos rfl, if_neg (by decide)]; exact H.out.put0 (putL_len _ _ _) ho hc, Og.of ho H.out.b0⟩
    · obtain rfl : p = 1 := by omega
      have H := hid_into h
      clear h hp h0
      have hs : sel 1 l0 l1 = l1 := rfl
      rw [hs]
      clear hs
      have L : Hid (l0.length = l1.length) := H.out.len.symm
      go_enter Try.func10, Try.ntmps10
      go_wp2_with (first
        | (go_at_call 21; refine (row_1 H.out).mono ?_; rintro e w1 ⟨rfl, rfl⟩; rw [L.out])
        | (go_at_call 22; refine (rput_any H.out.r1 (by rw [H.out.len]; exact H.out.n2) _ _).mono ?_; rintro e w1 ⟨rfl, hc, ho⟩))
      go_ret
      exact ⟨rfl, by rw [if_neg (by decide), if_pos rfl]; exact H.out.put1 (putL_len _ _ _) ho hc, Og.of ho H.out.b1⟩
theorem get_any (h : Qp w lo hi qb g0 g1 l0 l1) (p f : Int) : Calls Try.prog 12 #[.pointer (some ⟨qb, 0, none⟩), .int .i64 p, .int .i64 f] w fun e w' => e = .returned (.tuple #[.int .u16 (getP (sel p l0 l1) f).1, .bool (getP (sel p l0 l1) f).2]) ∧ w' = w := by
  by_cases hp : p < 0 ∨ 1 < p
  · rw [sel_no hp, getP_nil]
    exact get_no _ w p f hp
  · have H := hid_into h
    have L : Hid (l0.length = l1.length) := H.out.len.symm
    clear h
    by_cases h0 : p = 0
    · subst h0
      clear hp
      have hs : sel 0 l0 l1 = l0 := rfl
      rw [hs]
      clear hs
      go_enter Try.func12, Try.ntmps12
      go_wp2_with (first
        | (go_at_call 21; refine (row_0 H.out).mono ?_; rintro e w1 ⟨rfl, rfl⟩)
        | (go_at_call 24; refine (rget_any H.out.r0 H.out.n2 _).mono ?_; rintro e w1 ⟨rfl, rfl⟩))
      go_ret2
      exact ⟨rfl, rfl⟩
    · obtain rfl : p = 1 := by omega
      clear hp h0
      have hs : sel 1 l0 l1 = l1 := rfl
      rw [hs]
      clear hs
      go_enter Try.func12, Try.ntmps12
      go_wp2_with (first
        | (go_at_call 21; refine (row_1 H.out).mono ?_; rintro e w1 ⟨rfl, rfl⟩; rw [L.out])
        | (go_at_call 24; refine (rget_any H.out.r1 (by rw [H.out.len]; exact H.out.n2) _).mono ?_; rintro e w1 ⟨rfl, rfl⟩))
      go_ret2
      exact ⟨rfl, rfl⟩
theorem known_any' (h : Qp w lo hi qb g0 g1 l0 l1) (p : Int) : Calls Try.prog 14 #[.pointer (some ⟨qb, 0, none⟩), .int .i64 p] w fun e w' => e = .returned (.int .i64 (kn (sel p l0 l1) : Int)) ∧ w' = w := by
  by_cases hp : p < 0 ∨ 1 < p
  · rw [sel_no hp]
    exact known_no _ w p hp
  · have H := hid_into h
    have L : Hid (l0.length = l1.length) := H.out.len.symm
    clear h
    by_cases h0 : p = 0
    · subst h0
      clear hp
      have hs : sel 0 l0 l1 = l0 := rfl
      rw [hs]
      clear hs
      go_enter Try.func14, Try.ntmps14
      go_wp2_with (first
        | (go_at_call 21; refine (row_0 H.out).mono ?_; rintro e w1 ⟨rfl, rfl⟩)
        | (go_at_call 25; refine (rknown_any H.out.r0 H.out.n2).mono ?_; rintro e w1 ⟨rfl, rfl⟩))
      go_ret
      exact ⟨rfl, rfl⟩
    · obtain rfl : p = 1 := by omega
      clear hp h0
      have hs : sel 1 l0 l1 = l1 := rfl
      rw [hs]
      clear hs
      go_enter Try.func14, Try.ntmps14
      go_wp2_with (first
        | (go_at_call 21; refine (row_1 H.out).mono ?_; rintro e w1 ⟨rfl, rfl⟩; rw [L.out])
        | (go_at_call 25; refine (rknown_any H.out.r1 (by rw [H.out.len]; exact H.out.n2)).mono ?_; rintro e w1 ⟨rfl, rfl⟩))
      go_ret
      exact ⟨rfl, rfl⟩
/-- A method value. -/
theorem enters14 : ∀ args w, (callFunc 14 args).run Try.prog w = .ok (.enter 14 args) w := enters_of Try.func14 (by kernel_rfl) rfl
theorem enters21 : ∀ args w, (callFunc 21 args).run Try.prog w = .ok (.enter 21 args) w := enters_of Try.func21 (by kernel_rfl) rfl
theorem both_any (h : Qp w lo hi qb g0 g1 l0 l1) : Calls Try.prog 26 #[.func (.func 14) #[.pointer (some ⟨qb, 0, none⟩)] #[]] w fun e w' => e = .returned (.tuple #[.int .i64 (kn l0 : Int), .int .i64 (kn l1 : Int)]) ∧ w' = w := by
  have C0 := known_any' h 0
  have C1 := known_any' h 1
  rw [show sel 0 l0 l1 = l0 from rfl] at C0
  rw [show sel 1 l0 l1 = l1 from rfl] at C1
  have H0 := hid_into C0
  have H1 := hid_into C1
  clear C0 C1 h
  have en := enters14
  go_enter Try.func26, Try.ntmps26
  go_wp2_with fail
  refine H0.out.mono ?_
  rintro e w1 ⟨rfl, rfl⟩
  go_wp2_with fail
  refine H1.out.mono ?_
  rintro e w2 ⟨rfl, rfl⟩
  go_wp2_with fail
  go_ret2
  exact ⟨rfl, rfl⟩
theorem rows_any (h : Qp w lo hi qb g0 g1 l0 l1) : Calls Try.prog 27 #[.func (.func 21) #[.pointer (some ⟨qb, 0, none⟩)] #[]] w fun e w' => e = .returned (.tuple #[slR g0 l0.length, slR g1 l0.length]) ∧ w' = w := by
  have H0 := hid_into (row_0 h)
  have H1 := hid_into (row_1 h)
  clear h
  have en := enters21
  go_enter Try.func27, Try.ntmps27
  go_wp2_with fail
  refine H0.out.mono ?_
  rintro e w1 ⟨rfl, rfl⟩
  go_wp2_with fail
  refine H1.out.mono ?_
  rintro e w2 ⟨rfl, rfl⟩
  go_wp2_with fail
  go_ret2
  exact ⟨rfl, rfl⟩
theorem both_nil (w : World) : Calls Try.prog 26 #[.func (.func 14) #[.pointer none] #[]] w fun e w' => e = .returned (.tuple #[.int .i64 0, .int .i64 0]) ∧ w' = w := by
  have en := enters14
  go_enter Try.func26, Try.ntmps26
  go_wp2_with fail
  refine (known_nil _ _).mono ?_
  rintro e w1 ⟨rfl, rfl⟩
  go_wp2_with fail
  refine (known_nil _ _).mono ?_
  rintro e w2 ⟨rfl, rfl⟩
  go_wp2_with fail
  go_ret2
  exact ⟨rfl, rfl⟩
theorem rows_nil (w : World) : Calls Try.prog 27 #[.func (.func 21) #[.pointer none] #[]] w fun e w' => e = .returned (.tuple #[.slice none 0 0, .slice none 0 0]) ∧ w' = w := by
  have en := enters21
  go_enter Try.func27, Try.ntmps27
  go_wp2_with fail
  refine (row_nil _ _).mono ?_
  rintro e w1 ⟨rfl, rfl⟩
  go_wp2_with fail
  refine (row_nil _ _).mono ?_
  rintro e w2 ⟨rfl, rfl⟩
  go_wp2_with fail
  go_ret2
  exact ⟨rfl, rfl⟩
theorem Both_nil (w : World) : Calls Try.prog 16 #[.pointer none] w fun e w' => e = .returned (.int .i64 0) ∧ w' = w := by
  go_enter Try.func16, Try.ntmps16
  go_wp2_with (go_at_call 26; refine (both_nil _).mono ?_; rintro e w1 ⟨rfl, rfl⟩)
  go_ret
  exact ⟨rfl, rfl⟩
theorem Both_any (h : Qp w lo hi qb g0 g1 l0 l1) : Calls Try.prog 16 #[.pointer (some ⟨qb, 0, none⟩)] w fun e w' => e = .returned (.int .i64 ((min (kn l0) (kn l1) : Nat) : Int)) ∧ w' = w := by
  have H := hid_into h
  clear h
  generalize hA : kn l0 = A
  generalize hC : kn l1 = C
  have HA := hid_into hA
  have HC := hid_into hC
  clear hA hC
  by_cases e : (C : Int) < (A : Int)
  · rw [Nat.min_eq_right (by omega)]
    go_enter Try.func16, Try.ntmps16
    go_wp2_with (go_at_call 26; refine (both_any H.out).mono ?_; rintro e w1 ⟨rfl, rfl⟩; rw [HA.out, HC.out])
    go_ret
    exact ⟨rfl, rfl⟩
  · rw [Nat.min_eq_left (by omega)]
    go_enter Try.func16, Try.ntmps16
    go_wp2_with (go_at_call 26; refine (both_any H.out).mono ?_; rintro e w1 ⟨rfl, rfl⟩; rw [HA.out, HC.out])
    go_ret
    exact ⟨rfl, rfl⟩
end
end Go.Proofs.Ytkjoadncbfhjfaa
