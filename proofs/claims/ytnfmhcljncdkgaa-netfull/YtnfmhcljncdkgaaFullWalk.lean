/-
  NetFull's own walk.
-/
import Derived.Test.YtnfmhcljncdkgaaNetLaw
namespace Go.Proofs.Ytnfmhcljncdkgaa
open Go.RowKit
def rp (m : Mg) (k : Nat) : List Mg := List.replicate k m
theorem rp_len {m : Mg} {k : Nat} : (rp m k).length = k := List.length_replicate
theorem rp_ne {m : Mg} {k : Nat} (h : 0 < k) : rp m k ≠ [] := fun e => by have := congrArg List.length e; simp [rp] at this; omega
theorem rp_of {m : Mg} {L : List Mg} {k : Nat} (hl : L.length = k) (h : ∀ x ∈ L, x = m) : L = rp m k := List.eq_replicate_iff.2 ⟨hl, h⟩
theorem rp_mem {m x : Mg} {k : Nat} (h : x ∈ rp m k) : x = m := List.eq_of_mem_replicate h
theorem rp_send {m : Mg} {k : Nat} (h : k < 1024) : sendN (rp m k) m = rp m (k + 1) := by
  unfold sendN
  rw [if_neg (by rw [rp_len]; omega)]
  exact rp_of (by simp [rp]) fun x hx => by rcases List.mem_append.1 hx with h | h; exact rp_mem h; simpa using h
theorem rp_send_full {m m' : Mg} : sendN (rp m 1024) m' = rp m 1024 := by unfold sendN; rw [if_pos (by rw [rp_len]; omega)]
theorem rp_give {m : Mg} {k : Nat} (pick : Int) : giveN (rp m (k + 1)) pick = rp m k := by
  obtain ⟨A, x, C, he, _, _, hn⟩ := give_cut (rp_ne (m := m) (k := k + 1) (by omega)) pick
  have hl := giveN_len (rp_ne (m := m) (k := k + 1) (by omega)) pick
  refine rp_of (by simp [rp] at hl; exact hl) fun y hy => ?_
  rw [hn] at hy
  refine rp_mem (m := m) (k := k + 1) ?_
  rw [he]
  rcases List.mem_append.1 hy with h | h
  · exact List.mem_append_left _ h
  · exact List.mem_append_right _ (List.mem_cons_of_mem _ h)
theorem rp_giveM {m x : Mg} {k : Nat} {pick : Int} (h : giveM (rp m (k + 1)) pick = some x) : x = m := by
  obtain ⟨y, hy, hm⟩ := giveM_some (rp_ne (m := m) (k := k + 1) (by omega)) pick
  rw [hy] at h
  obtain rfl := Option.some.inj h
  exact rp_mem hm
theorem rp_twice_full {m : Mg} (pick : Int) : twiceN (rp m 1024) pick = rp m 1024 := by
  unfold twiceN
  split
  · rfl
  · exact rp_send_full
theorem rp_twice {m : Mg} {k : Nat} (pick : Int) (h : k + 1 < 1024) : twiceN (rp m (k + 1)) pick = rp m (k + 2) := by
  obtain ⟨y, hy, hm⟩ := giveM_some (rp_ne (m := m) (k := k + 1) (by omega)) pick
  unfold twiceN
  rw [hy]
  obtain rfl := rp_mem hm
  exact rp_send h
theorem rp_late {m : Mg} {k : Nat} (pick : Int) : lateN (rp m (k + 1)) pick = rp m (k + 1) := by
  obtain ⟨y, hy, hm⟩ := giveM_some (rp_ne (m := m) (k := k + 1) (by omega)) pick
  obtain rfl := rp_mem hm
  unfold lateN
  rw [hy]
  show giveN _ _ ++ [y] = _
  rw [rp_give]
  exact rp_of (by simp [rp]) fun x hx => by rcases List.mem_append.1 hx with h | h; exact rp_mem h; simpa using h
theorem rp_drop {m : Mg} {k : Nat} {node : Int} (h : m.to = node) : dropN (rp m k) node = [] := by
  rw [List.eq_nil_iff_forall_not_mem]
  intro x hx
  obtain ⟨h1, _, h2⟩ := drop_mem.1 hx
  rw [rp_mem h1] at h2
  exact h2 h
theorem rp_sendB {m : Mg} {k : Nat} : sendB (rp m k) = decide (k < 1024) := by unfold sendB; rw [rp_len]
set_option maxRecDepth 20000 in
set_option maxHeartbeats 4000000 in
theorem full_walk (more : Int) (s : Value) (zs : List Int) (w : World) (hs : Bs w s zs) (hby : ∀ z ∈ zs, 0 ≤ z ∧ z < 256) (hr : -9223372036854775808 ≤ more ∧ more ≤ 9223372036854775807) :
    Calls Try.prog 4 #[.int .i64 more, s] w fun e w' => e = .returned (.bool true) ∧ Below w.heap.size w w' := by
  obtain ⟨ao, cap, hv, hm⟩ := hs.len
  have CK := hid_into (fun (W : World) (hb : Below w.heap.size w W) => ln_known (w0 := w) (w := W) hb)
  by_cases hbig : more < 0 ∨ 50 < more ∨ 20 < (zs.length : Int)
  · subst hv
    clear hs hby
    by_cases q1 : more < 0
    · clear hbig
      go_enter Try.func4, Try.ntmps4
      go_wp2_with (go_at_call 25; refine (CK.out w (Below.refl _ _)).mono ?_; rintro e w1 ⟨rfl, hb⟩)
      go_ret
      exact ⟨rfl, hb⟩
    · by_cases q2 : 50 < more
      · clear hbig
        go_enter Try.func4, Try.ntmps4
        go_wp2_with (go_at_call 25; refine (CK.out w (Below.refl _ _)).mono ?_; rintro e w1 ⟨rfl, hb⟩)
        go_ret
        exact ⟨rfl, hb⟩
      · have q3 : 20 < (zs.length : Int) := by omega
        clear hbig
        go_enter Try.func4, Try.ntmps4
        go_wp2_with (go_at_call 25; refine (CK.out w (Below.refl _ _)).mono ?_; rintro e w1 ⟨rfl, hb⟩)
        go_ret
        exact ⟨rfl, hb⟩
  · have q1 : ¬ more < 0 := by omega
    have q2 : ¬ 50 < more := by omega
    have q3 : ¬ 20 < (zs.length : Int) := by omega
    obtain ⟨p, rfl⟩ : ∃ p : Nat, more = (p : Int) := ⟨more.toNat, by omega⟩
    have q4 : p ≤ 50 := by omega
    obtain ⟨m, hmd⟩ : ∃ m : Mg, m = ⟨1, 2, zs⟩ := ⟨_, rfl⟩
    have CN := hid_into (ln_new w (Below.refl _ w))
    have CS : Hid (∀ {W : World} {nb k : Nat}, Ln w W nb (rp m k) → Calls Try.prog 11 #[.pointer (some ⟨nb, 0, none⟩), .agg #[.int .i64 1, .int .i64 2, s]] W fun e w' => e = .returned (.bool (decide (k < 1024))) ∧ Ln w w' nb (sendN (rp m k) m)) := fun {W nb k} h => by
      have := ln_send h m (s := s) (by rw [hmd]; exact hs.below h.b (Nat.le_refl _))
      rw [hmd] at this ⊢
      rw [← rp_sendB (m := ⟨1, 2, zs⟩)]
      exact this
    have HG : Hid (∀ k, ∀ x ∈ rp m k, Gd x) := fun k x hx => by
      rw [rp_mem hx, hmd]
      exact ⟨hby, by show zs.length ≤ maxLen; unfold maxLen; omega⟩
    have HT : Hid (m.to = 2) := by rw [hmd]; rfl
    subst hv
    clear hs hby hbig hmd hr
    go_enter Try.func4, Try.ntmps4
    go_wp2_with (first
      | (go_at_call 9; refine CN.out.mono ?_; rintro e w1 ⟨nb, rfl, s1⟩))
    go_loopw [6] (fun x wr => ∃ k : Nat, x = .int .i64 (k : Int) ∧ k ≤ 1024 + p ∧ Ln w wr nb (rp m (min k 1024))) (fun x _ => 1024 + p - (intOf x).toNat)
    case atStart => exact ⟨0, rfl, by omega, s1⟩
    case round =>
      obtain ⟨k, rfl, hk, st⟩ := hrel
      by_cases hlt : k < 1024 + p
      · by_cases h1 : k < 1024
        · have st2 := CS.out st
          rw [show min k 1024 = k by omega, decide_eq_true h1, rp_send h1] at st2
          have r1 : (k : Int) < 1024 := by omega
          have r2 : (k : Int) < 1024 + (p : Int) := by omega
          clear st
          go_wp2_with (go_at_call 11; refine st2.mono ?_; rintro e w2 ⟨rfl, s2⟩)
          go_roundw
          case rel => exact ⟨k + 1, by go_num, by omega, by rw [show min (k + 1) 1024 = k + 1 by omega]; exact s2⟩
          case measure => simp [intOf]; omega
        · have st2 := CS.out st
          rw [show min k 1024 = 1024 by omega, decide_eq_false (by omega), rp_send_full] at st2
          have r1 : ¬ (k : Int) < 1024 := by omega
          have r2 : (k : Int) < 1024 + (p : Int) := by omega
          clear st
          go_wp2_with (go_at_call 11; refine st2.mono ?_; rintro e w2 ⟨rfl, s2⟩)
          go_roundw
          case rel => exact ⟨k + 1, by go_num, by omega, by rw [show min (k + 1) 1024 = 1024 by omega]; exact s2⟩
          case measure => simp [intOf]; omega
      · obtain rfl : k = 1024 + p := by omega
        have r2 : ¬ ((1024 + p : Nat) : Int) < 1024 + (p : Int) := by omega
        rw [show min (1024 + p) 1024 = 1024 by omega] at st
        have T1 := ln_twice st (rp_ne (by omega)) (p : Int)
        rw [rp_sendB, rp_twice_full] at T1
        have L1 : Hid (∀ W, Ln w W nb (rp m 1024) → Calls Try.prog 24 #[.pointer (some ⟨nb, 0, none⟩)] W fun e w' => e = .returned (.int .i64 1024) ∧ w' = W) := fun W h => by
          have := ln_len h
          rw [rp_len] at this
          exact this
        have A1 : Hid (∀ W, Ln w W nb (rp m 1024) → Calls Try.prog 20 #[.pointer (some ⟨nb, 0, none⟩), .int .i64 (p : Int)] W fun e w' => e = .returned (.bool true) ∧ Ln w w' nb (rp m 1024)) := fun W h => by
          have := ln_late h (rp_ne (by omega)) (p : Int)
          rw [rp_late (k := 1023)] at this
          exact this
        have G1 : Hid (∀ W, Ln w W nb (rp m 1024) → Calls Try.prog 15 #[.pointer (some ⟨nb, 0, none⟩), .int .i64 (p : Int)] W fun e w' => ∃ m' ao n c, e = .returned (.tuple #[.agg #[.int .i64 (Mg.fr m'), .int .i64 m'.to, .slice ao n c], .bool true]) ∧ Ln w w' nb (rp m 1023)) := fun W h => by
          refine (ln_give h (rp_ne (by omega)) (HG.out _) (p : Int)).mono ?_
          rintro e w' ⟨m', ao, n, c, _, rfl, hl, _⟩
          rw [rp_give (k := 1023)] at hl
          exact ⟨m', ao, n, c, rfl, hl⟩
        have T2 : Hid (∀ W, Ln w W nb (rp m 1023) → Calls Try.prog 18 #[.pointer (some ⟨nb, 0, none⟩), .int .i64 0] W fun e w' => e = .returned (.bool true) ∧ Ln w w' nb (rp m 1024)) := fun W h => by
          have := ln_twice h (rp_ne (by omega)) 0
          rw [rp_sendB, rp_twice (k := 1022) 0 (by omega)] at this
          exact this
        have D1 : Hid (∀ W, Ln w W nb (rp m 1024) → Calls Try.prog 22 #[.pointer (some ⟨nb, 0, none⟩), .int .i64 2] W fun e w' => e = .returned (.int .i64 1024) ∧ Ln w w' nb []) := fun W h => by
          have := ln_drop h 2
          rw [rp_drop HT.out, rp_len] at this
          exact this
        have T1 := hid_into T1
        clear st
        go_wp2_with (first
          | (go_at_call 18; refine T1.out.mono ?_; rintro e w2 ⟨he, s2⟩; obtain rfl : e = .returned (.bool false) := he; clear T1)
          | (have := s6; go_at_call 25; refine (CK.out _ s6.b).mono ?_; rintro e w7 ⟨rfl, hb7⟩)
          | (have := s6; go_at_call 24; refine (ln_len s6).mono ?_; rintro e w7 ⟨rfl, hw⟩; replace hw := hw.symm; subst hw)
          | (have := s5; go_at_call 22; refine (D1.out _ s5).mono ?_; rintro e w6 ⟨rfl, s6⟩; clear s5)
          | (have := s5; go_at_call 24; refine (L1.out _ s5).mono ?_; rintro e w7 ⟨rfl, hw⟩; replace hw := hw.symm; subst hw)
          | (have := s4; go_at_call 18; refine (T2.out _ s4).mono ?_; rintro e w5 ⟨rfl, s5⟩; clear s4)
          | (have := s3; go_at_call 15; refine (G1.out _ s3).mono ?_; rintro e w4 ⟨m', ao', n', c', rfl, s4⟩; clear s3)
          | (have := s4; refine wpList_alloc_row rfl 25 rfl [.int .i64 0, .int .i64 0, .slice none 0 0] zero25 ?_; intro w5 d5 hb5 hs5)
          | (have := d5; refine wpList_store_rw rfl 25 (.tmp 7) (.tmp 55) rfl w4.heap.size _ [.int .i64 m'.fr, .int .i64 m'.to, .slice ao' n' c'] _ (by rfl) (by rfl) d5 size25 rfl (msC_one _ _ _ _ _) ?_; intro w6 d6 ho6; have s4' := s4.step (ho6.belowTo hb5 (Nat.le_refl _)); clear s4; have s4 := s4'; clear s4' d5)
          | (have := s2; go_at_call 20; refine (A1.out _ s2).mono ?_; rintro e w3 ⟨rfl, s3⟩; clear s2)
          | (have := s2; go_at_call 24; refine (L1.out _ s2).mono ?_; rintro e w7 ⟨rfl, hw⟩; replace hw := hw.symm; subst hw))
        go_ret
        exact ⟨rfl, hb7⟩
end Go.Proofs.Ytnfmhcljncdkgaa
