/-
  container/heap's up and down over timers' queue, by contracts.
-/
import Derived.Test.YtilaankipjcgaaaMeth
namespace Go.Proofs.Ytilaankipjcgaaa
open Go.RowKit
variable {w w' : World} {v m : Value} {q : List Th} {sb : Nat}
abbrev hI (sb : Nat) : Value := .iface 54 (.pointer (some ⟨sb, 1, none⟩))
/-- What a walk up or down leaves. -/
structure Went (w : World) (sb : Nat) (m v : Value) (q : List Th) (n : Nat) (w' : World) (q' : List Th) : Prop where
  tq : Tq w' sb m v q'
  perm : q'.Perm q
  rest : ∀ k, n ≤ k → q'[k]? = q[k]?
  grows : Grows (own v q) w w'
theorem Went.refl (h : Tq w sb m v q) (n : Nat) : Went w sb m v q n w q := ⟨h, List.Perm.refl _, fun _ _ => rfl, Grows.refl _ _⟩
theorem Went.len {n : Nat} {q' : List Th} (h : Went w sb m v q n w' q') : q'.length = q.length := h.perm.length_eq
theorem Went.below {n : Nat} {q' : List Th} {w2 : World} (h : Went w sb m v q n w' q') (hb : Below w'.heap.size w' w2) : Went w sb m v q n w2 q' :=
  ⟨h.tq.below hb, h.perm, h.rest, h.grows.trans (Grows.of_below hb (fun _ => False) fun k h1 h2 => by omega) fun k hk => hk.elim⟩
theorem Went.swap {n i j : Nat} {q' : List Th} {w2 : World} (h : Went w sb m v q n w' q') (hi : i < n) (hj : j < n) (hn : n ≤ q'.length) (hq : Qu w2 v (swp q' i j)) (hg : Grows (own v q') w' w2) : Went w sb m v q n w2 (swp q' i j) where
  tq := h.tq.grows hg hq
  perm := (swp_perm (by omega) (by omega)).trans h.perm
  rest := fun k hk => by
    rw [swp_get (by omega) (by omega), if_neg (by omega), if_neg (by omega)]
    exact h.rest k hk
  grows := h.grows.trans hg fun k hk => Or.inl (own_perm h.perm hk)
set_option maxHeartbeats 1000000 in
theorem up_any (h : Tq w sb m v q) (n j : Nat) (hU : Up (fn q) n j) (hj : j < n) (hn : n ≤ q.length) :
    Calls Try.prog 25 #[hI sb, .int .i64 (j : Int)] w fun e w' => e = .returned (.tuple #[]) ∧ ∃ q', Went w sb m v q n w' q' ∧ Heap (fn q') n := by
  have hl := h.qu.len
  go_enter Try.func25, Try.ntmps25
  go_wp2_with fail
  go_loopw [1] (fun x wr => ∃ (j' : Nat) (q' : List Th), x = .int .i64 (j' : Int) ∧ j' < n ∧ Hid (Went w sb m v q n wr q') ∧ Hid (Up (fn q') n j')) (fun x _ => (intOf x).toNat)
  case atStart => exact ⟨j, q, rfl, hj, Went.refl h n, hU⟩
  case round =>
    obtain ⟨j', q', rfl, hj', HW, HU⟩ := hrel
    have hll : n ≤ q'.length := by rw [HW.out.len]; exact hn
    by_cases e0 : j' = 0
    · subst e0
      go_wp2_with fail
      go_end0
      exact ⟨rfl, q', HW.out, HU.out.done (Or.inl rfl)⟩
    · have hp1 := par_lt (k := j') (by omega)
      obtain ⟨p, hp⟩ : ∃ p, par j' = p := ⟨_, rfl⟩
      have hpar : ((j' : Int) - 1) / 2 = (p : Int) := by subst hp; unfold par; omega
      have hne : ((p : Int) == (j' : Int)) = false := by simp; omega
      have c1 := HW.out.tq.cell
      have hm := m_less c1
      by_cases hb : befB (fn q' j') (fn q' (par j')) = true
      · rw [hp] at hb hp1
        have HP := hid_into hp
        clear hp
        replace hb := hid_into hb
        have hb' := hid_into hb.out
        have hbv : befB (fn q' j') (fn q' p) = true := hb.out
        go_wp2_with (first | (go_at_call 45; refine (less_any HW.out.tq.qu _ _ (by omega) (by omega)).mono ?_; rintro e w1 ⟨rfl, hb1⟩; replace HW := hid_into (HW.out.below hb1); have hm2 := m_swap HW.out.tq.cell) | (go_at_call 46; refine (swap_any HW.out.tq.qu _ _ (by omega) (by omega) (by omega)).mono ?_; rintro e w2 ⟨rfl, hq2, hg2⟩))
        go_roundw
        case rel =>
          have hP := HP.out
          refine ⟨p, swp q' p j', rfl, by omega, HW.out.swap (by omega) hj' hll hq2 hg2, ?_⟩
          show Up _ _ _
          rw [fn_funext (by omega) (by omega), ← hP]
          exact HU.out.step (by omega) (by rw [hP]; exact of_decide_eq_true hb.out)
        case measure => simp [intOf]; omega
      · rw [hp] at hb hp1
        have HP := hid_into hp
        clear hp
        have hbv : befB (fn q' j') (fn q' p) = false := by simpa using hb
        replace hb := hid_into hbv
        go_wp2_with (first | (go_at_call 45; refine (less_any HW.out.tq.qu _ _ (by omega) (by omega)).mono ?_; rintro e w1 ⟨rfl, hb1⟩; replace HW := hid_into (HW.out.below hb1)) | fail)
        go_end0
        exact ⟨rfl, q', HW.out, HU.out.done (Or.inr (by rw [HP.out]; exact of_decide_eq_false hb.out))⟩
/-- What down answers. -/
def DownP (w : World) (sb : Nat) (m v : Value) (q : List Th) (n i0 : Nat) (e : Ending) (w' : World) : Prop :=
  ∃ (q' : List Th) (i : Nat), e = .returned (.bool (decide (i0 < i))) ∧ i0 ≤ i ∧ Went w sb m v q n w' q' ∧ (i0 < i → Heap (fn q') n) ∧ (i = i0 → Up (fn q') n i0)
theorem downP {n i0 i : Nat} {q' : List Th} (hw : Went w sb m v q n w' q') (hle : i0 ≤ i) (hd : (i0 < i → Heap (fn q') n) ∧ (i = i0 → Up (fn q') n i0)) : DownP w sb m v q n i0 (.returned (.bool (decide (i0 < i)))) w' :=
  ⟨q', i, rfl, hle, hw, hd⟩
set_option maxHeartbeats 4000000 in
theorem down_any (h : Tq w sb m v q) (n i0 : Nat) (hD : Dn (fn q) n i0 i0) (hi : i0 < n) (hn : n ≤ q.length) :
    Calls Try.prog 24 #[hI sb, .int .i64 (i0 : Int), .int .i64 (n : Int)] w fun e w' => DownP w sb m v q n i0 e w' := by
  have hl := h.qu.len
  go_enter Try.func24, Try.ntmps24
  go_wp2_with fail
  go_loopw [7] (fun x wr => ∃ (i' : Nat) (q' : List Th), x = .int .i64 (i' : Int) ∧ i0 ≤ i' ∧ i' < n ∧ Hid (Went w sb m v q n wr q') ∧ Hid (Dn (fn q') n i0 i')) (fun x _ => n - (intOf x).toNat)
  case atStart => exact ⟨i0, q, rfl, Nat.le_refl _, hi, Went.refl h n, hD⟩
  case round =>
    obtain ⟨i', q', rfl, hle, hi', HW, HD⟩ := hrel
    have hll : n ≤ q'.length := by rw [HW.out.len]; exact hn
    obtain ⟨a, ha⟩ : ∃ a, a = 2 * i' + 1 := ⟨_, rfl⟩
    obtain ⟨b, hb⟩ : ∃ b, b = a + 1 := ⟨_, rfl⟩
    have e1 : 2 * (i' : Int) + 1 = (a : Int) := by omega
    have e2 : (a : Int) + 1 = (b : Int) := by omega
    have hia : i' < a := by omega
    have hab : a < b := by omega
    have hac : a ≤ 10000 := by omega
    have HA := hid_into ha
    have HB2 := hid_into hb
    clear ha hb
    have hm := m_less HW.out.tq.cell
    by_cases h1 : a < n
    · by_cases h2 : b < n
      · by_cases hr : befB (fn q' b) (fn q' a) = true
        · have HR := hid_into hr
          by_cases hb : befB (fn q' b) (fn q' i') = true
          · have HB := hid_into hb
            go_wp2_with (first | (go_at_call 45; refine (less_any HW.out.tq.qu _ _ (by omega) (by omega)).mono ?_; rintro e w1 ⟨rfl, hb1⟩; replace HW := hid_into (HW.out.below hb1); have hm := m_less HW.out.tq.cell; have hm2 := m_swap HW.out.tq.cell) | (go_at_call 46; refine (swap_any HW.out.tq.qu _ _ (by omega) (by omega) (by omega)).mono ?_; rintro e w2 ⟨rfl, hq2, hg2⟩))
            go_roundw
            case rel =>
              refine ⟨b, swp q' i' b, rfl, by omega, by omega, HW.out.swap hi' (by omega) hll hq2 hg2, ?_⟩
              show Dn _ _ _ _
              rw [fn_funext (by omega) (by omega)]
              refine HD.out.step (Or.inr (by have := HA.out; have := HB2.out; omega)) (by omega) (of_decide_eq_true HB.out) ?_
              intro k k1 kn kp
              rcases par_cases k1 kp with e | e
              · have ek : k = a := by have := HA.out; omega
                rw [ek]; exact bef_asymm (of_decide_eq_true HR.out)
              · have ek : k = b := by have := HA.out; have := HB2.out; omega
                rw [ek]; exact bef_irrefl _
            case measure => simp [intOf]; omega
          · have hb2 : befB (fn q' b) (fn q' i') = false := by simpa using hb
            have HB := hid_into hb2
            clear hb
            go_wp2_with (first | (go_at_call 45; refine (less_any HW.out.tq.qu _ _ (by omega) (by omega)).mono ?_; rintro e w1 ⟨rfl, hb1⟩; replace HW := hid_into (HW.out.below hb1); have hm := m_less HW.out.tq.cell; have hm2 := m_swap HW.out.tq.cell) | fail)
            go_ret
            exact downP HW.out hle (HD.out.done (by rw [← HA.out]; intro _; exact fun h => absurd (bef_trans (of_decide_eq_true HR.out) h) (of_decide_eq_false HB.out)) (by rw [show 2 * i' + 2 = b by have := HA.out; have := HB2.out; omega]; intro _; exact of_decide_eq_false HB.out))
        · have hr2 : befB (fn q' b) (fn q' a) = false := by simpa using hr
          have HR := hid_into hr2
          clear hr
          by_cases hb : befB (fn q' a) (fn q' i') = true
          · have HB := hid_into hb
            go_wp2_with (first | (go_at_call 45; refine (less_any HW.out.tq.qu _ _ (by omega) (by omega)).mono ?_; rintro e w1 ⟨rfl, hb1⟩; replace HW := hid_into (HW.out.below hb1); have hm := m_less HW.out.tq.cell; have hm2 := m_swap HW.out.tq.cell) | (go_at_call 46; refine (swap_any HW.out.tq.qu _ _ (by omega) (by omega) (by omega)).mono ?_; rintro e w2 ⟨rfl, hq2, hg2⟩))
            go_roundw
            case rel =>
              refine ⟨a, swp q' i' a, rfl, by omega, by omega, HW.out.swap hi' (by omega) hll hq2 hg2, ?_⟩
              show Dn _ _ _ _
              rw [fn_funext (by omega) (by omega)]
              refine HD.out.step (Or.inl HA.out) (by omega) (of_decide_eq_true HB.out) ?_
              intro k k1 kn kp
              rcases par_cases k1 kp with e | e
              · have ek : k = a := by have := HA.out; omega
                rw [ek]; exact bef_irrefl _
              · have ek : k = b := by have := HA.out; have := HB2.out; omega
                rw [ek]; exact of_decide_eq_false HR.out
            case measure => simp [intOf]; omega
          · have hb2 : befB (fn q' a) (fn q' i') = false := by simpa using hb
            have HB := hid_into hb2
            clear hb
            go_wp2_with (first | (go_at_call 45; refine (less_any HW.out.tq.qu _ _ (by omega) (by omega)).mono ?_; rintro e w1 ⟨rfl, hb1⟩; replace HW := hid_into (HW.out.below hb1); have hm := m_less HW.out.tq.cell; have hm2 := m_swap HW.out.tq.cell) | fail)
            go_ret
            exact downP HW.out hle (HD.out.done (by rw [← HA.out]; intro _; exact of_decide_eq_false HB.out) (by rw [show 2 * i' + 2 = b by have := HA.out; have := HB2.out; omega]; intro _; exact bef_neg (of_decide_eq_false HR.out) (of_decide_eq_false HB.out)))
      · have hbn : n ≤ b := by omega
        by_cases hb : befB (fn q' a) (fn q' i') = true
        · have HB := hid_into hb
          go_wp2_with (first | (go_at_call 45; refine (less_any HW.out.tq.qu _ _ (by omega) (by omega)).mono ?_; rintro e w1 ⟨rfl, hb1⟩; replace HW := hid_into (HW.out.below hb1); have hm := m_less HW.out.tq.cell; have hm2 := m_swap HW.out.tq.cell) | (go_at_call 46; refine (swap_any HW.out.tq.qu _ _ (by omega) (by omega) (by omega)).mono ?_; rintro e w2 ⟨rfl, hq2, hg2⟩))
          go_roundw
          case rel =>
            refine ⟨a, swp q' i' a, rfl, by omega, by omega, HW.out.swap hi' (by omega) hll hq2 hg2, ?_⟩
            show Dn _ _ _ _
            rw [fn_funext (by omega) (by omega)]
            refine HD.out.step (Or.inl HA.out) (by omega) (of_decide_eq_true HB.out) ?_
            intro k k1 kn kp
            rcases par_cases k1 kp with e | e
            · have ek : k = a := by have := HA.out; omega
              rw [ek]; exact bef_irrefl _
            · have ek : k = b := by have := HA.out; have := HB2.out; omega
              rw [ek]; exact absurd kn (by omega)
          case measure => simp [intOf]; omega
        · have hb2 : befB (fn q' a) (fn q' i') = false := by simpa using hb
          have HB := hid_into hb2
          clear hb
          go_wp2_with (first | (go_at_call 45; refine (less_any HW.out.tq.qu _ _ (by omega) (by omega)).mono ?_; rintro e w1 ⟨rfl, hb1⟩; replace HW := hid_into (HW.out.below hb1); have hm := m_less HW.out.tq.cell; have hm2 := m_swap HW.out.tq.cell) | fail)
          go_ret
          exact downP HW.out hle (HD.out.done (by rw [← HA.out]; intro _; exact of_decide_eq_false HB.out) (by rw [show 2 * i' + 2 = b by have := HA.out; have := HB2.out; omega]; intro _; exact absurd ‹b < n› (by omega)))
    · have han : n ≤ a := by omega
      go_wp2_with fail
      go_ret
      exact downP HW.out hle (HD.out.done (fun h => absurd h (by have := HA.out; omega)) (fun h => absurd h (by have := HA.out; omega)))
end Go.Proofs.Ytilaankipjcgaaa
