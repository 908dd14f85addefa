/-
  Whether something is a state: ring's isState asks it of its bytes.
-/
import Derived.Test.YtkchdkcdkeajkaaEncB
import Derived.Test.YtkchdkcdkeajkaaRgRows
namespace Go.Proofs.Ytkchdkcdkeajkaa
open Go.RowKit Oc
theorem eqS_eq {s t : Sp} (h : eqS s t = true) : s = t := by
  simp only [eqS, Bool.and_eq_true, decide_eq_true_eq] at h
  obtain ⟨h1, h2, h3, h4, h5⟩ := h
  cases s
  cases t
  simp_all
theorem is_enc {s : Sp} (hs : Gs s) : (decide ((decP (encS s)).2 = 0) && eqS (decP (encS s)).1 s) = isS s := by
  cases h : isS s with
  | true => rw [enc_back hs.1 h, eqS_same]; rfl
  | false =>
    cases h2 : (decide ((decP (encS s)).2 = 0) && eqS (decP (encS s)).1 s) with
    | false => rfl
    | true =>
      simp only [Bool.and_eq_true, decide_eq_true_eq] at h2
      have e := eqS_eq h2.2
      have h3 := h2.1
      rw [← e] at h
      revert h h3
      generalize encS s = zs
      unfold decP
      intro h h3
      by_cases h4 : dE zs ≠ 0
      · rw [if_pos h4] at h3; exact absurd h3 h4
      · rw [if_neg h4] at h h3
        by_cases h5 : 1 < dOv zs ∨ isS (dS zs) = false
        · rw [if_pos h5] at h3; cases h3
        · rw [if_neg h5] at h
          exact absurd (Or.inr h) h5
set_option maxRecDepth 20000 in
set_option maxHeartbeats 2000000 in
theorem isState_any (s : Sp) (hs : Gs s) (w : World) : Calls Try.prog 17 #[.agg (stV s).toArray] w fun e w' => e = .returned (.bool (isS s)) ∧ Below w.heap.size w w' := by
  have hby := encS_byt hs.2.1 hs.2.2
  have hln := encS_len s hs.1
  have HE : Hid (∀ W, Calls Try.prog 23 #[.agg (stV s).toArray] W fun e w' => ∃ ao cap, e = .returned (.slice ao (encS s).length cap) ∧ Oc.Ow w' W.heap.size (.slice ao (encS s).length cap) (encS s) ∧ Below W.heap.size W w') := fun W => Encode_any s hs.1 hs.2.1 hs.2.2 W
  have HD : Hid (∀ W v, Oc.Bs W v (encS s) → Calls Try.prog 22 #[v] W fun e w' => e = .returned (.tuple #[.agg (stV (decP (encS s)).1).toArray, .int .i64 (decP (encS s)).2]) ∧ Below W.heap.size W w') := fun W v hb => Decode_any v _ W hb hby (by omega)
  have HN := st_size hs.1
  have hwx := decP_wf hby
  have HNx := st_size hwx
  have HLx := st_len hwx
  have HOx := st_one hwx
  have HEx := hid_into (run_eqS _ _ hwx hs.1)
  have HZ : Hid ((Try.prog.info? 35).bind (·.zero) = some (.agg zeroS.toArray)) := Try.zero35
  have ZS := zeroS_size
  have HR := hid_into (is_enc hs)
  generalize eqS (decP (encS s)).1 s = q at *
  generalize stV (decP (encS s)).1 = xs at *
  generalize (decP (encS s)).2 = er at *
  generalize stV s = cs at *
  generalize isS s = r at *
  generalize encS s = R at *
  clear hs hwx hby hln
  by_cases he : er = 0
  · subst he
    have HR2 : Hid (r = q) := by show r = q; rw [← HR.out]; simp
    clear HR
    go_enter Try.func17, Try.ntmps17
    go_wp2_with (first
      | (refine wpList_box_row rfl 35 (.tmp 0) rfl cs rfl ?_; intro W1 hc1 B1 HS1)
      | (refine wpList_load_rw rfl 35 (.tmp 1) rfl w.heap.size cs 35 _ rfl ?_ Try.underlying35 rfl HN ?_; exact hc1)
      | (go_at_call 23; refine (HE.out _).mono ?_; rintro e w2 ⟨ao, cap, rfl, ho2, B2⟩)
      | (go_at_call 22; refine (HD.out _ _ ho2.bs).mono ?_; rintro e w3 ⟨rfl, B3⟩; have hc3 := (hc1.below B2 hc1.lt).below B3 (hc1.below B2 hc1.lt).lt; have HB3 := hid_into ((B1.trans (B2.mono B1.size)).trans (B3.mono (Nat.le_trans B1.size B2.size))); clear hc1 B2 B3 B1 ho2)
      | (refine wpList_alloc_row rfl 35 rfl zeroS HZ.out ?_; intro W4 hc4 B4 HS4; have hd4 := hc3.below B4 hc3.lt; have hne := hid_into (Nat.ne_of_lt hc3.lt); have HB4 := hid_into (HB3.out.trans (B4.mono HB3.out.size)); clear hc3 B4)
      | (refine wpList_store_rw rfl 35 (.tmp 3) (.tmp 9) rfl w3.heap.size zeroS xs 35 rfl rfl ?_ ZS HLx HOx.out ?_; exact hc4; intro W5 hc5 O5; have hd5 := O5.cw hd4 hne.out; have HB5 := hid_into (HB4.out.trans (O5.below HB3.out.size)); clear hc4 hd4 O5)
      | (refine wpList_load_rwG (by kernel_rfl) 35 (.tmp 3) rfl w3.heap.size xs 35 _ rfl ?_ Try.underlying35 rfl HNx ?_; exact hc5)
      | (refine wpList_load_rwG (by kernel_rfl) 35 (.tmp 1) rfl w.heap.size cs 35 _ rfl ?_ Try.underlying35 rfl HN ?_; exact hd5)
      | (refine wpList_eql28 (by kernel_rfl) (.tmp 14) (.tmp 15) rfl xs cs q HEx rfl rfl ?_))
    go_ret
    exact ⟨by rw [HR2.out]; rfl, HB5.out⟩
  · have HR2 : Hid (r = false) := by show r = false; rw [← HR.out]; simp [he]
    have he' : (er == 0) = false := by simp [he]
    clear HR
    go_enter Try.func17, Try.ntmps17
    go_wp2_with (first
      | (refine wpList_box_row rfl 35 (.tmp 0) rfl cs rfl ?_; intro W1 hc1 B1 HS1)
      | (refine wpList_load_rw rfl 35 (.tmp 1) rfl w.heap.size cs 35 _ rfl ?_ Try.underlying35 rfl HN ?_; exact hc1)
      | (go_at_call 23; refine (HE.out _).mono ?_; rintro e w2 ⟨ao, cap, rfl, ho2, B2⟩)
      | (go_at_call 22; refine (HD.out _ _ ho2.bs).mono ?_; rintro e w3 ⟨rfl, B3⟩; have hc3 := (hc1.below B2 hc1.lt).below B3 (hc1.below B2 hc1.lt).lt; have HB3 := hid_into ((B1.trans (B2.mono B1.size)).trans (B3.mono (Nat.le_trans B1.size B2.size))); clear hc1 B2 B3 B1 ho2)
      | (refine wpList_alloc_row rfl 35 rfl zeroS HZ.out ?_; intro W4 hc4 B4 HS4; have hd4 := hc3.below B4 hc3.lt; have hne := hid_into (Nat.ne_of_lt hc3.lt); have HB4 := hid_into (HB3.out.trans (B4.mono HB3.out.size)); clear hc3 B4)
      | (refine wpList_store_rw rfl 35 (.tmp 3) (.tmp 9) rfl w3.heap.size zeroS xs 35 rfl rfl ?_ ZS HLx HOx.out ?_; exact hc4; intro W5 hc5 O5; have hd5 := O5.cw hd4 hne.out; have HB5 := hid_into (HB4.out.trans (O5.below HB3.out.size)); clear hc4 hd4 O5))
    go_ret
    exact ⟨by rw [HR2.out]; simp [Array.getD], HB5.out⟩
end Go.Proofs.Ytkchdkcdkeajkaa
