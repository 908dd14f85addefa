/-
  RingKeeps' own walk.
-/
import Derived.Test.YtkchdkcdkeajkaaRgKnown
import Derived.Test.YtkchdkcdkeajkaaRgLast
namespace Go.Proofs.Ytkchdkcdkeajkaa
open Go.RowKit
set_option maxRecDepth 20000 in
set_option maxHeartbeats 2000000 in
theorem keeps_no (n fr bk : Int) (w : World) (h : n < 1 ∨ 256 < n ∨ fr < 1 ∨ 400 < fr ∨ bk < 0) : Calls Try.prog 4 #[.int .i64 n, .int .i64 fr, .int .i64 bk] w fun e w' => e = .returned (.bool true) ∧ Below w.heap.size w w' := by
  have CK := hid_into known_any
  by_cases h1 : n < 1
  · clear h
    go_enter Try.func4, Try.ntmps4
    go_wp2_with (go_at_call 8; refine (CK.out _).mono ?_; rintro e w1 ⟨rfl, b1⟩)
    go_ret
    exact ⟨rfl, b1⟩
  by_cases h2 : 256 < n
  · clear h
    go_enter Try.func4, Try.ntmps4
    go_wp2_with (go_at_call 8; refine (CK.out _).mono ?_; rintro e w1 ⟨rfl, b1⟩)
    go_ret
    exact ⟨rfl, b1⟩
  by_cases h3 : fr < 1
  · clear h
    go_enter Try.func4, Try.ntmps4
    go_wp2_with (go_at_call 8; refine (CK.out _).mono ?_; rintro e w1 ⟨rfl, b1⟩)
    go_ret
    exact ⟨rfl, b1⟩
  by_cases h4 : 400 < fr
  · clear h
    go_enter Try.func4, Try.ntmps4
    go_wp2_with (go_at_call 8; refine (CK.out _).mono ?_; rintro e w1 ⟨rfl, b1⟩)
    go_ret
    exact ⟨rfl, b1⟩
  have h5 : bk < 0 := by omega
  clear h
  go_enter Try.func4, Try.ntmps4
  go_wp2_with (go_at_call 8; refine (CK.out _).mono ?_; rintro e w1 ⟨rfl, b1⟩)
  go_ret
  exact ⟨rfl, b1⟩
def gi : Nat → Int := fun i => (i : Int)
set_option maxRecDepth 20000 in
set_option maxHeartbeats 8000000 in
theorem keeps_go (n fr bk : Nat) (w : World) (hn1 : 1 ≤ n) (hn2 : n ≤ 256) (hf1 : 1 ≤ fr) (hf2 : fr ≤ 400) (hb : (bk : Int) ≤ 9223372036854775807) : Calls Try.prog 4 #[.int .i64 (n : Int), .int .i64 (fr : Int), .int .i64 (bk : Int)] w fun e w' => e = .returned (.bool true) ∧ Below w.heap.size w w' := by
  have CK := hid_into known_any
  have HP : Hid (∀ W k, k < fr → Lw w W n (frA n k) (frL gi n k) → Calls Try.prog 9 #[.pointer (some ⟨w.heap.size + 1, 0, none⟩), .agg (stV ⟨(k : Int), zeros, (k : Int), false, 0⟩).toArray] W fun e w' => e = .returned (.int .i64 0) ∧ Lw w w' n (frA n (k + 1)) (frL gi n (k + 1))) := fun W k hk hW => by
    obtain ⟨e1, e2, e3⟩ := fr_step gi (n := n) (i := k) hn1 (by omega)
    refine (put_any hW.r (stF k (gi k)) (stF_gs (by omega) (by simp [gi]) (by simp only [gi]; omega))).mono ?_
    rintro e w' ⟨rfl, hp⟩
    have := hW.put hp
    rw [e2, e3] at this
    exact ⟨by rw [e1], this⟩
  have HGn : Hid (∀ W k, k < fr → (k : Int) ≤ (fr : Int) - 1 - (n : Int) → Lw w W n (frA n fr) (frL gi n fr) → Calls Try.prog 15 #[.pointer (some ⟨w.heap.size + 1, 0, none⟩), .int .i64 (k : Int)] W fun e w' => e = .returned (.tuple #[.agg zeroS.toArray, .bool false]) ∧ Below W.heap.size W w') := fun W k hk hc hW => by
    obtain ⟨e1, e2⟩ := fr_get gi (n := n) hk
    have e3 : gtB (frA n fr) (frL gi n fr) (k : Int) = false := by rw [e1, decide_eq_false_iff_not]; omega
    have h := get_any hW.r (k : Int)
    rw [gt_no e3, e3] at h
    exact h
  have HGy : Hid (∀ W k, k < fr → (fr : Int) - 1 - (n : Int) < (k : Int) → Lw w W n (frA n fr) (frL gi n fr) → Calls Try.prog 15 #[.pointer (some ⟨w.heap.size + 1, 0, none⟩), .int .i64 (k : Int)] W fun e w' => e = .returned (.tuple #[.agg (stV (stF k (k : Int))).toArray, .bool true]) ∧ Below W.heap.size W w') := fun W k hk hc hW => by
    obtain ⟨e1, e2⟩ := fr_get gi (n := n) hk
    have e3 : gtB (frA n fr) (frL gi n fr) (k : Int) = true := by rw [e1, decide_eq_true_iff]; omega
    have h := get_any hW.r (k : Int)
    rw [e2 e3, e3] at h
    exact h
  obtain ⟨m, hm⟩ : ∃ m, m = bk % n := ⟨_, rfl⟩
  have hmn : m < n := by rw [hm]; exact Nat.mod_lt _ hn1
  have q1 : ((bk : Int)).tmod (n : Int) = (m : Int) := by rw [hm]; rfl
  have q2 : IntKind.i64.wrap (m : Int) = (m : Int) := by simp [IntKind.wrap, IntKind.bits, IntKind.signed]; omega
  have q3 : ¬ (n : Int) = 0 := by omega
  have q4 : ¬ n = 0 := by omega
  obtain ⟨ls, hls⟩ : ∃ ls : Int, ls = (fr : Int) - 1 := ⟨_, rfl⟩
  have q5 : IntKind.i64.wrap ((fr : Int) - 1) = ls := by rw [hls]; simp [IntKind.wrap, IntKind.bits, IntKind.signed]; omega
  obtain ⟨lo, hlo⟩ : ∃ lo : Int, lo = ls - (n : Int) := ⟨_, rfl⟩
  have q6 : IntKind.i64.wrap (ls - (n : Int)) = lo := by rw [hlo, hls]; simp [IntKind.wrap, IntKind.bits, IntKind.signed]; omega
  obtain ⟨kk, hkk⟩ : ∃ kk : Int, kk = ls - (m : Int) := ⟨_, rfl⟩
  have q7 : IntKind.i64.wrap (ls - (m : Int)) = kk := by rw [hkk, hls]; simp [IntKind.wrap, IntKind.bits, IntKind.signed]; omega
  have HT : Hid (0 ≤ kk → ∃ k : Nat, kk = (k : Int) ∧ k < fr ∧ fr ≤ k + n) := fun h => ⟨kk.toNat, by omega, by omega, by omega⟩
  have HB := hid_into built_fs
  have HZ : Hid ((Try.prog.info? 35).bind (·.zero) = some (.agg zeroS.toArray)) := Try.zero35
  have ZS := zeroS_size
  have HOz := st_one noS_wf
  change Hid (∀ v ∈ zeroS, v.oneCell' = true) at HOz
  have CN : Hid (Calls Try.prog 6 #[.int .i64 (n : Int)] w fun e w' => e = .returned (.tuple #[.pointer (some ⟨w.heap.size + 1, 0, none⟩), .int .i64 0]) ∧ Lw w w' n (frA n 0) (frL gi n 0)) := by
    refine (new_any w n hn1 hn2).mono ?_
    rintro e w' ⟨rfl, hr1, hb1, hs1⟩
    have e : frL gi n 0 = [] := by simp [frL]
    have e2 : frA n 0 = 0 := by simp [frA]
    rw [e, e2]
    exact ⟨rfl, hr1, hb1⟩
  have a1 : ¬ (n : Int) < 1 := by omega
  have a2 : ¬ 256 < (n : Int) := by omega
  have a3 : ¬ (fr : Int) < 1 := by omega
  have a4 : ¬ 400 < (fr : Int) := by omega
  have a5 : ¬ (bk : Int) < 0 := by omega
  have HLO : Hid (lo = (fr : Int) - 1 - (n : Int)) := by show lo = _; omega
  have HFM : Hid (fr ≤ 400) := hf2
  have HNN : Hid (1 ≤ n ∧ n ≤ 256) := ⟨hn1, hn2⟩
  clear hn1 hn2 hf1 hf2 hb hm hmn hls hlo hkk
  go_enter Try.func4, Try.ntmps4
  go_wp2_with (go_at_call 6; refine CN.out.mono ?_; rintro e w1 ⟨rfl, hr1⟩; have HS := hid_into hr1; clear hr1)
  go_loopw [9] (fun x wr => ∃ k : Nat, k ≤ fr ∧ x = .int .i64 (k : Int) ∧ Hid (Lw w wr n (frA n k) (frL gi n k))) (fun x _ => fr - (intOf x).toNat)
  case atStart => exact ⟨0, Nat.zero_le _, rfl, HS⟩
  case round =>
    obtain ⟨k, hk, rfl, hL⟩ := hrel
    clear HS
    by_cases hk3 : k < fr
    · have hk3' : (k : Int) < (fr : Int) := by omega
      obtain ⟨cs, hcs⟩ : ∃ cs, cs = stV ⟨(k : Int), zeros, (k : Int), false, 0⟩ := ⟨_, rfl⟩
      have HBk := hid_into (HB.out (k : Int) (k : Int))
      have HPk := hid_into (HP.out wr k hk3 hL.out)
      have hu : IntKind.u32.wrap (k : Int) = (k : Int) := by have := HFM.out; simp [IntKind.wrap, IntKind.bits, IntKind.signed]; omega
      have hi : IntKind.i64.wrap ((k : Int) + 1) = ((k + 1 : Nat) : Int) := by have := HFM.out; simp [IntKind.wrap, IntKind.bits, IntKind.signed]; omega
      rw [← hcs] at HBk HPk
      clear hcs HB HP CN hL HGn HGy HT CK
      go_wp2_with (first
        | (refine wpList_build_row rfl 35 #[(0, .tmp 57), (2, .tmp 59)] rfl cs _ rfl ?_ ?_; (first | exact HBk.out | (simp only [hu]; exact HBk.out)))
        | (go_at_call 9; refine HPk.out.mono ?_; rintro e w2 ⟨rfl, h2⟩))
      go_roundw
      case rel => exact ⟨k + 1, by omega, by simp, h2⟩
      case measure => simp [intOf]; omega
    · have hk3' : ¬ (k : Int) < (fr : Int) := by omega
      obtain rfl : k = fr := by omega
      clear HP CN hk3 hk
      go_wp2_with fail
      go_loopw [11] (fun x wr => ∃ j : Nat, j ≤ k ∧ x = .int .i64 (j : Int) ∧ Hid (Lw w wr n (frA n k) (frL gi n k))) (fun x _ => k - (intOf x).toNat)
      case atStart => exact ⟨0, Nat.zero_le _, rfl, hL⟩
      case round =>
        obtain ⟨j, hj, rfl, hM⟩ := hrel
        clear hL
        by_cases hj3 : j < k
        · have hj3' : (j : Int) < (k : Int) := by omega
          have hu : IntKind.u32.wrap (j : Int) = (j : Int) := by have := HFM.out; simp [IntKind.wrap, IntKind.bits, IntKind.signed]; omega
          have hi : IntKind.i64.wrap ((j : Int) + 1) = ((j + 1 : Nat) : Int) := by have := HFM.out; simp [IntKind.wrap, IntKind.bits, IntKind.signed]; omega
          by_cases hy : lo < (j : Int)
          · have HG := hid_into (HGy.out wr j hj3 (by have := HLO.out; omega) hM.out)
            have hwf : (stF j (j : Int)).Wf := (stF_gs (by have := HFM.out; omega) (by omega) (by have := HFM.out; omega)).1
            have HL9 := st_len hwf
            have HO9 := st_one hwf
            have HX9 : Hid ((stV (stF j (j : Int)))[17]? = some (.int .u32 (j : Int))) := (stV_c hwf).seed
            clear hwf HGy HGn HT CK
            generalize stV (stF j (j : Int)) = c9 at *
            go_wp2_with (first
              | (go_at_call 15; refine HG.out.mono ?_; rintro e w4 ⟨rfl, h4⟩; have H4 := hid_into (hM.out.next h4); clear h4)
              | (refine wpList_alloc_row rfl 35 rfl zeroS HZ.out ?_; intro W5 hc5 B5 HS5)
              | (refine wpList_store_rw rfl 35 (.tmp 12) (.tmp 74) rfl w4.heap.size zeroS c9 35 rfl rfl ?_ ZS HL9 HO9.out ?_; exact hc5; intro W6 hc6 O6; have H6 := hid_into (H4.out.next (B5.trans (O6.below (Nat.le_refl _)))); have q9 := (hc6.cell 17).trans HX9.out; clear B5 O6))
            go_roundw
            case rel => exact ⟨j + 1, by omega, by simp, H6⟩
            case measure => simp [intOf]; omega
          · have HG := hid_into (HGn.out wr j hj3 (by have := HLO.out; omega) hM.out)
            have hy' : (j : Int) ≤ lo := by omega
            clear HGy HGn HT CK
            go_wp2_with (first
              | (go_at_call 15; refine HG.out.mono ?_; rintro e w4 ⟨rfl, h4⟩; have H4 := hid_into (hM.out.next h4); clear h4)
              | (refine wpList_alloc_row rfl 35 rfl zeroS HZ.out ?_; intro W5 hc5 B5 HS5)
              | (refine wpList_store_rw rfl 35 (.tmp 12) (.tmp 74) rfl w4.heap.size zeroS zeroS 35 rfl rfl ?_ ZS (hid_into rfl) HOz.out ?_; exact hc5; intro W6 hc6 O6; have H6 := hid_into (H4.out.next (B5.trans (O6.below (Nat.le_refl _)))); clear B5 O6))
            go_roundw
            case rel => exact ⟨j + 1, by omega, by simp, H6⟩
            case measure => simp [intOf]; omega
        · have hj3' : ¬ (j : Int) < (k : Int) := by omega
          obtain rfl : j = k := by omega
          clear hj hj3 HGy HGn HLO
          by_cases h0 : kk < 0
          · clear HT
            go_wp2_with (go_at_call 8; refine (CK.out _).mono ?_; rintro e w1 ⟨rfl, b1⟩)
            go_ret
            exact ⟨rfl, hM.out.b.trans (b1.mono hM.out.b.size)⟩
          · obtain ⟨p, rfl, hp1, hp2⟩ := HT.out (by omega)
            have hgs : Gs (stF p 7) := stF_gs (by have := HFM.out; omega) (by decide) (by decide)
            have he := fr_back gi (n := n) (fr := j) (k := p) (by have := HFM.out; omega) hp1 hp2 7
            obtain ⟨A, hA⟩ : ∃ A, A = putA n (frA n j) (frL gi n j) (stF p 7) := ⟨_, rfl⟩
            obtain ⟨L, hLL⟩ : ∃ L, L = putL n (frA n j) (frL gi n j) (stF p 7) := ⟨_, rfl⟩
            obtain ⟨g1, g2, g3, g4⟩ := put_newest HNN.out.1 hM.out.r.k he (f := p) rfl
            rw [← hA, ← hLL] at g1 g2 g3 g4
            have HPk : Hid (Calls Try.prog 9 #[.pointer (some ⟨w.heap.size + 1, 0, none⟩), .agg (stV ⟨(p : Int), zeros, 7, false, 0⟩).toArray] wr fun e w' => e = .returned (.int .i64 0) ∧ Lw w w' n A L) := by
              refine (put_any hM.out.r (stF p 7) hgs).mono ?_
              rintro e w' ⟨rfl, hp⟩
              have := hM.out.put hp
              rw [← hA, ← hLL] at this
              exact ⟨by rw [he], this⟩
            have HW : Hid (∀ W, Lw w W n A L → Calls Try.prog 13 #[.pointer (some ⟨w.heap.size + 1, 0, none⟩)] W fun e w' => e = .returned (.tuple #[.agg (stV (stF p 7)).toArray, .bool true]) ∧ Below W.heap.size W w') := fun W hW => by
              have h := newest_any hW.r
              rw [g1, g2, g3] at h
              exact h
            have HF : Hid (∀ W, Lw w W n A L → Calls Try.prog 11 #[.pointer (some ⟨w.heap.size + 1, 0, none⟩)] W fun e w' => e = .returned (.tuple #[.int .i64 (lstF A L), .int .i64 (p : Int)]) ∧ Sm W w') := fun W hW => by
              have h := frames_any hW.r
              rw [g1] at h
              exact h
            obtain ⟨p1, hp1e⟩ : ∃ p1 : Int, p1 = (p : Int) + 1 := ⟨_, rfl⟩
            have HG : Hid (∀ W, Lw w W n A L → Calls Try.prog 15 #[.pointer (some ⟨w.heap.size + 1, 0, none⟩), .int .i64 p1] W fun e w' => e = .returned (.tuple #[.agg zeroS.toArray, .bool false]) ∧ Below W.heap.size W w') := fun W hW => by
              have h := get_any hW.r ((p : Int) + 1)
              rw [gt_no g4, g4] at h
              rw [hp1e]
              exact h
            have q8 : IntKind.i64.wrap ((p : Int) + 1) = p1 := by rw [hp1e]; have := HFM.out; simp [IntKind.wrap, IntKind.bits, IntKind.signed]; omega
            have HBk : Hid (Try.prog.built 35 [(0, .int .i64 (p : Int)), (2, .int .u32 7)] = some (stV ⟨(p : Int), zeros, 7, false, 0⟩).toArray) := built_fs _ _
            have HL9 := st_len hgs.1
            have HO9 := st_one hgs.1
            have HX9 : Hid ((stV (stF p 7))[17]? = some (.int .u32 7)) := (stV_c hgs.1).seed
            have h0' : ¬ (p : Int) < 0 := h0
            generalize (stV ⟨(p : Int), zeros, 7, false, 0⟩) = d9 at *
            generalize stV (stF p 7) = c9 at *
            generalize lstF A L = la at *
            clear hgs he hA hLL g1 g2 g3 g4 hp1 hp2 hp1e HT HNN HFM h0
            have tok1 : True := trivial
            have tok2 : True := trivial
            go_wp2_with (go_big_may; first
              | (refine wpList_build_row rfl 35 #[(0, .tmp 102), (2, .const (.int .u32 7))] rfl d9 _ rfl ?_ ?_; exact HBk.out)
              | (go_at_call 9; refine HPk.out.mono ?_; rintro e w2 ⟨rfl, h2⟩; have H2 := hid_into h2; clear h2)
              | (go_at_call 13; refine (HW.out _ H2.out).mono ?_; rintro e w3 ⟨rfl, h3⟩; have H3 := hid_into (H2.out.next h3); clear h3)
              | (have _k := tok1; refine wpList_alloc_row rfl 35 rfl zeroS HZ.out ?_; intro W4 hc4 B4 HS4; clear tok1)
              | (refine wpList_store_rw rfl 35 (.tmp 15) (.tmp 109) rfl w3.heap.size zeroS c9 35 rfl rfl ?_ ZS HL9 HO9.out ?_; exact hc4; intro W5 hc5 O5; have H5 := hid_into (H3.out.next (B4.trans (O5.below (Nat.le_refl _)))); clear B4 O5 hc4)
              | (go_at_call 11; refine (HF.out _ H5.out).mono ?_; rintro e w6 ⟨rfl, h6⟩; have H6 := hid_into (H5.out.sm h6); have hc6 := h6.cw hc5; clear h6 hc5)
              | (go_at_call 15; refine (HG.out _ H6.out).mono ?_; rintro e w7 ⟨rfl, h7⟩; have H7 := hid_into (H6.out.next h7); have hc7 := hc6.below h7 hc6.lt; clear h7 hc6)
              | (have _k := tok2; refine wpList_alloc_row rfl 35 rfl zeroS HZ.out ?_; intro W8 hx8 B8 HS8; have hc8 := hc7.below B8 hc7.lt; have hn8 := hid_into (Nat.ne_of_lt hc7.lt); clear tok2 hc7)
              | (refine wpList_store_rw rfl 35 (.tmp 19) (.tmp 121) rfl w7.heap.size zeroS zeroS 35 rfl rfl ?_ ZS (hid_into rfl) HOz.out ?_; exact hx8; intro W9 hx9 O9; have H9 := hid_into (H7.out.next (B8.trans (O9.below (Nat.le_refl _)))); have hc9 := O9.cw hc8 hn8.out; have q9 := (hc9.cell 17).trans HX9.out; clear B8 O9 hx8 hc8)
              | (go_at_call 8; refine (CK.out _).mono ?_; rintro e wb ⟨rfl, hb⟩))
            go_ret
            exact ⟨rfl, H9.out.b.trans (hb.mono H9.out.b.size)⟩
theorem keeps_walk (n fr bk : Int) (w : World) (hb : -9223372036854775808 ≤ bk ∧ bk ≤ 9223372036854775807) : Calls Try.prog 4 #[.int .i64 n, .int .i64 fr, .int .i64 bk] w fun e w' => e = .returned (.bool true) ∧ Below w.heap.size w w' := by
  by_cases h : n < 1 ∨ 256 < n ∨ fr < 1 ∨ 400 < fr ∨ bk < 0
  · exact keeps_no n fr bk w h
  · have := keeps_go n.toNat fr.toNat bk.toNat w (by omega) (by omega) (by omega) (by omega) (by omega)
    rw [show ((n.toNat : Nat) : Int) = n by omega, show ((fr.toNat : Nat) : Int) = fr by omega, show ((bk.toNat : Nat) : Int) = bk by omega] at this
    exact this
end Go.Proofs.Ytkchdkcdkeajkaa
