/-
  CodeLines, walked.
-/
import Derived.Test.YtddmnpfebajnmaaDoorProgs
import Derived.Test.YtddmnpfebajnmaaDoorLinesQ
import Derived.Lib.TrimByte
namespace Go.Proofs.YtddmnpfebajnmaaDoor
open Go.RowKit
set_option maxRecDepth 20000 in
set_option maxHeartbeats 8000000 in
theorem lines_walk (v : Value) (l : List Ii) (at_ : Int) (bad : List UInt8) (hbl : bad.length ≤ 9223372036854775807) (w : World) (h : Ls w v l) (ht : Tt w) :
    Calls Tryd.prog 8 #[v, .int .i64 at_, .string ⟨bad.toArray⟩] w fun e w' => e = .returned (.bool true) ∧ Below w.heap.size w w' := by
  obtain ⟨ao, cap, rfl, hm⟩ := h.len
  have hm' : l.length ≤ 9223372036854775807 := by unfold maxLen at hm; omega
  have zb : (⟨bad.toArray⟩ : ByteArray).size = bad.length := by simp [ByteArray.size]
  have HL0 := hid_into h
  have HT0 := hid_into ht
  have C13 := fun W h' h'' => print_any (.slice ao l.length cap) l W h' h''
  clear h hm ht
  obtain ⟨nb, hnb⟩ : ∃ nb : Nat, nb = bad.length := ⟨_, rfl⟩
  have HNB : Hid (bad.length = nb) := hid_into hnb.symm
  rw [← hnb] at zb hbl
  clear hnb
  by_cases h3 : 200 < l.length
  · go_enter Tryd.func8, Tryd.ntmps8
    go_wp2
    go_ret
    exact ⟨rfl, Below.refl _ _⟩
  by_cases h4 : 100 < nb
  · go_enter Tryd.func8, Tryd.ntmps8
    go_wp2
    go_ret
    exact ⟨rfl, Below.refl _ _⟩
  have i3 : ¬ (200 : Int) < l.length := by omega
  have i4 : ¬ (100 : Int) < nb := by omega
  go_enter Tryd.func8, Tryd.ntmps8
  go_wp2_with fail
  go_loopw [7] (fun i wr => ∃ k : Nat, k ≤ nb ∧ i = .int .i64 (k : Int) ∧ Hid (∀ c ∈ bad.take k, 120 ≤ c.toNat ∧ c.toNat ≤ 122) ∧ wr = w) (fun i _ => nb - (intOf i).toNat)
  case atStart => exact ⟨0, by omega, rfl, hid_into (by simp), rfl⟩
  case round =>
    obtain ⟨k, hk, rfl, HK, rfl⟩ := hrel
    by_cases hkn : k < nb
    · obtain ⟨d, hd⟩ : ∃ d, bad[k]? = some d := ⟨_, List.getElem?_eq_getElem (by have := HNB.out; omega)⟩
      have f3 : (k : Int) < (nb : Int) := by omega
      have hlt : k < (⟨bad.toArray⟩ : ByteArray).size := by omega
      have hsd : (⟨bad.toArray⟩ : ByteArray)[k]'hlt = d := by
        have h2 := (List.getElem?_eq_some_iff.1 hd).2
        rw [ByteArray.getElem_eq_getElem_data]
        simpa using h2
      have HT : Hid (bad.take (k + 1) = bad.take k ++ [d]) := hid_into (by rw [List.take_add_one, hd]; rfl)
      obtain ⟨c, hc⟩ : ∃ c, d.toNat = c := ⟨_, rfl⟩
      have hc256 : c < 256 := by rw [← hc]; exact d.toNat_lt
      have HC := hid_into hc
      clear hd
      by_cases c1 : c < 120
      · have g1 : (c : Int) < 120 := by omega
        go_wp2_with (go_at_call 17; refine (known_any _ HT0.out.tp).mono ?_; rintro e w5 ⟨rfl, B5⟩)
        go_ret
        exact ⟨rfl, B5⟩
      · have g1 : ¬ (c : Int) < 120 := by omega
        by_cases c2 : 122 < c
        · have g2 : (122 : Int) < (c : Int) := by omega
          go_wp2_with (go_at_call 17; refine (known_any _ HT0.out.tp).mono ?_; rintro e w5 ⟨rfl, B5⟩)
          go_ret
          exact ⟨rfl, B5⟩
        · have g2 : ¬ (122 : Int) < (c : Int) := by omega
          have HK2 : Hid (∀ c ∈ bad.take (k + 1), 120 ≤ c.toNat ∧ c.toNat ≤ 122) := hid_into (by
            rw [HT.out]
            intro y hy
            rcases List.mem_append.1 hy with hy | hy
            · exact HK.out y hy
            · rw [List.mem_singleton.1 hy, HC.out]; omega)
          clear HK HT HC
          go_wp2_with fail
          go_roundw
          case rel => exact ⟨k + 1, by omega, by go_num, HK2, trivial⟩
          case measure => simp [intOf]; omega
    · obtain rfl : k = nb := by omega
      have HBAD : Hid (∀ c ∈ bad, 120 ≤ c.toNat ∧ c.toNat ≤ 122) := hid_into (by have := HK.out; rw [← HNB.out, List.take_length] at this; exact this)
      clear HK
      by_cases hok : (chk l).2 = 0
      · have hO : Okp l := hok
        rw [show prnL l = textL l from if_pos hok, hok] at C13
        by_cases hb0 : bad = []
        · have hbq : (bad == []) = true := by simp [hb0]
          go_wp2_with (first
            | (go_at_call 13; refine (C13 _ HL0.out HT0.out.tp).mono ?_; rintro e w1 ⟨rfl, B1⟩; have HB1 := hid_into B1)
            | (go_at_call 17; refine (known_any _ (HT0.out.tp.below HB1.out (Nat.le_refl _))).mono ?_; rintro e w5 ⟨rfl, B5⟩))
          go_ret
          exact ⟨rfl, HB1.out.trans (B5.mono HB1.out.size)⟩
        · have hbq : (bad == []) = false := by simp [hb0]
          obtain ⟨A, hA, hA2⟩ := and16 at_
          obtain ⟨c, hc⟩ : ∃ c : Nat, c = A % (l.length + 1) := ⟨_, rfl⟩
          have hcl : c ≤ l.length := by have := Nat.mod_lt A (show 0 < l.length + 1 by omega); omega
          have q1 : (A : Int).tmod ((l.length : Int) + 1) = (c : Int) := by rw [Int.tmod_eq_emod_of_nonneg (by omega), hc]; simp
          have q2 : IntKind.i64.wrap (c : Int) = (c : Int) := by rw [IntKind.wrap_i64]; omega
          have q3 : ¬ ((l.length : Int) + 1 = 0) := by omega
          have q4 : ¬ (l.length + 1 = 0) := by omega
          have htl : (textL l).length ≤ 5600 := by have := textL_len l hO.in64; omega
          have HSC : Hid (scanF c 0 0 0 (textL l) = (l.length, (textL (l.take c)).length)) := hid_into (by
            rw [scanF_text c l 0 0 0 fun x hx => mayI_op (hO.may x hx)]
            simp only [Nat.zero_add, Nat.sub_zero]
            by_cases h0 : c = 0
            · subst h0
              rw [if_neg (by omega)]
              simp [textL]
            · rw [if_pos (by omega)])
          have HPS := hid_into (parS_bad hO (by omega) HBAD.out hcl)
          have HTX : Hid (textL l = textL (l.take c) ++ textL (l.drop c)) := hid_into (by rw [← textL_app, List.take_append_drop])
          clear hc hok hO hA2 hb0
          generalize textL l = tx at *
          generalize textL (l.take c) = pre at *
          generalize textL (l.drop c) = suf at *
          have zt : (⟨tx.toArray⟩ : ByteArray).size = tx.length := by simp [ByteArray.size]
          obtain ⟨nt, hnt⟩ : ∃ nt : Nat, nt = tx.length := ⟨_, rfl⟩
          have HNT : Hid (tx.length = nt) := hid_into hnt.symm
          rw [← hnt] at zt htl
          clear hnt
          go_wp2_with (first
            | (go_at_call 13; refine (C13 _ HL0.out HT0.out.tp).mono ?_; rintro e w1 ⟨rfl, B1⟩; have HB1 := hid_into B1; clear B1))
          go_loopw [10, 11, 13] (fun n k i wr => ∃ nn kk ii : Nat, ii ≤ nt ∧ nn ≤ ii ∧ kk ≤ ii ∧ n = .int .i64 (nn : Int) ∧ k = .int .i64 (kk : Int) ∧ i = .int .i64 (ii : Int) ∧ Hid (scanF c nn kk ii (tx.drop ii) = (l.length, pre.length)) ∧ wr = w1) (fun _ _ i _ => nt - (intOf i).toNat)
          case atStart => exact ⟨0, 0, 0, by omega, by omega, by omega, rfl, rfl, rfl, hid_into (by rw [List.drop_zero]; exact HSC.out), rfl⟩
          case round =>
            clear HSC
            obtain ⟨nn, kk, ii, hi1, hi2, hi3, rfl, rfl, rfl, HS, rfl⟩ := hrel
            by_cases hin : ii < nt
            · obtain ⟨d, hd⟩ : ∃ d, tx[ii]? = some d := ⟨_, List.getElem?_eq_getElem (by have := HNT.out; omega)⟩
              have f3 : (ii : Int) < (nt : Int) := by omega
              have hlt : ii < (⟨tx.toArray⟩ : ByteArray).size := by omega
              have hsd : (⟨tx.toArray⟩ : ByteArray)[ii]'hlt = d := by
                have h2 := (List.getElem?_eq_some_iff.1 hd).2
                rw [ByteArray.getElem_eq_getElem_data]
                simpa using h2
              have HDR : Hid (tx.drop ii = d :: tx.drop (ii + 1)) := hid_into (by
                have hlt' := (List.getElem?_eq_some_iff.1 hd).1
                rw [List.drop_eq_getElem_cons hlt', (List.getElem?_eq_some_iff.1 hd).2])
              clear hd
              by_cases hd10 : d = 10
              · have HS2 : Hid (scanF c (nn + 1) (if nn + 1 = c then ii + 1 else kk) (ii + 1) (tx.drop (ii + 1)) = (l.length, pre.length)) := hid_into (by
                  have := HS.out
                  rw [HDR.out, scanF, if_pos hd10] at this
                  exact this)
                subst hd10
                clear HS HDR
                by_cases hnc : nn + 1 = c
                · have g1 : ((nn : Int) + 1 == (c : Int)) = true := by simp; omega
                  rw [if_pos hnc] at HS2
                  clear hnc
                  go_wp2_with fail
                  go_roundw
                  case rel => exact ⟨nn + 1, ii + 1, ii + 1, by omega, by omega, by omega, by go_num, by go_num, by go_num, HS2, trivial⟩
                  case measure => simp [intOf]; omega
                · have g1 : ((nn : Int) + 1 == (c : Int)) = false := by simp; omega
                  rw [if_neg hnc] at HS2
                  clear hnc
                  go_wp2_with fail
                  go_roundw
                  case rel => exact ⟨nn + 1, kk, ii + 1, by omega, by omega, by omega, by go_num, rfl, by go_num, HS2, trivial⟩
                  case measure => simp [intOf]; omega
              · have HS2 : Hid (scanF c nn kk (ii + 1) (tx.drop (ii + 1)) = (l.length, pre.length)) := hid_into (by
                  have := HS.out
                  rw [HDR.out, scanF, if_neg hd10] at this
                  exact this)
                obtain ⟨dc, hdc⟩ : ∃ dc, d.toNat = dc := ⟨_, rfl⟩
                have hdn : dc ≠ 10 := fun e => hd10 (by
                  have h10 : d.toNat = (10 : UInt8).toNat := by rw [hdc, e]; rfl
                  exact UInt8.toNat_inj.1 h10)
                have g1 : ((dc : Int) == 10) = false := by simp; omega
                clear HS HDR hd10 hdn
                go_wp2_with fail
                go_roundw
                case rel => exact ⟨nn, kk, ii + 1, by omega, by omega, by omega, rfl, rfl, by go_num, HS2, trivial⟩
                case measure => simp [intOf]; omega
            · obtain rfl : ii = nt := by omega
              have hfin : (nn, kk) = (l.length, pre.length) := by
                have := HS.out
                rw [List.drop_eq_nil_of_le (by have := HNT.out; omega), scanF] at this
                exact this
              simp only [Prod.mk.injEq] at hfin
              obtain ⟨rfl, rfl⟩ := hfin
              have hkn : pre.length + suf.length = ii := by have := HNT.out; rw [HTX.out, List.length_append] at this; exact this
              have hx1 : (⟨tx.toArray⟩ : ByteArray).extract 0 pre.length = ⟨pre.toArray⟩ := by
                rw [HTX.out, Lib.extract_mk]
                congr 2
                simp
              have hx2 : (⟨tx.toArray⟩ : ByteArray).extract pre.length ii = ⟨suf.toArray⟩ := by
                rw [HTX.out, Lib.extract_mk, ← hkn]
                congr 2
                simp
              have zp : (⟨pre.toArray⟩ : ByteArray).size = pre.length := by simp [ByteArray.size]
              have zs : (⟨suf.toArray⟩ : ByteArray).size = suf.length := by simp [ByteArray.size]
              have z1 : (⟨#[10]⟩ : ByteArray).size = 1 := rfl
              have s1 : ((⟨pre.toArray⟩ : ByteArray) ++ ⟨bad.toArray⟩).size = pre.length + k := by rw [ByteArray.size_append, zp, zb]
              have s2 : ((⟨pre.toArray⟩ : ByteArray) ++ ⟨bad.toArray⟩ ++ ⟨#[10]⟩).size = pre.length + k + 1 := by rw [ByteArray.size_append, s1]; rfl
              have HJ : Hid ((⟨pre.toArray⟩ : ByteArray) ++ ⟨bad.toArray⟩ ++ ⟨#[10]⟩ ++ ⟨suf.toArray⟩ = ⟨(pre ++ (bad ++ 10 :: suf)).toArray⟩) := hid_into (by
                rw [show (⟨#[10]⟩ : ByteArray) = ⟨([10] : List UInt8).toArray⟩ from rfl, ByteArray.mk_append_mk, ByteArray.mk_append_mk, ByteArray.mk_append_mk]
                simp)
              have CP : ∀ W, Tt W → Calls Tryd.prog 22 #[.string ((⟨pre.toArray⟩ : ByteArray) ++ ⟨bad.toArray⟩ ++ ⟨#[10]⟩ ++ ⟨suf.toArray⟩)] W fun e w' => ∃ rv, e = .returned (.tuple #[rv, .int .i64 (c : Int), .int .i64 19]) ∧ Ls w' rv [] ∧ Below W.heap.size W w' := fun W hW => by
                have h1 := parse_any (pre ++ (bad ++ 10 :: suf)) (by have := HNB.out; simp; omega) W hW
                rw [HPS.out] at h1
                rw [HJ.out]
                exact h1
              have HCP := hid_into CP
              obtain ⟨pl, hpl⟩ : ∃ pl : Nat, pl = pre.length := ⟨_, rfl⟩
              rw [← hpl] at hx1 hx2 zp s1 s2 hkn hi3
              rw [← hpl]
              have u1 : ¬ 9223372036854775807 < pl + k := by omega
              have u2 : ¬ 9223372036854775807 < pl + k + 1 := by omega
              have u3 : ¬ 9223372036854775807 < pl + k + 1 + suf.length := by omega
              clear HS hpl CP HTX HPS HJ HNT
              have b1 : (pl : Int) ≤ (ii : Int) := by omega
              have b2 : (0 : Int) ≤ (pl : Int) := by omega
              have b3 : pl ≤ ii := by omega
              have hTd := HT0.out.below (w' := wr.drew) (HB1.out.trans ((Below.refl _ _).drew)) (Nat.le_refl _)
              go_wp2_with fail
              go_region_held3 (fun _ => True) (trivial)
                (first
                  | (go_at_call 22; refine (HCP.out _ hTd).mono ?_; rintro e w6 ⟨rv, rfl, h6, B6⟩; obtain ⟨ao6, cap6, rfl, _⟩ := h6.len; have HB6 := hid_into ((HB1.out.trans ((Below.refl _ _).drew)).trans (B6.mono HB1.out.size)); clear h6 B6))
              go_wp2_with (go_at_call 17; refine (known_any _ (HT0.out.tp.below HB6.out (Nat.le_refl _))).mono ?_; rintro e w7 ⟨rfl, B7⟩)
              go_ret
              exact ⟨rfl, HB6.out.trans (B7.mono HB6.out.size)⟩
      · generalize chk l = c at *
        generalize prnL l = tx at *
        have hne : (c.2 != 0) = true := by simp [hok]
        go_wp2_with (first
          | (go_at_call 13; refine (C13 _ HL0.out HT0.out.tp).mono ?_; rintro e w1 ⟨rfl, B1⟩; have HB1 := hid_into B1)
          | (go_at_call 17; refine (known_any _ (HT0.out.tp.below HB1.out (Nat.le_refl _))).mono ?_; rintro e w5 ⟨rfl, B5⟩))
        go_ret
        exact ⟨rfl, HB1.out.trans (B5.mono HB1.out.size)⟩
end Go.Proofs.YtddmnpfebajnmaaDoor
