/-
  The document's ReadLine, walked: a line without a blank, or with one.
-/
import Derived.Test.YtddmnpfebajnmaaDoorRReadP
import Derived.Test.YtddmnpfebajnmaaDoorRLine
import Derived.Lib.TrimByte
namespace Go.Proofs.YtddmnpfebajnmaaDoor
open Go.RowKit
set_option maxRecDepth 20000 in
set_option maxHeartbeats 8000000 in
theorem rread_more (ln nm num : List UInt8) (hC : Cu ln nm num) (hl : ln.length ≤ 1000000) (hyp : nm.length < ln.length) (w : World) :
    Calls Tryd.prog 45 #[.string ⟨ln.toArray⟩] w (RdPost ln w) := by
  have HC := hid_into hC
  have hx0 : (⟨ln.toArray⟩ : ByteArray).extract 0 nm.length = ⟨nm.toArray⟩ := by
    rw [Lib.extract_mk]
    congr 2
    rw [Nat.sub_zero, List.drop_zero]
    exact hC.take
  have zl : (⟨ln.toArray⟩ : ByteArray).size = ln.length := by simp [ByteArray.size]
  have hpl := hC.len
  obtain ⟨nl, hnl⟩ : ∃ nl : Nat, nl = ln.length := ⟨_, rfl⟩
  have HNL : Hid (ln.length = nl) := hid_into hnl.symm
  obtain ⟨np, hnp⟩ : ∃ np : Nat, np = nm.length := ⟨_, rfl⟩
  have HNP : Hid (nm.length = np) := hid_into hnp.symm
  have HR0 : Hid (Cw (w.alloc (.cells #[.int .i64 0, .int .i64 0] 60)) w.heap.size [.int .i64 0, .int .i64 0] 60) := Cw.new w _ _
  have HA : Hid (Below w.heap.size w (w.alloc (.cells #[.int .i64 0, .int .i64 0] 60))) := (Below.refl _ _).alloc (Nat.le_refl _) _
  rw [← hnl] at zl hpl hl hyp
  rw [← hnp] at hpl hx0 hyp
  have b0 : (np : Int) ≤ (nl : Int) := by omega
  clear hnl hnp hC
  obtain ⟨nr, hnr⟩ : ∃ nr, nr = namesR := ⟨_, rfl⟩
  have CN : ∀ W, Calls Tryd.prog 56 #[] W fun e w' => e = .returned (.slice (some ⟨W.heap.size, 0, none⟩) 23 23) ∧ w' = W.alloc (.cells nr.toArray 9) := by rw [hnr]; exact names_any
  have HNR : Hid (nr = namesR) := hid_into hnr
  clear hnr
  go_enter Tryd.func45, Tryd.ntmps45
  go_wp2_with fail
  go_loopw [4] (fun i wr => ∃ k : Nat, k ≤ np ∧ i = .int .i64 (k : Int) ∧ wr = w.alloc (.cells #[.int .i64 0, .int .i64 0] 60)) (fun i _ => np - (intOf i).toNat)
  case atStart => exact ⟨0, by omega, rfl, rfl⟩
  case round =>
    obtain ⟨k, hk, rfl, rfl⟩ := hrel
    by_cases hkn : k < np
    · obtain ⟨d, hd⟩ : ∃ d, ln[k]? = some d := ⟨_, List.getElem?_eq_getElem (by have := HNL.out; omega)⟩
      have f3 : (k : Int) < (nl : Int) := by omega
      have hlt : k < (⟨ln.toArray⟩ : ByteArray).size := by omega
      have hsd : (⟨ln.toArray⟩ : ByteArray)[k]'hlt = d := by
        have h2 := (List.getElem?_eq_some_iff.1 hd).2
        rw [ByteArray.getElem_eq_getElem_data]
        simpa using h2
      obtain ⟨c, hc⟩ : ∃ c, d.toNat = c := ⟨_, rfl⟩
      have hne : c ≠ 32 := fun e => HC.out.ne (by have := HNP.out; omega) hd (by
        have h10 : d.toNat = (32 : UInt8).toNat := by rw [hc, e]; rfl
        exact UInt8.toNat_inj.1 h10)
      have g1 : ((c : Int) != 32) = true := by simp; omega
      have g2 : ((c : Int) == 32) = false := by simp; omega
      clear hd hne
      go_wp2_with fail
      go_roundw
      case rel => exact ⟨k + 1, by omega, by go_num, trivial⟩
      case measure => simp [intOf]; omega
    · obtain rfl : k = np := by omega
      have hd : ln[k]? = some 32 := by
        rw [HC.out.more (by rw [HNP.out, HNL.out]; exact hyp), List.getElem?_append_right (by rw [HNP.out]; exact Nat.le_refl _), HNP.out]
        simp
      have f3 : (k : Int) < (nl : Int) := by omega
      have hlt : k < (⟨ln.toArray⟩ : ByteArray).size := by omega
      have hsd : (⟨ln.toArray⟩ : ByteArray)[k]'hlt = 32 := by
        have h2 := (List.getElem?_eq_some_iff.1 hd).2
        rw [ByteArray.getElem_eq_getElem_data]
        simpa using h2
      clear hd
      go_wp2_with (go_at_call 56; refine (CN _).mono ?_; rintro e w3 ⟨rfl, rfl⟩)
      have HN3 : Hid (Cw ((w.alloc (.cells #[.int .i64 0, .int .i64 0] 60)).alloc (.cells nr.toArray 9)) (w.heap.size + 1) nr 9) := by
        have := Cw.new (w.alloc (.cells #[.int .i64 0, .int .i64 0] 60)) nr 9
        rw [World.size_alloc] at this
        exact this
      have HR3 := hid_into (HR0.out.alloc (.cells nr.toArray 9))
      have HB3 : Hid (Below w.heap.size w ((w.alloc (.cells #[.int .i64 0, .int .i64 0] 60)).alloc (.cells nr.toArray 9))) := HA.out.alloc (by simp) _
      generalize hW3 : (w.alloc (.cells #[.int .i64 0, .int .i64 0] 60)).alloc (.cells nr.toArray 9) = W3 at *
      clear hW3 HR0 HA CN
      go_loopw [6, 7] (fun o i wr => ∃ oo ii : Nat, 1 ≤ ii ∧ ii ≤ 23 ∧ o = .int .i64 (oo : Int) ∧ i = .int .i64 (ii : Int) ∧ Hid ((oo = 0 ∧ ∀ j, 1 ≤ j → j < ii → nameL j ≠ nm) ∨ (1 ≤ oo ∧ oo < ii ∧ nameL oo = nm)) ∧ Hid (Sm W3 wr)) (fun _ i _ => 23 - (intOf i).toNat)
      case atStart => exact ⟨0, 1, by omega, by omega, rfl, rfl, hid_into (Or.inl ⟨rfl, fun j h1 h2 => absurd h2 (by omega)⟩), hid_into (Sm.refl _)⟩
      case round =>
        obtain ⟨oo, ii, hi1, hi2, rfl, rfl, HO, HS⟩ := hrel
        by_cases hin : ii < 23
        · have t0 : wr.cell? ⟨w.heap.size + 1, ii, none⟩ = some (.string ⟨(nameL ii).toArray⟩) := by
            rw [World.cell?_of_block (w := W3) (by rw [HS.out.heap])]
            have := HN3.out.cell ii
            rw [HNR.out, namesR_at ii (by omega)] at this
            exact this
          have e23 : (ii : Int) < 23 := by omega
          by_cases hn : nameL ii = nm
          · have HO2 : Hid ((ii = 0 ∧ ∀ j, 1 ≤ j → j < ii + 1 → nameL j ≠ nm) ∨ (1 ≤ ii ∧ ii < ii + 1 ∧ nameL ii = nm)) := hid_into (Or.inr ⟨hi1, by omega, hn⟩)
            rw [hn] at t0
            clear HO hn
            go_wp2_with fail
            go_quiet (fail)
            go_wp2_with fail
            go_roundw
            case rel => exact ⟨ii, ii + 1, by omega, by omega, rfl, by go_num, HO2, hid_into (HS.out.trans (Sm.drewN _ _))⟩
            case measure => simp [intOf]; omega
          · have HO2 : Hid ((oo = 0 ∧ ∀ j, 1 ≤ j → j < ii + 1 → nameL j ≠ nm) ∨ (1 ≤ oo ∧ oo < ii + 1 ∧ nameL oo = nm)) := hid_into (by
              rcases HO.out with ⟨a1, a2⟩ | ⟨a1, a2, a3⟩
              · refine Or.inl ⟨a1, fun j h1 h2 => ?_⟩
                by_cases hj : j = ii
                · rw [hj]; exact hn
                · exact a2 j h1 (by omega)
              · exact Or.inr ⟨a1, by omega, a3⟩)
            generalize nameL ii = ni at t0 hn
            have hq : (ni == nm) = false := by simp [hn]
            clear HO
            go_wp2_with fail
            go_quiet (fail)
            go_wp2_with fail
            go_roundw
            case rel => exact ⟨oo, ii + 1, by omega, by omega, rfl, by go_num, HO2, hid_into (HS.out.trans (Sm.drewN _ _))⟩
            case measure => simp [intOf]; omega
        · obtain rfl : ii = 23 := by omega
          have HR4 := hid_into (HS.out.cw HR3.out)
          have HB4 := hid_into (HB3.out.trans (HS.out.below _))
          have HF : Hid (FindA nm oo) := hid_into (by
            rcases HO.out with ⟨a1, a2⟩ | ⟨a1, a2, a3⟩
            · exact Or.inr ⟨a1, fun j h1 h2 => a2 j h1 (by omega)⟩
            · exact Or.inl ⟨a1, by omega, a3⟩)
          have hoo : oo ≤ 22 := by
            rcases HO.out with ⟨a1, a2⟩ | ⟨a1, a2, a3⟩ <;> omega
          clear HO HS HR3 HB3 HN3 HNR
          by_cases ho : oo = 0
          · have HN : Hid (readL ln = none) := hid_into (rd_no1 HC.out (by rw [← ho]; exact HF.out))
            have ho' : ((oo : Int) == 0) = true := by simp [ho]
            clear HF ho
            go_wp2_with (refine wpList_store_rw rfl 60 (.tmp 2) (.tmp 42) rfl w.heap.size [.int .i64 0, .int .i64 0] [.int .i64 0, .int .i64 0] 60 rfl rfl HR4.out (hid_into Tryd.size60) (hid_into rfl) (by simp [Value.oneCell']) ?_; intro W6 hc6 O6; have HB6 := hid_into (HB4.out.trans (O6.below (Nat.le_refl _))))
            exact ret_row2 rfl rfl rfl hc6 Tryd.underlying60 rfl (hid_into Tryd.size60) (RdPost.mk rfl (ReadP.no HN.out) HB6.out)
          · have ho' : ((oo : Int) == 0) = false := by simp; omega
            have ho1 : 1 ≤ oo := by omega
            have CH := rhas_any (oo : Int)
            cases hs : hasA (oo : Int) with
            | false =>
              have HE := hid_into (rd_plain HC.out HF.out ho1 hoo hs)
              rw [hs] at CH
              clear HF hs
              go_wp2_with (first
                | (go_at_call 31; refine (CH _).mono ?_; rintro e w5 ⟨rfl, rfl⟩)
                | (refine wpList_store_rw rfl 60 (.tmp 2) (.tmp 47) rfl w.heap.size [.int .i64 0, .int .i64 0] [.int .i64 (oo : Int), .int .i64 0] 60 rfl rfl HR4.out (hid_into Tryd.size60) (hid_into rfl) (by simp [Value.oneCell']) ?_; intro W6 hc6 O6; have HB6 := hid_into (HB4.out.trans (O6.below (Nat.le_refl _)))))
              refine ret_row2 rfl rfl rfl hc6 Tryd.underlying60 rfl (hid_into Tryd.size60) (RdPost.mk (o := (oo : Int)) (a := 0) (ok := false) ?_ ?_ HB6.out)
              · simp [Array.getD]; omega
              · exact ReadP.no (by rw [HE.out, if_neg (by rw [HNP.out, HNL.out]; omega)])
            | true =>
              rw [hs] at CH
              have hll : k + 1 + num.length = nl := by have := HNL.out; rw [HC.out.more (by rw [HNP.out, HNL.out]; exact hyp)] at this; simp at this; have := HNP.out; omega
              by_cases hlong : 11 < num.length
              · have HN : Hid (readL ln = none) := hid_into (rd_no2 HC.out hlong)
                have e1 : ((k : Int) == (nl : Int)) = false := by simp; omega
                have e2 : (11 : Int) < (nl : Int) - (k : Int) - 1 := by omega
                clear HF hs
                go_wp2_with (first
                  | (go_at_call 31; refine (CH _).mono ?_; rintro e w5 ⟨rfl, rfl⟩)
                  | (refine wpList_store_rw rfl 60 (.tmp 2) (.tmp 64) rfl w.heap.size [.int .i64 0, .int .i64 0] [.int .i64 0, .int .i64 0] 60 rfl rfl HR4.out (hid_into Tryd.size60) (hid_into rfl) (by simp [Value.oneCell']) ?_; intro W6 hc6 O6; have HB6 := hid_into (HB4.out.trans (O6.below (Nat.le_refl _)))))
                exact ret_row2 rfl rfl rfl hc6 Tryd.underlying60 rfl (hid_into Tryd.size60) (RdPost.mk rfl (ReadP.no HN.out) HB6.out)
              · have HLn : Hid (num.length ≤ 11) := by show _ ≤ _; omega
                have e1 : ((k : Int) == (nl : Int)) = false := by simp; omega
                have e2 : ¬ (11 : Int) < (nl : Int) - (k : Int) - 1 := by omega
                have HHS := hid_into hs
                have HNM : Hid (nm.length < ln.length) := hid_into (by rw [HNP.out, HNL.out]; exact hyp)
                have hx1 : (⟨ln.toArray⟩ : ByteArray).extract (k + 1) nl = ⟨num.toArray⟩ := by
                  rw [Lib.extract_mk]
                  congr 2
                  rw [HC.out.more HNM.out, ← HNP.out, show nm.length + 1 = (nm ++ [32]).length by simp, show nm ++ 32 :: num = (nm ++ [32]) ++ num by simp, List.drop_left]
                  exact List.take_of_length_le (by have := HNP.out; simp; omega)
                have b1 : (1 : Int) ≤ (k : Int) + 1 := by omega
                have b2 : (k : Int) + 1 ≤ (nl : Int) := by omega
                have b3 : k + 1 ≤ nl := by omega
                have zn : (⟨num.toArray⟩ : ByteArray).size = num.length := by simp [ByteArray.size]
                obtain ⟨mm, hmm⟩ : ∃ mm : Nat, mm = num.length := ⟨_, rfl⟩
                have HMM : Hid (num.length = mm) := hid_into hmm.symm
                rw [← hmm] at zn hlong hll
                clear hmm hs
                by_cases hneg : ∃ t, num = 45 :: t
                · obtain ⟨t, ht⟩ := hneg
                  have HSG : Hid (num = sgn true t) := hid_into (by rw [ht]; rfl)
                  obtain ⟨tl, htl⟩ : ∃ tl : Nat, tl = t.length := ⟨_, rfl⟩
                  have HTL : Hid (t.length = tl) := hid_into htl.symm
                  have hmt : mm = tl + 1 := by have := HMM.out; rw [ht] at this; simp at this; omega
                  have zt : (⟨t.toArray⟩ : ByteArray).size = tl := by simp [ByteArray.size, HTL.out]
                  have hx2 : (⟨num.toArray⟩ : ByteArray).extract 1 mm = ⟨t.toArray⟩ := by
                    rw [Lib.extract_mk, ht]
                    congr 2
                    simp only [List.drop_succ_cons, List.drop_zero]
                    exact List.take_of_length_le (by have := HTL.out; omega)
                  have hlt0 : 0 < (⟨num.toArray⟩ : ByteArray).size := by omega
                  have hsd0 : (⟨num.toArray⟩ : ByteArray)[0]'hlt0 = 45 := by
                    rw [ByteArray.getElem_eq_getElem_data]
                    simp [ht]
                  have htl11 : tl ≤ 11 := by omega
                  have e3 : (0 : Int) < (mm : Int) := by omega
                  have e4 : (1 : Int) ≤ (mm : Int) := by omega
                  have e5 : 1 ≤ mm := by omega
                  clear htl ht hmt
                  go_wp2_with (first
                    | (go_at_call 31; refine (CH _).mono ?_; rintro e w5 ⟨rfl, rfl⟩))
                  go_loopw [10, 11] (fun v i wx => ∃ V ii : Nat, ii ≤ tl ∧ v = .int .i64 (V : Int) ∧ i = .int .i64 (ii : Int) ∧ Hid (Lib.decFrom 0 (t.take ii) = some V) ∧ wx = w5) (fun _ i _ => tl - (intOf i).toNat)
                  case atStart => exact ⟨0, 0, by omega, rfl, rfl, hid_into rfl, rfl⟩
                  case round =>
                    obtain ⟨V, ii, hii, rfl, rfl, HV, hwx⟩ := hrel
                    replace hwx := hwx.symm
                    subst hwx
                    have hVb : V < 100000000000 := by
                      have h1 := decFrom_lt (t.take ii) 0 V 0 HV.out (by decide)
                      have h2 : (t.take ii).length ≤ 11 := by rw [List.length_take]; have := HTL.out; omega
                      refine Nat.lt_of_lt_of_le h1 ?_
                      rw [Nat.zero_add]
                      exact Nat.pow_le_pow_right (n := 10) (by omega) h2
                    by_cases hit : ii < tl
                    · obtain ⟨d, hd⟩ : ∃ d, t[ii]? = some d := ⟨_, List.getElem?_eq_getElem (by have := HTL.out; omega)⟩
                      have f4 : (ii : Int) < (tl : Int) := by omega
                      have hlt4 : ii < (⟨t.toArray⟩ : ByteArray).size := by omega
                      have hsd4 : (⟨t.toArray⟩ : ByteArray)[ii]'hlt4 = d := by
                        have h2 := (List.getElem?_eq_some_iff.1 hd).2
                        rw [ByteArray.getElem_eq_getElem_data]
                        simpa using h2
                      have HT1 : Hid (t.take (ii + 1) = t.take ii ++ [d]) := hid_into (by rw [List.take_add_one, hd]; rfl)
                      have HMem := hid_into (List.mem_of_getElem? hd)
                      obtain ⟨c, hc⟩ : ∃ c, d.toNat = c := ⟨_, rfl⟩
                      have hc256 : c < 256 := by rw [← hc]; exact d.toNat_lt
                      have HCc := hid_into hc
                      clear hd
                      by_cases c1 : c < 48
                      · have g1 : (c : Int) < 48 := by omega
                        have HN : Hid (readL ln = none) := hid_into (rd_nondig HC.out HF.out HHS.out HSG.out (fun h => absurd h (by decide)) HMem.out (Or.inl (by rw [HCc.out]; exact c1)))
                        go_wp2_with (first
                          | (refine wpList_store_rw rfl 60 (.tmp 2) (.tmp 96) rfl w.heap.size [.int .i64 0, .int .i64 0] [.int .i64 0, .int .i64 0] 60 rfl rfl HR4.out (hid_into Tryd.size60) (hid_into rfl) (by simp [Value.oneCell']) ?_; intro W6 hc6 O6; have HB6 := hid_into (HB4.out.trans (O6.below (Nat.le_refl _)))))
                        exact ret_row2 rfl rfl rfl hc6 Tryd.underlying60 rfl (hid_into Tryd.size60) (RdPost.mk rfl (ReadP.no HN.out) HB6.out)
                      · have g1 : ¬ (c : Int) < 48 := by omega
                        by_cases c2 : 57 < c
                        · have g2 : (57 : Int) < (c : Int) := by omega
                          have HN : Hid (readL ln = none) := hid_into (rd_nondig HC.out HF.out HHS.out HSG.out (fun h => absurd h (by decide)) HMem.out (Or.inr (by rw [HCc.out]; exact c2)))
                          go_wp2_with (first
                            | (refine wpList_store_rw rfl 60 (.tmp 2) (.tmp 96) rfl w.heap.size [.int .i64 0, .int .i64 0] [.int .i64 0, .int .i64 0] 60 rfl rfl HR4.out (hid_into Tryd.size60) (hid_into rfl) (by simp [Value.oneCell']) ?_; intro W6 hc6 O6; have HB6 := hid_into (HB4.out.trans (O6.below (Nat.le_refl _)))))
                          exact ret_row2 rfl rfl rfl hc6 Tryd.underlying60 rfl (hid_into Tryd.size60) (RdPost.mk rfl (ReadP.no HN.out) HB6.out)
                        · have g2 : ¬ (57 : Int) < (c : Int) := by omega
                          obtain ⟨z, hz⟩ : ∃ z : Nat, z = V * 10 + (c - 48) := ⟨_, rfl⟩
                          have q5 : wrap64 ((V : Int) * 10 + (c : Int) - 48) = (z : Int) := by unfold wrap64; omega
                          have HQ : Hid ((V : Int) * 10 + (c : Int) - 48 = (z : Int)) := hid_into (by omega)
                          have HV2 : Hid (Lib.decFrom 0 (t.take (ii + 1)) = some z) := hid_into (by
                            rw [HT1.out, hz]
                            refine decFrom_snoc _ _ _ _ _ HV.out ?_
                            unfold Lib.digitVal
                            rw [HCc.out, if_pos (by omega)])
                          clear HV HT1 HMem HCc hz
                          go_wp2_with fail
                          go_roundw
                          case rel => exact ⟨z, ii + 1, by omega, congrArg (Value.int .i64) HQ.out, by go_num, HV2, trivial⟩
                          case measure => simp [intOf]; omega
                    · obtain rfl : ii = tl := by omega
                      have HVt : Hid (Lib.decFrom 0 t = some V) := hid_into (by have := HV.out; rw [← HTL.out, List.take_length] at this; exact this)
                      have HE : Hid (readL ln = if Lib.itoa (-(V : Int)) = num then some ((oo : Int), (-(V : Int))) else none) := hid_into (rd_num HC.out HF.out ho1 hoo HHS.out HLn.out HNM.out HSG.out (fun h => absurd h (by decide)) HVt.out (v := (-(V : Int))) (by simp))
                      have C57 := fun W => whole_any (-(V : Int)) ⟨by omega, by omega⟩ W
                      generalize hiv : Lib.itoa (-(V : Int)) = iv at HE C57
                      clear HV HVt hiv HF HSG HHS
                      have q7 : wrap64 (-(V : Int)) = -(V : Int) := by unfold wrap64; omega
                      obtain ⟨k1, hk1⟩ : ∃ k1 : Nat, k1 = k + 1 := ⟨_, rfl⟩
                      have w1 : IntKind.i64.wrap ((k : Int) + 1) = (k1 : Int) := by rw [IntKind.wrap_i64]; omega
                      have hx5 : (⟨ln.toArray⟩ : ByteArray).extract k1 nl = ⟨num.toArray⟩ := by rw [hk1]; exact hx1
                      have b4 : (k1 : Int) ≤ (nl : Int) := by omega
                      have b5 : (0 : Int) ≤ (k1 : Int) := by omega
                      have b6 : k1 ≤ nl := by omega
                      clear hk1 hx1 b2 b3
                      by_cases hq : iv = num
                      · have hq1 : (iv != num) = false := by simp [hq]
                        have hq2 : (iv == num) = true := by simp [hq]
                        have HP : Hid (ReadP ln (oo : Int) (-(V : Int)) true) := hid_into (by unfold ReadP; rw [HE.out, if_pos hq]; exact ⟨rfl, rfl⟩)
                        clear HE hq
                        go_wp2_with fail
                        go_region_held3 (fun _ => True) (trivial)
                          (first
                            | (go_at_call 57; refine (C57 _).mono ?_; rintro e w7 ⟨rfl, B7⟩; have B7' := below_undrew B7; have HR7 := hid_into (HR4.out.below B7' HR4.out.lt); have HB7 := hid_into (HB4.out.trans (B7'.mono HB4.out.size)); clear B7 B7'))
                        have r0 := HR7.out.cell 0
                        have r1 := HR7.out.cell 1
                        have f0 := HR7.out.frozen 0
                        have f1 := HR7.out.frozen 1
                        simp only [List.getElem?_cons_succ, List.getElem?_cons_zero] at r0 r1
                        have HRf : Hid (Cw ((w7.setCell ⟨w.heap.size, 0, none⟩ (.int .i64 (oo : Int))).setCell ⟨w.heap.size, 1, none⟩ (.int .i64 (-(V : Int)))) w.heap.size [.int .i64 (oo : Int), .int .i64 (-(V : Int))] 60) := (HR7.out.set 0 (.int .i64 (oo : Int))).set 1 (.int .i64 (-(V : Int)))
                        have HBf : Hid (Below w.heap.size w ((w7.setCell ⟨w.heap.size, 0, none⟩ (.int .i64 (oo : Int))).setCell ⟨w.heap.size, 1, none⟩ (.int .i64 (-(V : Int))))) := (HB7.out.setCell (p := ⟨w.heap.size, 0, none⟩) (Nat.le_refl _) _).setCell (p := ⟨w.heap.size, 1, none⟩) (Nat.le_refl _) _
                        go_wp2_with fail
                        exact ret_row2 rfl rfl rfl HRf.out Tryd.underlying60 rfl (hid_into Tryd.size60) (RdPost.mk rfl HP.out HBf.out)
                      · have hq1 : (iv != num) = true := by simp [hq]
                        have hq2 : (iv == num) = false := by simp [hq]
                        have HN : Hid (readL ln = none) := hid_into (by rw [HE.out, if_neg hq])
                        clear HE hq
                        go_wp2_with fail
                        go_region_held3 (fun _ => True) (trivial)
                          (first
                            | (go_at_call 57; refine (C57 _).mono ?_; rintro e w7 ⟨rfl, B7⟩; have B7' := below_undrew B7; have HR7 := hid_into (HR4.out.below B7' HR4.out.lt); have HB7 := hid_into (HB4.out.trans (B7'.mono HB4.out.size)); clear B7 B7'))
                        have r0 := HR7.out.cell 0
                        have r1 := HR7.out.cell 1
                        have f0 := HR7.out.frozen 0
                        have f1 := HR7.out.frozen 1
                        simp only [List.getElem?_cons_succ, List.getElem?_cons_zero] at r0 r1
                        have HRf : Hid (Cw ((w7.setCell ⟨w.heap.size, 0, none⟩ (.int .i64 0)).setCell ⟨w.heap.size, 1, none⟩ (.int .i64 0)) w.heap.size [.int .i64 0, .int .i64 0] 60) := (HR7.out.set 0 (.int .i64 0)).set 1 (.int .i64 0)
                        have HBf : Hid (Below w.heap.size w ((w7.setCell ⟨w.heap.size, 0, none⟩ (.int .i64 0)).setCell ⟨w.heap.size, 1, none⟩ (.int .i64 0))) := (HB7.out.setCell (p := ⟨w.heap.size, 0, none⟩) (Nat.le_refl _) _).setCell (p := ⟨w.heap.size, 1, none⟩) (Nat.le_refl _) _
                        go_wp2_with fail
                        exact ret_row2 rfl rfl rfl HRf.out Tryd.underlying60 rfl (hid_into Tryd.size60) (RdPost.mk rfl (ReadP.no HN.out) HBf.out)
                · have HPN : Hid (∀ r, num ≠ 45 :: r) := hid_into (fun r e => hneg ⟨r, e⟩)
                  have HSG : Hid (num = sgn false num) := hid_into rfl
                  obtain ⟨tl, htl⟩ : ∃ tl : Nat, tl = mm := ⟨_, rfl⟩
                  have HTL : Hid (num.length = tl) := hid_into (by rw [HMM.out, htl])
                  have htl11 : tl ≤ 11 := by omega
                  by_cases hm0 : mm = 0
                  · have e3 : ¬ (0 : Int) < (mm : Int) := by omega
                    subst htl
                    clear hneg hm0
                    go_wp2_with (first
                      | (go_at_call 31; refine (CH _).mono ?_; rintro e w5 ⟨rfl, rfl⟩))
                    go_loopw [10, 11] (fun v i wx => ∃ V ii : Nat, ii ≤ tl ∧ v = .int .i64 (V : Int) ∧ i = .int .i64 (ii : Int) ∧ Hid (Lib.decFrom 0 (num.take ii) = some V) ∧ wx = w5) (fun _ i _ => tl - (intOf i).toNat)
                    case atStart => exact ⟨0, 0, by omega, rfl, rfl, hid_into rfl, rfl⟩
                    case round =>
                      obtain ⟨V, ii, hii, rfl, rfl, HV, hwx⟩ := hrel
                      replace hwx := hwx.symm
                      subst hwx
                      have hVb : V < 100000000000 := by
                        have h1 := decFrom_lt (num.take ii) 0 V 0 HV.out (by decide)
                        have h2 : (num.take ii).length ≤ 11 := by rw [List.length_take]; have := HTL.out; omega
                        refine Nat.lt_of_lt_of_le h1 ?_
                        rw [Nat.zero_add]
                        exact Nat.pow_le_pow_right (n := 10) (by omega) h2
                      by_cases hit : ii < tl
                      · obtain ⟨d, hd⟩ : ∃ d, num[ii]? = some d := ⟨_, List.getElem?_eq_getElem (by have := HTL.out; omega)⟩
                        have f4 : (ii : Int) < (tl : Int) := by omega
                        have hlt4 : ii < (⟨num.toArray⟩ : ByteArray).size := by omega
                        have hsd4 : (⟨num.toArray⟩ : ByteArray)[ii]'hlt4 = d := by
                          have h2 := (List.getElem?_eq_some_iff.1 hd).2
                          rw [ByteArray.getElem_eq_getElem_data]
                          simpa using h2
                        have HT1 : Hid (num.take (ii + 1) = num.take ii ++ [d]) := hid_into (by rw [List.take_add_one, hd]; rfl)
                        have HMem := hid_into (List.mem_of_getElem? hd)
                        obtain ⟨c, hc⟩ : ∃ c, d.toNat = c := ⟨_, rfl⟩
                        have hc256 : c < 256 := by rw [← hc]; exact d.toNat_lt
                        have HCc := hid_into hc
                        clear hd
                        by_cases c1 : c < 48
                        · have g1 : (c : Int) < 48 := by omega
                          have HN : Hid (readL ln = none) := hid_into (rd_nondig HC.out HF.out HHS.out HSG.out (fun _ => HPN.out) HMem.out (Or.inl (by rw [HCc.out]; exact c1)))
                          go_wp2_with (first
                            | (refine wpList_store_rw rfl 60 (.tmp 2) (.tmp 96) rfl w.heap.size [.int .i64 0, .int .i64 0] [.int .i64 0, .int .i64 0] 60 rfl rfl HR4.out (hid_into Tryd.size60) (hid_into rfl) (by simp [Value.oneCell']) ?_; intro W6 hc6 O6; have HB6 := hid_into (HB4.out.trans (O6.below (Nat.le_refl _)))))
                          exact ret_row2 rfl rfl rfl hc6 Tryd.underlying60 rfl (hid_into Tryd.size60) (RdPost.mk rfl (ReadP.no HN.out) HB6.out)
                        · have g1 : ¬ (c : Int) < 48 := by omega
                          by_cases c2 : 57 < c
                          · have g2 : (57 : Int) < (c : Int) := by omega
                            have HN : Hid (readL ln = none) := hid_into (rd_nondig HC.out HF.out HHS.out HSG.out (fun _ => HPN.out) HMem.out (Or.inr (by rw [HCc.out]; exact c2)))
                            go_wp2_with (first
                              | (refine wpList_store_rw rfl 60 (.tmp 2) (.tmp 96) rfl w.heap.size [.int .i64 0, .int .i64 0] [.int .i64 0, .int .i64 0] 60 rfl rfl HR4.out (hid_into Tryd.size60) (hid_into rfl) (by simp [Value.oneCell']) ?_; intro W6 hc6 O6; have HB6 := hid_into (HB4.out.trans (O6.below (Nat.le_refl _)))))
                            exact ret_row2 rfl rfl rfl hc6 Tryd.underlying60 rfl (hid_into Tryd.size60) (RdPost.mk rfl (ReadP.no HN.out) HB6.out)
                          · have g2 : ¬ (57 : Int) < (c : Int) := by omega
                            obtain ⟨z, hz⟩ : ∃ z : Nat, z = V * 10 + (c - 48) := ⟨_, rfl⟩
                            have q5 : wrap64 ((V : Int) * 10 + (c : Int) - 48) = (z : Int) := by unfold wrap64; omega
                            have HQ : Hid ((V : Int) * 10 + (c : Int) - 48 = (z : Int)) := hid_into (by omega)
                            have HV2 : Hid (Lib.decFrom 0 (num.take (ii + 1)) = some z) := hid_into (by
                              rw [HT1.out, hz]
                              refine decFrom_snoc _ _ _ _ _ HV.out ?_
                              unfold Lib.digitVal
                              rw [HCc.out, if_pos (by omega)])
                            clear HV HT1 HMem HCc hz
                            go_wp2_with fail
                            go_roundw
                            case rel => exact ⟨z, ii + 1, by omega, congrArg (Value.int .i64) HQ.out, by go_num, HV2, trivial⟩
                            case measure => simp [intOf]; omega
                      · obtain rfl : ii = tl := by omega
                        have HVt : Hid (Lib.decFrom 0 num = some V) := hid_into (by have := HV.out; rw [← HTL.out, List.take_length] at this; exact this)
                        have HE : Hid (readL ln = if Lib.itoa (V : Int) = num then some ((oo : Int), (V : Int)) else none) := hid_into (rd_num HC.out HF.out ho1 hoo HHS.out HLn.out HNM.out HSG.out (fun _ => HPN.out) HVt.out (v := (V : Int)) (by simp))
                        have C57 := fun W => whole_any (V : Int) ⟨by omega, by omega⟩ W
                        generalize hiv : Lib.itoa (V : Int) = iv at HE C57
                        clear HV HVt hiv HF HSG HHS
                        have q7 : wrap64 (-(V : Int)) = -(V : Int) := by unfold wrap64; omega
                        obtain ⟨k1, hk1⟩ : ∃ k1 : Nat, k1 = k + 1 := ⟨_, rfl⟩
                        have w1 : IntKind.i64.wrap ((k : Int) + 1) = (k1 : Int) := by rw [IntKind.wrap_i64]; omega
                        have hx5 : (⟨ln.toArray⟩ : ByteArray).extract k1 nl = ⟨num.toArray⟩ := by rw [hk1]; exact hx1
                        have b4 : (k1 : Int) ≤ (nl : Int) := by omega
                        have b5 : (0 : Int) ≤ (k1 : Int) := by omega
                        have b6 : k1 ≤ nl := by omega
                        clear hk1 hx1 b2 b3
                        by_cases hq : iv = num
                        · have hq1 : (iv != num) = false := by simp [hq]
                          have hq2 : (iv == num) = true := by simp [hq]
                          have HP : Hid (ReadP ln (oo : Int) (V : Int) true) := hid_into (by unfold ReadP; rw [HE.out, if_pos hq]; exact ⟨rfl, rfl⟩)
                          clear HE hq
                          go_wp2_with fail
                          go_region_held3 (fun _ => True) (trivial)
                            (first
                              | (go_at_call 57; refine (C57 _).mono ?_; rintro e w7 ⟨rfl, B7⟩; have B7' := below_undrew B7; have HR7 := hid_into (HR4.out.below B7' HR4.out.lt); have HB7 := hid_into (HB4.out.trans (B7'.mono HB4.out.size)); clear B7 B7'))
                          have r0 := HR7.out.cell 0
                          have r1 := HR7.out.cell 1
                          have f0 := HR7.out.frozen 0
                          have f1 := HR7.out.frozen 1
                          simp only [List.getElem?_cons_succ, List.getElem?_cons_zero] at r0 r1
                          have HRf : Hid (Cw ((w7.setCell ⟨w.heap.size, 0, none⟩ (.int .i64 (oo : Int))).setCell ⟨w.heap.size, 1, none⟩ (.int .i64 (V : Int))) w.heap.size [.int .i64 (oo : Int), .int .i64 (V : Int)] 60) := (HR7.out.set 0 (.int .i64 (oo : Int))).set 1 (.int .i64 (V : Int))
                          have HBf : Hid (Below w.heap.size w ((w7.setCell ⟨w.heap.size, 0, none⟩ (.int .i64 (oo : Int))).setCell ⟨w.heap.size, 1, none⟩ (.int .i64 (V : Int)))) := (HB7.out.setCell (p := ⟨w.heap.size, 0, none⟩) (Nat.le_refl _) _).setCell (p := ⟨w.heap.size, 1, none⟩) (Nat.le_refl _) _
                          go_wp2_with fail
                          exact ret_row2 rfl rfl rfl HRf.out Tryd.underlying60 rfl (hid_into Tryd.size60) (RdPost.mk rfl HP.out HBf.out)
                        · have hq1 : (iv != num) = true := by simp [hq]
                          have hq2 : (iv == num) = false := by simp [hq]
                          have HN : Hid (readL ln = none) := hid_into (by rw [HE.out, if_neg hq])
                          clear HE hq
                          go_wp2_with fail
                          go_region_held3 (fun _ => True) (trivial)
                            (first
                              | (go_at_call 57; refine (C57 _).mono ?_; rintro e w7 ⟨rfl, B7⟩; have B7' := below_undrew B7; have HR7 := hid_into (HR4.out.below B7' HR4.out.lt); have HB7 := hid_into (HB4.out.trans (B7'.mono HB4.out.size)); clear B7 B7'))
                          have r0 := HR7.out.cell 0
                          have r1 := HR7.out.cell 1
                          have f0 := HR7.out.frozen 0
                          have f1 := HR7.out.frozen 1
                          simp only [List.getElem?_cons_succ, List.getElem?_cons_zero] at r0 r1
                          have HRf : Hid (Cw ((w7.setCell ⟨w.heap.size, 0, none⟩ (.int .i64 0)).setCell ⟨w.heap.size, 1, none⟩ (.int .i64 0)) w.heap.size [.int .i64 0, .int .i64 0] 60) := (HR7.out.set 0 (.int .i64 0)).set 1 (.int .i64 0)
                          have HBf : Hid (Below w.heap.size w ((w7.setCell ⟨w.heap.size, 0, none⟩ (.int .i64 0)).setCell ⟨w.heap.size, 1, none⟩ (.int .i64 0))) := (HB7.out.setCell (p := ⟨w.heap.size, 0, none⟩) (Nat.le_refl _) _).setCell (p := ⟨w.heap.size, 1, none⟩) (Nat.le_refl _) _
                          go_wp2_with fail
                          exact ret_row2 rfl rfl rfl HRf.out Tryd.underlying60 rfl (hid_into Tryd.size60) (RdPost.mk rfl (ReadP.no HN.out) HBf.out)
                  · have e3 : (0 : Int) < (mm : Int) := by omega
                    obtain ⟨d0, hd0⟩ : ∃ d, num[0]? = some d := ⟨_, List.getElem?_eq_getElem (by have := HMM.out; omega)⟩
                    have hlt0 : 0 < (⟨num.toArray⟩ : ByteArray).size := by omega
                    have hsd0 : (⟨num.toArray⟩ : ByteArray)[0]'hlt0 = d0 := by
                      have h2 := (List.getElem?_eq_some_iff.1 hd0).2
                      rw [ByteArray.getElem_eq_getElem_data]
                      simpa using h2
                    obtain ⟨c0, hc0⟩ : ∃ c, d0.toNat = c := ⟨_, rfl⟩
                    have n45 : c0 ≠ 45 := fun e => by
                      have h10 : d0 = 45 := UInt8.toNat_inj.1 (by rw [hc0, e]; rfl)
                      cases hnum : num with
                      | nil => rw [hnum] at hd0; simp at hd0
                      | cons y r =>
                        rw [hnum] at hd0
                        simp only [List.getElem?_cons_zero, Option.some.injEq] at hd0
                        exact hneg ⟨r, by rw [hnum, hd0, h10]⟩
                    have m45 : ((c0 : Int) == 45) = false := by simp; omega
                    subst htl
                    clear hneg hm0 hd0 n45
                    go_wp2_with (first
                      | (go_at_call 31; refine (CH _).mono ?_; rintro e w5 ⟨rfl, rfl⟩))
                    go_loopw [10, 11] (fun v i wx => ∃ V ii : Nat, ii ≤ tl ∧ v = .int .i64 (V : Int) ∧ i = .int .i64 (ii : Int) ∧ Hid (Lib.decFrom 0 (num.take ii) = some V) ∧ wx = w5) (fun _ i _ => tl - (intOf i).toNat)
                    case atStart => exact ⟨0, 0, by omega, rfl, rfl, hid_into rfl, rfl⟩
                    case round =>
                      obtain ⟨V, ii, hii, rfl, rfl, HV, hwx⟩ := hrel
                      replace hwx := hwx.symm
                      subst hwx
                      have hVb : V < 100000000000 := by
                        have h1 := decFrom_lt (num.take ii) 0 V 0 HV.out (by decide)
                        have h2 : (num.take ii).length ≤ 11 := by rw [List.length_take]; have := HTL.out; omega
                        refine Nat.lt_of_lt_of_le h1 ?_
                        rw [Nat.zero_add]
                        exact Nat.pow_le_pow_right (n := 10) (by omega) h2
                      by_cases hit : ii < tl
                      · obtain ⟨d, hd⟩ : ∃ d, num[ii]? = some d := ⟨_, List.getElem?_eq_getElem (by have := HTL.out; omega)⟩
                        have f4 : (ii : Int) < (tl : Int) := by omega
                        have hlt4 : ii < (⟨num.toArray⟩ : ByteArray).size := by omega
                        have hsd4 : (⟨num.toArray⟩ : ByteArray)[ii]'hlt4 = d := by
                          have h2 := (List.getElem?_eq_some_iff.1 hd).2
                          rw [ByteArray.getElem_eq_getElem_data]
                          simpa using h2
                        have HT1 : Hid (num.take (ii + 1) = num.take ii ++ [d]) := hid_into (by rw [List.take_add_one, hd]; rfl)
                        have HMem := hid_into (List.mem_of_getElem? hd)
                        obtain ⟨c, hc⟩ : ∃ c, d.toNat = c := ⟨_, rfl⟩
                        have hc256 : c < 256 := by rw [← hc]; exact d.toNat_lt
                        have HCc := hid_into hc
                        clear hd
                        by_cases c1 : c < 48
                        · have g1 : (c : Int) < 48 := by omega
                          have HN : Hid (readL ln = none) := hid_into (rd_nondig HC.out HF.out HHS.out HSG.out (fun _ => HPN.out) HMem.out (Or.inl (by rw [HCc.out]; exact c1)))
                          go_wp2_with (first
                            | (refine wpList_store_rw rfl 60 (.tmp 2) (.tmp 96) rfl w.heap.size [.int .i64 0, .int .i64 0] [.int .i64 0, .int .i64 0] 60 rfl rfl HR4.out (hid_into Tryd.size60) (hid_into rfl) (by simp [Value.oneCell']) ?_; intro W6 hc6 O6; have HB6 := hid_into (HB4.out.trans (O6.below (Nat.le_refl _)))))
                          exact ret_row2 rfl rfl rfl hc6 Tryd.underlying60 rfl (hid_into Tryd.size60) (RdPost.mk rfl (ReadP.no HN.out) HB6.out)
                        · have g1 : ¬ (c : Int) < 48 := by omega
                          by_cases c2 : 57 < c
                          · have g2 : (57 : Int) < (c : Int) := by omega
                            have HN : Hid (readL ln = none) := hid_into (rd_nondig HC.out HF.out HHS.out HSG.out (fun _ => HPN.out) HMem.out (Or.inr (by rw [HCc.out]; exact c2)))
                            go_wp2_with (first
                              | (refine wpList_store_rw rfl 60 (.tmp 2) (.tmp 96) rfl w.heap.size [.int .i64 0, .int .i64 0] [.int .i64 0, .int .i64 0] 60 rfl rfl HR4.out (hid_into Tryd.size60) (hid_into rfl) (by simp [Value.oneCell']) ?_; intro W6 hc6 O6; have HB6 := hid_into (HB4.out.trans (O6.below (Nat.le_refl _)))))
                            exact ret_row2 rfl rfl rfl hc6 Tryd.underlying60 rfl (hid_into Tryd.size60) (RdPost.mk rfl (ReadP.no HN.out) HB6.out)
                          · have g2 : ¬ (57 : Int) < (c : Int) := by omega
                            obtain ⟨z, hz⟩ : ∃ z : Nat, z = V * 10 + (c - 48) := ⟨_, rfl⟩
                            have q5 : wrap64 ((V : Int) * 10 + (c : Int) - 48) = (z : Int) := by unfold wrap64; omega
                            have HQ : Hid ((V : Int) * 10 + (c : Int) - 48 = (z : Int)) := hid_into (by omega)
                            have HV2 : Hid (Lib.decFrom 0 (num.take (ii + 1)) = some z) := hid_into (by
                              rw [HT1.out, hz]
                              refine decFrom_snoc _ _ _ _ _ HV.out ?_
                              unfold Lib.digitVal
                              rw [HCc.out, if_pos (by omega)])
                            clear HV HT1 HMem HCc hz
                            go_wp2_with fail
                            go_roundw
                            case rel => exact ⟨z, ii + 1, by omega, congrArg (Value.int .i64) HQ.out, by go_num, HV2, trivial⟩
                            case measure => simp [intOf]; omega
                      · obtain rfl : ii = tl := by omega
                        have HVt : Hid (Lib.decFrom 0 num = some V) := hid_into (by have := HV.out; rw [← HTL.out, List.take_length] at this; exact this)
                        have HE : Hid (readL ln = if Lib.itoa (V : Int) = num then some ((oo : Int), (V : Int)) else none) := hid_into (rd_num HC.out HF.out ho1 hoo HHS.out HLn.out HNM.out HSG.out (fun _ => HPN.out) HVt.out (v := (V : Int)) (by simp))
                        have C57 := fun W => whole_any (V : Int) ⟨by omega, by omega⟩ W
                        generalize hiv : Lib.itoa (V : Int) = iv at HE C57
                        clear HV HVt hiv HF HSG HHS
                        have q7 : wrap64 (-(V : Int)) = -(V : Int) := by unfold wrap64; omega
                        obtain ⟨k1, hk1⟩ : ∃ k1 : Nat, k1 = k + 1 := ⟨_, rfl⟩
                        have w1 : IntKind.i64.wrap ((k : Int) + 1) = (k1 : Int) := by rw [IntKind.wrap_i64]; omega
                        have hx5 : (⟨ln.toArray⟩ : ByteArray).extract k1 nl = ⟨num.toArray⟩ := by rw [hk1]; exact hx1
                        have b4 : (k1 : Int) ≤ (nl : Int) := by omega
                        have b5 : (0 : Int) ≤ (k1 : Int) := by omega
                        have b6 : k1 ≤ nl := by omega
                        clear hk1 hx1 b2 b3
                        by_cases hq : iv = num
                        · have hq1 : (iv != num) = false := by simp [hq]
                          have hq2 : (iv == num) = true := by simp [hq]
                          have HP : Hid (ReadP ln (oo : Int) (V : Int) true) := hid_into (by unfold ReadP; rw [HE.out, if_pos hq]; exact ⟨rfl, rfl⟩)
                          clear HE hq
                          go_wp2_with fail
                          go_region_held3 (fun _ => True) (trivial)
                            (first
                              | (go_at_call 57; refine (C57 _).mono ?_; rintro e w7 ⟨rfl, B7⟩; have B7' := below_undrew B7; have HR7 := hid_into (HR4.out.below B7' HR4.out.lt); have HB7 := hid_into (HB4.out.trans (B7'.mono HB4.out.size)); clear B7 B7'))
                          have r0 := HR7.out.cell 0
                          have r1 := HR7.out.cell 1
                          have f0 := HR7.out.frozen 0
                          have f1 := HR7.out.frozen 1
                          simp only [List.getElem?_cons_succ, List.getElem?_cons_zero] at r0 r1
                          have HRf : Hid (Cw ((w7.setCell ⟨w.heap.size, 0, none⟩ (.int .i64 (oo : Int))).setCell ⟨w.heap.size, 1, none⟩ (.int .i64 (V : Int))) w.heap.size [.int .i64 (oo : Int), .int .i64 (V : Int)] 60) := (HR7.out.set 0 (.int .i64 (oo : Int))).set 1 (.int .i64 (V : Int))
                          have HBf : Hid (Below w.heap.size w ((w7.setCell ⟨w.heap.size, 0, none⟩ (.int .i64 (oo : Int))).setCell ⟨w.heap.size, 1, none⟩ (.int .i64 (V : Int)))) := (HB7.out.setCell (p := ⟨w.heap.size, 0, none⟩) (Nat.le_refl _) _).setCell (p := ⟨w.heap.size, 1, none⟩) (Nat.le_refl _) _
                          go_wp2_with fail
                          exact ret_row2 rfl rfl rfl HRf.out Tryd.underlying60 rfl (hid_into Tryd.size60) (RdPost.mk rfl HP.out HBf.out)
                        · have hq1 : (iv != num) = true := by simp [hq]
                          have hq2 : (iv == num) = false := by simp [hq]
                          have HN : Hid (readL ln = none) := hid_into (by rw [HE.out, if_neg hq])
                          clear HE hq
                          go_wp2_with fail
                          go_region_held3 (fun _ => True) (trivial)
                            (first
                              | (go_at_call 57; refine (C57 _).mono ?_; rintro e w7 ⟨rfl, B7⟩; have B7' := below_undrew B7; have HR7 := hid_into (HR4.out.below B7' HR4.out.lt); have HB7 := hid_into (HB4.out.trans (B7'.mono HB4.out.size)); clear B7 B7'))
                          have r0 := HR7.out.cell 0
                          have r1 := HR7.out.cell 1
                          have f0 := HR7.out.frozen 0
                          have f1 := HR7.out.frozen 1
                          simp only [List.getElem?_cons_succ, List.getElem?_cons_zero] at r0 r1
                          have HRf : Hid (Cw ((w7.setCell ⟨w.heap.size, 0, none⟩ (.int .i64 0)).setCell ⟨w.heap.size, 1, none⟩ (.int .i64 0)) w.heap.size [.int .i64 0, .int .i64 0] 60) := (HR7.out.set 0 (.int .i64 0)).set 1 (.int .i64 0)
                          have HBf : Hid (Below w.heap.size w ((w7.setCell ⟨w.heap.size, 0, none⟩ (.int .i64 0)).setCell ⟨w.heap.size, 1, none⟩ (.int .i64 0))) := (HB7.out.setCell (p := ⟨w.heap.size, 0, none⟩) (Nat.le_refl _) _).setCell (p := ⟨w.heap.size, 1, none⟩) (Nat.le_refl _) _
                          go_wp2_with fail
                          exact ret_row2 rfl rfl rfl HRf.out Tryd.underlying60 rfl (hid_into Tryd.size60) (RdPost.mk rfl (ReadP.no HN.out) HBf.out)

end Go.Proofs.YtddmnpfebajnmaaDoor
