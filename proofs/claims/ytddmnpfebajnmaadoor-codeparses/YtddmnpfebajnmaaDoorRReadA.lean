/-
  The document's ReadLine, walked: a line without a blank, or with one.
-/
import Derived.Test.YtddmnpfebajnmaaDoorRReadP
import Derived.Test.YtddmnpfebajnmaaDoorRLine
import Derived.Lib.TrimByte
namespace Go.Proofs.YtddmnpfebajnmaaDoor
open Go.RowKit
set_option maxRecDepth 20000 in
set_option maxHeartbeats 8000000 in
theorem rread_full (ln nm num : List UInt8) (hC : Cu ln nm num) (hl : ln.length ≤ 1000000) (hyp : nm.length = ln.length) (w : World) :
    Calls Tryd.prog 45 #[.string ⟨ln.toArray⟩] w (RdPost ln w) := by
  have HC := hid_into hC
  have hx0 : (⟨ln.toArray⟩ : ByteArray).extract 0 nm.length = ⟨nm.toArray⟩ := by
    rw [Lib.extract_mk]
    congr 2
    rw [Nat.sub_zero, List.drop_zero]
    exact hC.take
  have zl : (⟨ln.toArray⟩ : ByteArray).size = ln.length := by simp [ByteArray.size]
  have hpl := hC.len
  obtain ⟨nl, hnl⟩ : ∃ nl : Nat, nl = ln.length := ⟨_, rfl⟩
  have HNL : Hid (ln.length = nl) := hid_into hnl.symm
  obtain ⟨np, hnp⟩ : ∃ np : Nat, np = nm.length := ⟨_, rfl⟩
  have HNP : Hid (nm.length = np) := hid_into hnp.symm
  have HR0 : Hid (Cw (w.alloc (.cells #[.int .i64 0, .int .i64 0] 60)) w.heap.size [.int .i64 0, .int .i64 0] 60) := Cw.new w _ _
  have HA : Hid (Below w.heap.size w (w.alloc (.cells #[.int .i64 0, .int .i64 0] 60))) := (Below.refl _ _).alloc (Nat.le_refl _) _
  rw [← hnl] at zl hpl hl hyp
  rw [← hnp] at hpl hx0 hyp
  have b0 : (np : Int) ≤ (nl : Int) := by omega
  clear hnl hnp hC
  obtain ⟨nr, hnr⟩ : ∃ nr, nr = namesR := ⟨_, rfl⟩
  have CN : ∀ W, Calls Tryd.prog 56 #[] W fun e w' => e = .returned (.slice (some ⟨W.heap.size, 0, none⟩) 23 23) ∧ w' = W.alloc (.cells nr.toArray 9) := by rw [hnr]; exact names_any
  have HNR : Hid (nr = namesR) := hid_into hnr
  clear hnr
  go_enter Tryd.func45, Tryd.ntmps45
  go_wp2_with fail
  go_loopw [4] (fun i wr => ∃ k : Nat, k ≤ np ∧ i = .int .i64 (k : Int) ∧ wr = w.alloc (.cells #[.int .i64 0, .int .i64 0] 60)) (fun i _ => np - (intOf i).toNat)
  case atStart => exact ⟨0, by omega, rfl, rfl⟩
  case round =>
    obtain ⟨k, hk, rfl, rfl⟩ := hrel
    by_cases hkn : k < np
    · obtain ⟨d, hd⟩ : ∃ d, ln[k]? = some d := ⟨_, List.getElem?_eq_getElem (by have := HNL.out; omega)⟩
      have f3 : (k : Int) < (nl : Int) := by omega
      have hlt : k < (⟨ln.toArray⟩ : ByteArray).size := by omega
      have hsd : (⟨ln.toArray⟩ : ByteArray)[k]'hlt = d := by
        have h2 := (List.getElem?_eq_some_iff.1 hd).2
        rw [ByteArray.getElem_eq_getElem_data]
        simpa using h2
      obtain ⟨c, hc⟩ : ∃ c, d.toNat = c := ⟨_, rfl⟩
      have hne : c ≠ 32 := fun e => HC.out.ne (by have := HNP.out; omega) hd (by
        have h10 : d.toNat = (32 : UInt8).toNat := by rw [hc, e]; rfl
        exact UInt8.toNat_inj.1 h10)
      have g1 : ((c : Int) != 32) = true := by simp; omega
      have g2 : ((c : Int) == 32) = false := by simp; omega
      clear hd hne
      go_wp2_with fail
      go_roundw
      case rel => exact ⟨k + 1, by omega, by go_num, trivial⟩
      case measure => simp [intOf]; omega
    · obtain rfl : k = np := by omega
      subst hyp
      go_wp2_with (go_at_call 56; refine (CN _).mono ?_; rintro e w3 ⟨rfl, rfl⟩)
      have HN3 : Hid (Cw ((w.alloc (.cells #[.int .i64 0, .int .i64 0] 60)).alloc (.cells nr.toArray 9)) (w.heap.size + 1) nr 9) := by
        have := Cw.new (w.alloc (.cells #[.int .i64 0, .int .i64 0] 60)) nr 9
        rw [World.size_alloc] at this
        exact this
      have HR3 := hid_into (HR0.out.alloc (.cells nr.toArray 9))
      have HB3 : Hid (Below w.heap.size w ((w.alloc (.cells #[.int .i64 0, .int .i64 0] 60)).alloc (.cells nr.toArray 9))) := HA.out.alloc (by simp) _
      generalize hW3 : (w.alloc (.cells #[.int .i64 0, .int .i64 0] 60)).alloc (.cells nr.toArray 9) = W3 at *
      clear hW3 HR0 HA CN
      go_loopw [6, 7] (fun o i wr => ∃ oo ii : Nat, 1 ≤ ii ∧ ii ≤ 23 ∧ o = .int .i64 (oo : Int) ∧ i = .int .i64 (ii : Int) ∧ Hid ((oo = 0 ∧ ∀ j, 1 ≤ j → j < ii → nameL j ≠ nm) ∨ (1 ≤ oo ∧ oo < ii ∧ nameL oo = nm)) ∧ Hid (Sm W3 wr)) (fun _ i _ => 23 - (intOf i).toNat)
      case atStart => exact ⟨0, 1, by omega, by omega, rfl, rfl, hid_into (Or.inl ⟨rfl, fun j h1 h2 => absurd h2 (by omega)⟩), hid_into (Sm.refl _)⟩
      case round =>
        obtain ⟨oo, ii, hi1, hi2, rfl, rfl, HO, HS⟩ := hrel
        by_cases hin : ii < 23
        · have t0 : wr.cell? ⟨w.heap.size + 1, ii, none⟩ = some (.string ⟨(nameL ii).toArray⟩) := by
            rw [World.cell?_of_block (w := W3) (by rw [HS.out.heap])]
            have := HN3.out.cell ii
            rw [HNR.out, namesR_at ii (by omega)] at this
            exact this
          have e23 : (ii : Int) < 23 := by omega
          by_cases hn : nameL ii = nm
          · have HO2 : Hid ((ii = 0 ∧ ∀ j, 1 ≤ j → j < ii + 1 → nameL j ≠ nm) ∨ (1 ≤ ii ∧ ii < ii + 1 ∧ nameL ii = nm)) := hid_into (Or.inr ⟨hi1, by omega, hn⟩)
            rw [hn] at t0
            clear HO hn
            go_wp2_with fail
            go_quiet (fail)
            go_wp2_with fail
            go_roundw
            case rel => exact ⟨ii, ii + 1, by omega, by omega, rfl, by go_num, HO2, hid_into (HS.out.trans (Sm.drewN _ _))⟩
            case measure => simp [intOf]; omega
          · have HO2 : Hid ((oo = 0 ∧ ∀ j, 1 ≤ j → j < ii + 1 → nameL j ≠ nm) ∨ (1 ≤ oo ∧ oo < ii + 1 ∧ nameL oo = nm)) := hid_into (by
              rcases HO.out with ⟨a1, a2⟩ | ⟨a1, a2, a3⟩
              · refine Or.inl ⟨a1, fun j h1 h2 => ?_⟩
                by_cases hj : j = ii
                · rw [hj]; exact hn
                · exact a2 j h1 (by omega)
              · exact Or.inr ⟨a1, by omega, a3⟩)
            generalize nameL ii = ni at t0 hn
            have hq : (ni == nm) = false := by simp [hn]
            clear HO
            go_wp2_with fail
            go_quiet (fail)
            go_wp2_with fail
            go_roundw
            case rel => exact ⟨oo, ii + 1, by omega, by omega, rfl, by go_num, HO2, hid_into (HS.out.trans (Sm.drewN _ _))⟩
            case measure => simp [intOf]; omega
        · obtain rfl : ii = 23 := by omega
          have HR4 := hid_into (HS.out.cw HR3.out)
          have HB4 := hid_into (HB3.out.trans (HS.out.below _))
          have HF : Hid (FindA nm oo) := hid_into (by
            rcases HO.out with ⟨a1, a2⟩ | ⟨a1, a2, a3⟩
            · exact Or.inr ⟨a1, fun j h1 h2 => a2 j h1 (by omega)⟩
            · exact Or.inl ⟨a1, by omega, a3⟩)
          have hoo : oo ≤ 22 := by
            rcases HO.out with ⟨a1, a2⟩ | ⟨a1, a2, a3⟩ <;> omega
          clear HO HS HR3 HB3 HN3 HNR
          by_cases ho : oo = 0
          · have HN : Hid (readL ln = none) := hid_into (rd_no1 HC.out (by rw [← ho]; exact HF.out))
            have ho' : ((oo : Int) == 0) = true := by simp [ho]
            clear HF ho
            go_wp2_with (refine wpList_store_rw rfl 60 (.tmp 2) (.tmp 42) rfl w.heap.size [.int .i64 0, .int .i64 0] [.int .i64 0, .int .i64 0] 60 rfl rfl HR4.out (hid_into Tryd.size60) (hid_into rfl) (by simp [Value.oneCell']) ?_; intro W6 hc6 O6; have HB6 := hid_into (HB4.out.trans (O6.below (Nat.le_refl _))))
            exact ret_row2 rfl rfl rfl hc6 Tryd.underlying60 rfl (hid_into Tryd.size60) (RdPost.mk rfl (ReadP.no HN.out) HB6.out)
          · have ho' : ((oo : Int) == 0) = false := by simp; omega
            have ho1 : 1 ≤ oo := by omega
            have CH := rhas_any (oo : Int)
            cases hs : hasA (oo : Int) with
            | false =>
              have HE := hid_into (rd_plain HC.out HF.out ho1 hoo hs)
              rw [hs] at CH
              clear HF hs
              go_wp2_with (first
                | (go_at_call 31; refine (CH _).mono ?_; rintro e w5 ⟨rfl, rfl⟩)
                | (refine wpList_store_rw rfl 60 (.tmp 2) (.tmp 47) rfl w.heap.size [.int .i64 0, .int .i64 0] [.int .i64 (oo : Int), .int .i64 0] 60 rfl rfl HR4.out (hid_into Tryd.size60) (hid_into rfl) (by simp [Value.oneCell']) ?_; intro W6 hc6 O6; have HB6 := hid_into (HB4.out.trans (O6.below (Nat.le_refl _)))))
              refine ret_row2 rfl rfl rfl hc6 Tryd.underlying60 rfl (hid_into Tryd.size60) (RdPost.mk (o := (oo : Int)) (a := 0) (ok := true) ?_ ?_ HB6.out)
              · simp [Array.getD]
              · unfold ReadP; rw [HE.out, if_pos (by rw [HNP.out, HNL.out])]; exact ⟨rfl, rfl⟩
            | true =>
              have HN : Hid (readL ln = none) := hid_into (rd_no4 HC.out HF.out hs (by rw [HNP.out, HNL.out]))
              rw [hs] at CH
              clear HF hs
              go_wp2_with (first
                | (go_at_call 31; refine (CH _).mono ?_; rintro e w5 ⟨rfl, rfl⟩)
                | (refine wpList_store_rw rfl 60 (.tmp 2) (.tmp 64) rfl w.heap.size [.int .i64 0, .int .i64 0] [.int .i64 0, .int .i64 0] 60 rfl rfl HR4.out (hid_into Tryd.size60) (hid_into rfl) (by simp [Value.oneCell']) ?_; intro W6 hc6 O6; have HB6 := hid_into (HB4.out.trans (O6.below (Nat.le_refl _)))))
              exact ret_row2 rfl rfl rfl hc6 Tryd.underlying60 rfl (hid_into Tryd.size60) (RdPost.mk rfl (ReadP.no HN.out) HB6.out)

end Go.Proofs.YtddmnpfebajnmaaDoor
