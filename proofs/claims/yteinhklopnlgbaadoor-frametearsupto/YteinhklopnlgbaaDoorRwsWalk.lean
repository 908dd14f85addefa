/-
  FrameRows, walked: for all rows and whatever stands behind them it answers true, and writes nothing that was there.
-/
import Derived.Test.YteinhklopnlgbaaDoorRowsK
import Derived.Test.YteinhklopnlgbaaDoorScan
import Derived.Test.YteinhklopnlgbaaDoorFrameEb
namespace Go.Proofs.YteinhklopnlgbaaDoor
open Go.RowKit

theorem Ow.shape {w : World} {base : Nat} {v : Value} {zs : List Int} (h : Ow w base v zs) : v = .slice none 0 0 ∨ ∃ b off cap, v = .slice (some ⟨b, off, none⟩) zs.length cap := by
  rcases h.2 with ⟨rfl, _⟩ | ⟨g, cap, cur, rfl, _⟩
  · exact Or.inl rfl
  · exact Or.inr ⟨g, 0, cap, rfl⟩
theorem Osl.shape {w : World} {base : Nat} {v : Value} {rs : List Rw2} (h : Osl w base v rs) : (v = .slice none 0 0 ∧ rs = []) ∨ ∃ g cap, v = .slice (some ⟨g, 0, none⟩) rs.length cap ∧ rs.length ≤ cap ∧ cap ≤ maxLen := by
  rcases h.row.2 with ⟨rfl, h2⟩ | ⟨g, cap, cur, rfl, _, _, hn, hc, _⟩
  · exact Or.inl ⟨rfl, List.eq_nil_of_length_eq_zero h2⟩
  · exact Or.inr ⟨g, cap, rfl, hn, hc⟩

/-- What the first loop holds: the records of the first k rows, one behind the other. -/
def AllInv (w : World) (ps : List (List Int)) (a i : Value) (wr : World) (k : Nat) (A : List Int) : Prop :=
  k ≤ ps.length ∧ i = .int .i64 k ∧ (∃ ao cap, a = .slice ao A.length cap) ∧ A = allN (ps.take k) ∧ Ow wr w.heap.size a A ∧ A.length ≤ 4000 ∧ (∀ p ∈ ps.take k, p.length ≤ 65536) ∧ Below w.heap.size w wr
theorem AllInv.start (w : World) (ps : List (List Int)) : AllInv w ps (.slice none 0 0) (.int .i64 0) w 0 [] :=
  ⟨Nat.zero_le _, rfl, ⟨none, 0, rfl⟩, rfl, World.ownsRow_nil _ _ _ _, by simp, by simp, Below.refl _ _⟩
theorem AllInv.open {w : World} {ps : List (List Int)} {a i : Value} {wr : World} {k : Nat} {A : List Int} (h : AllInv w ps a i wr k A) : ∃ ao cap, i = .int .i64 k ∧ a = .slice ao A.length cap ∧ k ≤ ps.length ∧ A = allN (ps.take k) ∧ Ow wr w.heap.size (.slice ao A.length cap) A ∧ A.length ≤ 4000 ∧ (∀ p ∈ ps.take k, p.length ≤ 65536) ∧ Below w.heap.size w wr := by
  obtain ⟨h1, h2, ⟨ao, cap, rfl⟩, h4, h5, h6, h7, h8⟩ := h
  exact ⟨ao, cap, h2, rfl, h1, h4, h5, h6, h7, h8⟩
theorem rsByt {w : World} {v : Value} {rs : List Rw2} (h : Rs w v rs) : ∀ p ∈ bytesOf2 rs, Byt p := by
  obtain ⟨_, _, _, _, hr, _⟩ := h
  intro p hp
  obtain ⟨r, hm, rfl⟩ := List.mem_map.1 hp
  exact (hr r hm).2.1

set_option maxHeartbeats 6400000 in
set_option maxRecDepth 20000 in
theorem rws_walk (vl vj : Value) (rs : List Rw2) (js : List Int) (w : World) (hl : Rs w vl rs) (hj : Bs w vj js) (yj : Byt js) (lj : js.length ≤ 140737488355328) (ht : Tab w) :
    Calls Tryd.prog 7 #[vl, vj] w fun e w' => e = .returned (.bool true) ∧ Below w.heap.size w w' := by
  have htl := ht.lt
  have ybs := rsByt hl
  obtain ⟨al, cl, hvl, ml, -⟩ := hl.form
  obtain ⟨aj, cj, hvj, mj⟩ := hj.len
  subst hvl; subst hvj
  go_enter Tryd.func7, Tryd.ntmps7
  go_wp2
  go_loopw [5, 6] (fun a i wr => ∃ k A, AllInv w (bytesOf2 rs) a i wr k A) (fun _ i _ => rs.length - (intOf i).toNat)
  case atStart => exact ⟨0, [], AllInv.start w _⟩
  case round =>
    obtain ⟨k, A, hinv⟩ := hrel
    obtain ⟨ao, cap, rfl, rfl, hk, HA, hoA, hA4, hlens, hB⟩ := hinv.open
    rw [bytesOf2_len] at hk
    clear hinv
    by_cases hlt : k < rs.length
    · obtain ⟨b1, o1, ap1, cp1, z, rfl, hg, hcell, hbz, hyz, hlz⟩ := Rs.get (rs := rs) (hl.below hB) hlt
      have hgz := bytesOf2_get hg
      have f1 : (0 : Int) ≤ (k : Int) := by omega
      have f2 : (k : Int) < (rs.length : Int) := by omega
      by_cases hz4 : 4000 < z.length
      · have hz4' : (4000 : Int) < (z.length : Int) := by omega
        clear hgz hg HA hoA hlens ybs hl hj hbz
        go_wp2
        go_ret
        exact ⟨rfl, hB⟩
      have hz4' : (z.length : Int) ≤ 4000 := by omega
      have C1 := enc_any2 _ z wr hbz hyz (by omega) (ht.below hB htl)
      have HT : Hid (allN ((bytesOf2 rs).take (k + 1)) = A ++ recN z) := by
        show _ = _
        rw [take_snoc2 hgz, allN_append, allN_one, ← HA]
      have HLn : Hid (∀ p ∈ (bytesOf2 rs).take (k + 1), p.length ≤ 65536) := by
        show ∀ p ∈ _, _
        rw [take_snoc2 hgz]
        intro p hp
        rcases List.mem_append.1 hp with h | h
        · exact hlens p h
        · have : p = z := by simpa using h
          rw [this]; omega
      have HR : Hid ((recN z).length ≤ 5000) := by show _ ≤ _; rw [recN_len]; omega
      generalize recN z = R at *
      clear hgz hg HA hlens hbz hyz hlz
      go_wp2_with fail
      refine C1.mono ?_
      rintro e w1 ⟨ao1, cap1, rfl, ho1, B1⟩
      have B1' : Below w.heap.size w w1 := hB.trans (B1.mono hB.size)
      have hoA1 := hoA.grew B1 (Nat.le_refl _)
      clear C1
      go_wp2_with (at_builtin; refine wpList_append_bs _ rfl (.tmp 35) (.tmp 36) rfl w.heap.size (.slice ao A.length cap) A (by rfl) hoA1 (.slice ao1 R.length cap1) R (by rfl) ho1.bs (by have := HR.out; omega) B1'.size ?_)
      intro ao2 cap2 w2 ho2 hg2 hat2
      have B2 : Below w.heap.size w w2 := B1'.trans (grown_below hg2 B1'.size hoA1.from)
      rw [← List.length_append] at ho2
      rw [← List.length_append]
      clear hoA1 hoA ho1 hg2 hat2 hcell B1 B1' HR
      generalize A ++ R = A2 at *
      by_cases hA2 : 4000 < A2.length
      · have hA2' : (4000 : Int) < (A2.length : Int) := by omega
        go_wp2
        go_ret
        exact ⟨rfl, B2⟩
      · have hA2' : (A2.length : Int) ≤ 4000 := by omega
        go_wp2
        go_roundw
        case rel => exact ⟨k + 1, A2, by rw [bytesOf2_len]; omega, by go_num, ⟨ao2, cap2, rfl⟩, HT.out.symm, ho2, by omega, HLn.out, B2⟩
        case measure => simp [intOf]; omega
    · have hke : (bytesOf2 rs).take k = bytesOf2 rs := List.take_of_length_le (by rw [bytesOf2_len]; omega)
      rw [hke] at HA hlens
      have fl : ¬ (k : Int) < (rs.length : Int) := by omega
      by_cases hj4 : 4000 < js.length
      · have hj4' : (4000 : Int) < (js.length : Int) := by omega
        clear HA hoA hlens ybs hl hj hke
        go_wp2
        go_ret
        exact ⟨rfl, hB⟩
      have hj4' : (js.length : Int) ≤ 4000 := by omega
      have sAll : ∀ r, Sc (A ++ r) (bytesOf2 rs) A.length := fun r => by
        rw [HA]; exact Sc.all _ r fun p hp => ⟨ybs p hp, hlens p hp⟩
      have sA := sAll []
      rw [List.append_nil] at sA
      have eA : decE (A.drop A.length) ≠ 0 := by rw [List.drop_length, decE_nil]; decide
      have yA : Byt A := by rw [HA]; exact allN_byt _ ybs
      have C1 := scan_any _ A wr hoA.bs hoA.shape yA (by omega) (ht.below hB htl)
      clear hke HA hlens ybs
      go_wp2_with fail
      refine C1.mono ?_
      rintro e w1 ⟨ao1, cap1, rs1, m1, rfl, hos1, hsc1, hend1, B1⟩
      obtain ⟨hq1, rfl⟩ := hsc1.uniq hend1 sA eA
      have B1' : Below w.heap.size w w1 := hB.trans (B1.mono hB.size)
      have n1 := hsc1.many
      rw [bytesOf2_len] at n1
      have C2 := rows_any _ _ rs1 rs w1 (hos1.rs (by omega)) (hl.below B1')
      rw [eqR_true hq1] at C2
      have hoA1 := hoA.grew B1 (Nat.le_refl _)
      clear C1 hoA hos1 hsc1 hend1 sA eA hq1
      go_wp2_with fail
      refine C2.mono ?_
      rintro e w2 ⟨rfl, hs2⟩
      have B2 : Below w.heap.size w w2 := B1'.trans (hs2.below _)
      have hoA2 := hs2.ow hoA1
      have B2a : Below w.heap.size w (w2.alloc (.cells #[] 5)) := B2.alloc B2.size _
      have ho3 : Ow (w2.alloc (.cells #[] 5)) w.heap.size (.slice (some ⟨w2.heap.size, 0, none⟩) 0 0) [] := Ow_of_block (heap_alloc_new w2 _) (by simp) B2.size
      have hb3 : Bs (w2.alloc (.cells #[] 5)) (.slice ao A.length cap) A := hoA2.bs.below ((Below.refl _ _).alloc (Nat.le_refl _) _) (Nat.le_refl _)
      clear C2 hoA1 hs2 B1 B1' n1
      go_wp2_with (at_builtin; refine wpList_append_bs _ rfl (.tmp 60) (.tmp 61) rfl w.heap.size _ [] rfl ho3 (.slice ao A.length cap) A (by rfl) hb3 (by simp; omega) B2a.size ?_)
      intro ao4 cap4 w4 ho4 hg4 hat4
      have B4 : Below w.heap.size w w4 := B2a.trans (grown_below hg4 B2a.size ho3.from)
      have ho4' : Ow w4 w.heap.size (.slice ao4 A.length cap4) A := by simpa using ho4
      have hj4b := hj.below B4 (Nat.le_refl _)
      clear ho3 hb3 hg4 hat4 ho4 hoA2 B2 B2a
      go_wp2_with (at_builtin; refine wpList_append_bs _ rfl (.tmp 62) (.tmp 63) rfl w.heap.size (.slice ao4 A.length cap4) A (by rfl) ho4' _ js rfl hj4b (by omega) B4.size ?_)
      intro ao5 cap5 w5 ho5 hg5 hat5
      have B5 : Below w.heap.size w w5 := B4.trans (grown_below hg5 B4.size ho4'.from)
      rw [← List.length_append] at ho5
      rw [← List.length_append]
      have lS : Hid ((A ++ js).length ≤ 9000) := by show _ ≤ _; rw [List.length_append]; omega
      have C3 : Calls Tryd.prog 16 #[.slice ao5 (A ++ js).length cap5] w5 (ScanPost w5 (A ++ js)) := scan_any _ _ w5 ho5.bs ho5.shape (yA.app yj) (by have := lS.out; omega) (ht.below B5 htl)
      have sS := sAll js
      clear ho4' hj4b hg5 hat5 B4 sAll yA
      generalize A ++ js = S at *
      go_wp2_with fail
      refine C3.mono ?_
      rintro e w6 ⟨ao6, cap6, rs6, m6, rfl, hos6, hsc6, hend6, B6⟩
      obtain ⟨hm6, qs, hqs⟩ := hsc6.front hend6 sS
      have B6' : Below w.heap.size w w6 := B5.trans (B6.mono B5.size)
      have l6 : rs.length ≤ rs6.length := by
        have := congrArg List.length hqs
        rw [List.length_append, bytesOf2_len, bytesOf2_len] at this
        omega
      have n6 := hsc6.many
      have lm6 := hsc6.le
      rw [bytesOf2_len] at n6
      have lS' := lS.out
      have hq6 : bytesOf2 (rs6.take rs.length) = bytesOf2 rs := by
        rw [bytesOf2_take, hqs, List.take_left' (bytesOf2_len rs)]
      have hr6 := hos6.rs (by omega)
      have hl6 := hl.below B6'
      have g1 : (A.length : Int) ≤ (m6 : Int) := by omega
      have g2 : (rs.length : Int) ≤ (rs6.length : Int) := by omega
      have ht6 := fun W hW => known_any W (ht.below (B := w.heap.size) (w' := W) hW htl)
      clear C3 ho5 hsc6 hend6 B6 sS hl hj hqs n6 lm6
      rcases hos6.shape with ⟨hv6, h06⟩ | ⟨g6, c6, hv6, hc6, hm6x⟩
      · subst h06
        have hrs0 : rs = [] := List.eq_nil_of_length_eq_zero (by simpa using l6)
        subst hrs0
        simp only [Value.slice.injEq] at hv6
        obtain ⟨rfl, _, rfl⟩ := hv6
        have C6' := rows_any (.slice none 0 0) (.slice al 0 cl) [] [] w6 ⟨none, 0, rfl, by simp, fun r h => (by cases h), fun h => absurd rfl h⟩ hl6
        rw [eqR_true rfl] at C6'
        clear hr6 hl6 hos6 hq6 hm6
        have C6 := C6'
        go_wp2_with fail
        refine C6.mono ?_
        rintro e w7 ⟨rfl, hs7⟩
        have C7 := ht6 w7 (B6'.trans (hs7.below _))
        go_wp2_with fail
        refine C7.mono ?_
        rintro e w8 ⟨rfl, hB8⟩
        go_wp2
        go_ret
        exact ⟨rfl, (B6'.trans (hs7.below _)).trans (hB8.mono (B6'.trans (hs7.below _)).size)⟩
      · simp only [Value.slice.injEq] at hv6
        obtain ⟨rfl, _, rfl⟩ := hv6
        unfold maxLen at hm6x
        have g3 : (rs.length : Int) ≤ (cap6 : Int) := by omega
        have C6' := rows_any _ _ (rs6.take rs.length) rs w6 (hr6.take rs.length l6) hl6
        rw [eqR_true hq6] at C6'
        clear hr6 hl6 hos6 hq6 hm6
        have C6 := C6'
        go_wp2_with fail
        refine C6.mono ?_
        rintro e w7 ⟨rfl, hs7⟩
        have C7 := ht6 w7 (B6'.trans (hs7.below _))
        go_wp2_with fail
        refine C7.mono ?_
        rintro e w8 ⟨rfl, hB8⟩
        go_wp2
        go_ret
        exact ⟨rfl, (B6'.trans (hs7.below _)).trans (hB8.mono (B6'.trans (hs7.below _)).size)⟩
end Go.Proofs.YteinhklopnlgbaaDoor
