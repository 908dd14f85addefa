/-
  OctetJoins, walked: for every two rows of fields it answers true, and writes nothing that was there.
-/
import Derived.Test.YtamifgaaalclcaaDoorFieldRows
import Derived.Deep.RegionHeld3
namespace Go.Proofs.YtamifgaaalclcaaDoor
open Go.RowKit

/-- nil, or not: a slice's shape. -/
def NN (v : Value) : Prop := v = .slice none 0 0 ∨ ∃ a l c, v = .slice (some a) l c
theorem NN.at0 {v : Value} {w : World} {fs : List Fd} (h : NN v) (hf : Fs w v fs) : fs = [] → ∃ a c, v = .slice (some a) 0 c ∨ v = .slice none 0 0 := by
  intro h0
  obtain ⟨ao, cap, hv, _⟩ := hf.len
  subst h0
  rcases h with rfl | ⟨a, l, c, rfl⟩
  · exact ⟨default, 0, Or.inr rfl⟩
  · simp only [Value.slice.injEq, List.length_nil] at hv
    obtain ⟨_, rfl, _⟩ := hv
    exact ⟨a, c, Or.inl rfl⟩

theorem Bs.lt {w : World} {v : Value} {zs : List Int} (h : Bs w v zs) (hz : zs ≠ []) : ∀ k, v.ownBlock = some k → k < w.heap.size := by
  rcases h with ⟨h0, _⟩ | ⟨_, b, off, cap, rfl, _, _, hcell⟩
  · exact absurd h0 hz
  · intro k hk
    have hk' : b = k := by simpa [Value.ownBlock] using hk
    subst hk'
    exact World.block_lt_of_cell? w _ (hcell 0 (List.length_pos_iff.2 hz))
theorem Bs.step2 {b : Nat} {w w' : World} {v v' sv : Value} {zs : List Int} (h : Bs w sv zs) (hs : Wstep b w v w' v') (hsep : zs ≠ [] → ∀ k, sv.ownBlock = some k → k ≠ b ∧ some k ≠ v.ownBlock) : Bs w' sv zs := by
  by_cases hz : zs = []
  · rcases h with h | ⟨h, _⟩
    · exact Or.inl h
    · exact absurd hz h
  · exact h.step hs (hsep hz)

set_option maxHeartbeats 800000 in
theorem bytes_w2 (b : Nat) (v : Value) (xs : List Int) (sv : Value) (zs : List Int) (w : World) (hw : Wr w b v xs) (hb : Bs w sv zs) (hsep : zs ≠ [] → ∀ k, sv.ownBlock = some k → k ≠ b ∧ some k ≠ v.ownBlock)
    (hn : xs.length ≤ 100000000000) (hz : zs.length ≤ 100000000000) :
    Calls Tryd.prog 15 #[.pointer (some ⟨b, 0, none⟩), sv] w fun e w' => e = .returned (.tuple #[]) ∧ ∃ v', Wr w' b v' (xs ++ numOf zs.length ++ zs) ∧ Wstep b w v w' v' := by
  obtain ⟨ao, cap, hsv, hm⟩ := hb.len
  subst hsv
  go_enter Tryd.func15, Tryd.ntmps15
  go_wp2_with fail
  refine (num_w b v xs _ _ hw (by omega) (by omega) (by omega)).mono ?_
  rintro e w1 ⟨rfl, v1, hw1, hs1⟩
  have hnl := numOf_length (zs.length : Int)
  have hb1 := hb.step2 hs1 hsep
  obtain ⟨ys, hys⟩ : ∃ ys, ys = xs ++ numOf zs.length := ⟨_, rfl⟩
  rw [← hys] at hw1
  have hyl : ys.length ≤ 110000000000 := by rw [hys, List.length_append]; omega
  have HY : Hid (ys = xs ++ numOf zs.length) := hys
  clear hys
  have hc1 := hw1.cell
  have hf1 := hw1.frozen
  have hlt1 := hw1.lt
  obtain ⟨ao1, cap1, hv1, hj⟩ := hw1.2.form
  clear hj
  subst hv1
  go_wp2_with (at_builtin; refine wpList_append_bs _ rfl (.tmp 14) (.tmp 15) rfl (b + 1) _ _ rfl hw1.2 _ zs rfl hb1 (by omega) (by omega) ?_)
  intro ao2 cap2 w2 hown hgrow hat
  have R := step_of_append hw1 (Below.refl _ _) hown hgrow hat
  have hc2 : w2.cell? ⟨b, 0, none⟩ = some (.slice ao1 ys.length cap1) := by
    rw [hgrow.cell_far _ hlt1 (fun e => by have := (World.ownsRow.lt hw1.2) b e.symm; omega)]; exact hc1
  have hf2 : w2.frozen? ⟨b, 0, none⟩ = false := by
    rw [hgrow.frozen_far _ hlt1 (fun e => by have := (World.ownsRow.lt hw1.2) b e.symm; omega)]; exact hf1
  clear hown hgrow hat
  go_wp2
  go_end0
  rw [← HY.out]
  exact ⟨rfl, _, R.1, hs1.trans R.2⟩

/-- A field of a row, in a later world: its slice's cell, its bytes. -/
theorem Fs.at {w w' : World} {b : Nat} {off len cap : Nat} {fs : List Fd} (h : Fs w (.slice (some ⟨b, off, none⟩) len cap) fs) (hB : Below w.heap.size w w') (k : Nat) (hk : k < fs.length) :
    w'.cell? ⟨b, off + k * 35 + 2, none⟩ = some fs[k].bv ∧ Bs w' fs[k].bv fs[k].bs ∧ fs[k].ok w ∧ b < w.heap.size := by
  rcases h with ⟨rfl, _⟩ | ⟨_, b', off', cap', he, h1, h2, hcell⟩
  · simp at hk
  · simp only [Value.slice.injEq, Option.some.injEq, Addr.mk.injEq, and_true] at he
    obtain ⟨⟨rfl, rfl⟩, rfl, rfl⟩ := he
    obtain ⟨hra, hok⟩ := hcell k fs[k] (by simp [hk])
    have hc : w.cell? ⟨b, off + k * 35 + 2, none⟩ = some fs[k].bv := hra 2 _ rfl
    have hlt : b < w.heap.size := World.block_lt_of_cell? w _ hc
    exact ⟨by rw [hB.cell (p := ⟨b, off + k * 35 + 2, none⟩) hlt]; exact hc, hok.b.below hB (Nat.le_refl _), hok, hlt⟩

theorem Wr.keepBelow {w w' : World} {b B : Nat} {v : Value} {xs : List Int} (h : Wr w b v xs) (hB : Below B w w') (hs : w.heap.size ≤ B) : Wr w' b v xs :=
  ⟨by rw [hB.block b (by have := h.lt; omega)]; exact h.1, h.2.keep fun k _ hk => hB.block k (by omega)⟩
theorem encB_byt {fs : List Fd} (h : ∀ f ∈ fs, Byt f.bs ∧ f.bs.length ≤ 140737488355328) : Byt (encB fs) := by
  intro z hz
  obtain ⟨f, hf, hz⟩ := List.mem_flatMap.1 hz
  rcases List.mem_append.1 hz with hz | hz
  · exact numOf_byt _ (by omega) (by have := (h f hf).2; omega) z hz
  · exact (h f hf).1 z hz
theorem encB_take (l : List Fd) (k : Nat) (h : k < l.length) : encB (l.take (k + 1)) = encB (l.take k) ++ numOf l[k].bs.length ++ l[k].bs := by
  rw [List.take_succ_eq_append_getElem h, encB_append, encB_one, List.append_assoc]
theorem roomF_take (l : List Fd) (k : Nat) : roomF (l.take k) ≤ roomF l := by
  conv => rhs; rw [← List.take_append_drop k l, roomF_append]
  omega
theorem roomF_drop (l : List Fd) (k : Nat) : roomF (l.drop k) ≤ roomF l := by
  conv => rhs; rw [← List.take_append_drop k l, roomF_append]
  omega

set_option maxRecDepth 100000 in
set_option maxHeartbeats 6400000 in
theorem joins_walk (va vb : Value) (fa fb : List Fd) (w : World) (ha : Fs w va fa) (hb : Fs w vb fb) (na : NN va) (nb : NN vb) (ht : Tab w) :
    Calls Tryd.prog 8 #[va, vb] w fun e w' => e = .returned (.bool true) ∧ Below w.heap.size w w' := by
  obtain ⟨aa, ca, hva, hma⟩ := ha.len
  obtain ⟨ab, cb, hvb, hmb⟩ := hb.len
  have hna := na.at0 ha
  have hnb := nb.at0 hb
  subst hva; subst hvb
  unfold maxLen at hma hmb
  go_enter Tryd.func8, Tryd.ntmps8
  go_wp2_with fail
  refine (heavy_any _ fa _ ha).mono ?_
  rintro e w1 ⟨rfl, rfl⟩
  cases hha : heavyB fa with
  | true =>
    clear hha
    go_wp2
    go_ret
    exact ⟨rfl, Below.refl _ _⟩
  | false =>
  go_wp2_with fail
  refine (heavy_any _ fb _ hb).mono ?_
  rintro e w1 ⟨rfl, rfl⟩
  cases hhb : heavyB fb with
  | true =>
    clear hha hhb
    go_wp2
    go_ret
    exact ⟨rfl, Below.refl _ _⟩
  | false =>
  have hra := heavy_room hha
  have hrb := heavy_room hhb
  have hla := roomF_len fa
  have hlb := roomF_len fb
  clear hha hhb
  have htl := ht.lt
  have hoF0 : OwF (w.alloc (.cells #[] 30)) w.heap.size (.slice (some ⟨w.heap.size, 0, none⟩) 0 0) [] := ⟨by simp [cellsF], Or.inr ⟨w.heap.size, 0, #[], rfl, Nat.le_refl _, heap_alloc_new w _, Nat.le_refl _, by simp [maxLen], by simp, by simp [cellsF]⟩⟩
  have hfa1 : Fs (w.alloc (.cells #[] 30)) (.slice aa fa.length ca) fa := ha.below ((Below.refl _ _).alloc (Nat.le_refl _) _) (Nat.le_refl _)
  go_wp2_with (at_builtin; refine wpList_append_fs _ rfl (.tmp 18) (.tmp 19) rfl w.heap.size _ [] rfl hoF0 _ fa rfl hfa1 (by simp; omega) (by simp) hna ?_)
  intro a1 c1 w1 hoF1 hg1 hat1
  have B1 : Below w.heap.size w w1 := ((Below.refl _ _).alloc (Nat.le_refl _) _).grown hg1 (by simp) (fun k hk => by simp [Value.ownBlock] at hk; omega)
  have hs1 := B1.size
  have hfb1 := hb.below B1 (Nat.le_refl _)
  clear hg1 hat1 hoF0 hfa1
  go_wp2_with (at_builtin; refine wpList_append_fs _ rfl (.tmp 20) (.tmp 21) rfl w.heap.size _ fa rfl hoF1 _ fb rfl hfb1 (by omega) (by omega) hnb ?_)
  intro a2 c2 w2 hoF2 hg2 hat2
  have B2 : Below w.heap.size w w2 := B1.grown hg2 hs1 (fun k hk => (World.ownsRow.lt hoF1 k hk).1)
  have hs2 := B2.size
  have hfl : Fs w2 (.slice a2 (fa.length + fb.length) c2) (fa ++ fb) := hoF2.fs (fun f hf => by
    rcases List.mem_append.1 hf with h | h
    · exact ((ha.oks f h).keep B2)
    · exact ((hb.oks f h).keep B2))
  obtain ⟨l, hl⟩ : ∃ l, l = fa ++ fb := ⟨_, rfl⟩
  rw [← hl] at hfl
  have hll : fa.length + fb.length = l.length := by rw [hl, List.length_append]
  have hrl : roomF l ≤ 6000 := by rw [hl, roomF_append]; omega
  have HL : Hid (l = fa ++ fb) := hl
  have HLL : Hid (fa.length + fb.length = l.length) := hll
  have hll1 : l.length ≤ fa.length + fb.length := by omega
  have hll2 : fa.length + fb.length ≤ l.length := by omega
  clear hl hll hg2 hat2 hoF1 hoF2 hfb1 hna hnb B1 hs1
  go_wp2
  have hw1 := ((Wr_new w2).alloc (.cells #[.slice none 0 0] 26)).alloc (.cells #[.slice none 0 0] 26)
  have hw2 : Wr (((w2.alloc (.cells #[.slice none 0 0] 26)).alloc (.cells #[.slice none 0 0] 26)).alloc (.cells #[.slice none 0 0] 26)) (w2.heap.size + 1) (.slice none 0 0) [] := by
    have := (Wr_new (w2.alloc (.cells #[.slice none 0 0] 26))).alloc (.cells #[.slice none 0 0] 26)
    rwa [World.size_alloc] at this
  have hw3 : Wr (((w2.alloc (.cells #[.slice none 0 0] 26)).alloc (.cells #[.slice none 0 0] 26)).alloc (.cells #[.slice none 0 0] 26)) (w2.heap.size + 2) (.slice none 0 0) [] := by
    have := Wr_new ((w2.alloc (.cells #[.slice none 0 0] 26)).alloc (.cells #[.slice none 0 0] 26))
    rwa [World.size_alloc, World.size_alloc] at this
  have B3 : Below w2.heap.size w2 (((w2.alloc (.cells #[.slice none 0 0] 26)).alloc (.cells #[.slice none 0 0] 26)).alloc (.cells #[.slice none 0 0] 26)) := (((Below.refl _ _).alloc (Nat.le_refl _) _).alloc (by simp) _).alloc (by simp; omega) _
  have hapN : ∀ b b' : Nat, b ≠ b' → Ap b (.slice none 0 0) b' (.slice none 0 0) := fun b b' h => ⟨h, by simp [Value.ownBlock], by simp [Value.ownBlock], fun k hk => by simp [Value.ownBlock] at hk⟩
  go_loopw [9] (fun i wr => ∃ (k : Nat) (v1 v2 v3 : Value), k ≤ fa.length + fb.length ∧ i = .int .i64 k ∧ Wr wr w2.heap.size v1 (encB (l.take k)) ∧ Wr wr (w2.heap.size + 1) v2 (encB (l.take (min k fa.length))) ∧ Wr wr (w2.heap.size + 2) v3 (encB ((l.take k).drop fa.length)) ∧
      Ap w2.heap.size v1 (w2.heap.size + 1) v2 ∧ Ap w2.heap.size v1 (w2.heap.size + 2) v3 ∧ Ap (w2.heap.size + 1) v2 (w2.heap.size + 2) v3 ∧ Below w2.heap.size w2 wr) (fun i _ => fa.length + fb.length - (intOf i).toNat)
  case atStart => exact ⟨0, _, _, _, Nat.zero_le _, rfl, hw1, by simpa [encB] using hw2, by simpa [encB] using hw3, hapN _ _ (by omega), hapN _ _ (by omega), hapN _ _ (by omega), B3⟩
  case round =>
    clear hw1 hw2 hw3 B3 hapN
    obtain ⟨k, v1, v2, v3, hk, rfl, hw1, hw2, hw3, a12, a13, a23, Bk⟩ := hrel
    have e1 := encB_len (l.take k)
    have e2 := encB_len (l.take (min k fa.length))
    have e3 := encB_len ((l.take k).drop fa.length)
    have e4 := roomF_take l k
    have e5 := roomF_take l (min k fa.length)
    have e6 := roomF_drop (l.take k) fa.length
    by_cases hlt : k < fa.length + fb.length
    · have hkl : k < l.length := by omega
      have hloc : ∃ gb off, a2 = some ⟨gb, off, none⟩ := by
        rcases hfl with ⟨h0, _⟩ | ⟨_, b', off', cap', he, _⟩
        · subst h0; simp at hkl
        · simp only [Value.slice.injEq] at he
          exact ⟨b', off', he.1⟩
      obtain ⟨gb, off, rfl⟩ := hloc
      obtain ⟨hc, hbs, hok, hgl⟩ := hfl.at Bk k hkl
      have hbsm : l[k].bs.length ≤ 6000 := by have := roomF_mem (List.getElem_mem hkl); omega
      have hbslt := hok.b.lt
      have HT : Hid (encB (l.take (k + 1)) = encB (l.take k) ++ numOf l[k].bs.length ++ l[k].bs) := encB_take l k hkl
      have hsep1 : l[k].bs ≠ [] → ∀ j, l[k].bv.ownBlock = some j → j ≠ w2.heap.size ∧ some j ≠ v1.ownBlock := fun hz j hj => by
        have := hbslt hz j hj
        exact ⟨by omega, fun e => by have := (World.ownsRow.lt hw1.2 j e.symm).1; omega⟩
      have hone := hok.b.len
      obtain ⟨abv, cbv, hbv, _⟩ := hone
      by_cases hka : k < fa.length
      · have HM : Hid (encB (l.take (min (k + 1) fa.length)) = encB (l.take (min k fa.length)) ++ numOf l[k].bs.length ++ l[k].bs) := by
          show _ = _
          rw [Nat.min_eq_left (by omega), Nat.min_eq_left (by omega)]; exact HT.out
        have HD : Hid ((l.take (k + 1)).drop fa.length = (l.take k).drop fa.length) := by
          show _ = _
          rw [List.drop_eq_nil_of_le (by simp; omega), List.drop_eq_nil_of_le (by simp; omega)]
        have hsep2 : l[k].bs ≠ [] → ∀ j, l[k].bv.ownBlock = some j → j ≠ w2.heap.size + 1 ∧ some j ≠ v2.ownBlock := fun hz j hj => by
          have := hbslt hz j hj
          exact ⟨by omega, fun e => by have := (World.ownsRow.lt hw2.2 j e.symm).1; omega⟩
        have hat := fun (w' : World) (hB : Below w2.heap.size w2 w') => hfl.at hB k hkl
        have HAT : Hid (∀ (w' : World), Below w2.heap.size w2 w' → w'.cell? ⟨gb, off + k * 35 + 2, none⟩ = some l[k].bv ∧ Bs w' l[k].bv l[k].bs) := fun w' hB => ⟨(hat w' hB).1, (hat w' hB).2.1⟩
        clear hat hok hbslt
        generalize hbv' : l[k].bv = bv at *
        generalize hbs' : l[k].bs = bs at *
        clear hbv' hbs'
        subst hbv
        have hc0 := hc
        go_wp2_with fail
        refine (bytes_w2 w2.heap.size v1 _ _ bs _ hw1 hbs hsep1 (by omega) (by omega)).mono ?_
        rintro e w3 ⟨rfl, v1', hw1', hs1⟩
        have Bk3 : Below w2.heap.size w2 w3 := Bk.trans (hw1.below hs1 (Nat.le_refl _))
        obtain ⟨a12', hw2'⟩ := a12.step hw2 hs1
        obtain ⟨a13', hw3'⟩ := a13.step hw3 hs1
        obtain ⟨hc3, hbs3⟩ := HAT.out w3 Bk3
        clear hc hc0 hbs
        go_wp2_with fail
        refine (bytes_w2 (w2.heap.size + 1) v2 _ _ bs _ hw2' hbs3 hsep2 (by omega) (by omega)).mono ?_
        rintro e w4 ⟨rfl, v2', hw2'', hs2⟩
        have Bk4 : Below w2.heap.size w2 w4 := Bk3.trans (hw2'.below hs2 (by omega))
        obtain ⟨a21, hw1''⟩ := a12'.symm.step hw1' hs2
        obtain ⟨a23', hw3''⟩ := a23.step hw3' hs2
        rw [← HT.out] at hw1''
        rw [← HM.out] at hw2''
        rw [← HD.out] at hw3''
        clear hc3 hbs3 HAT
        go_wp2
        go_roundw
        case rel => exact ⟨k + 1, v1', v2', v3, by omega, by go_num, hw1'', hw2'', hw3'', a21.symm, a13', a23', Bk4⟩
        case measure => simp [intOf]; omega
      · have HM : Hid (encB (l.take (min (k + 1) fa.length)) = encB (l.take (min k fa.length))) := by
          show _ = _
          rw [Nat.min_eq_right (by omega), Nat.min_eq_right (by omega)]
        have HD : Hid (encB ((l.take (k + 1)).drop fa.length) = encB ((l.take k).drop fa.length) ++ numOf l[k].bs.length ++ l[k].bs) := by
          show _ = _
          rw [List.take_succ_eq_append_getElem hkl, List.drop_append_of_le_length (by simp; omega), encB_append, encB_one, List.append_assoc]
        have hsep3 : l[k].bs ≠ [] → ∀ j, l[k].bv.ownBlock = some j → j ≠ w2.heap.size + 2 ∧ some j ≠ v3.ownBlock := fun hz j hj => by
          have := hbslt hz j hj
          exact ⟨by omega, fun e => by have := (World.ownsRow.lt hw3.2 j e.symm).1; omega⟩
        have hat := fun (w' : World) (hB : Below w2.heap.size w2 w') => hfl.at hB k hkl
        have HAT : Hid (∀ (w' : World), Below w2.heap.size w2 w' → w'.cell? ⟨gb, off + k * 35 + 2, none⟩ = some l[k].bv ∧ Bs w' l[k].bv l[k].bs) := fun w' hB => ⟨(hat w' hB).1, (hat w' hB).2.1⟩
        clear hat hok hbslt
        generalize hbv' : l[k].bv = bv at *
        generalize hbs' : l[k].bs = bs at *
        clear hbv' hbs'
        subst hbv
        have hc0 := hc
        go_wp2_with fail
        refine (bytes_w2 w2.heap.size v1 _ _ bs _ hw1 hbs hsep1 (by omega) (by omega)).mono ?_
        rintro e w3 ⟨rfl, v1', hw1', hs1⟩
        have Bk3 : Below w2.heap.size w2 w3 := Bk.trans (hw1.below hs1 (Nat.le_refl _))
        obtain ⟨a12', hw2'⟩ := a12.step hw2 hs1
        obtain ⟨a13', hw3'⟩ := a13.step hw3 hs1
        obtain ⟨hc3, hbs3⟩ := HAT.out w3 Bk3
        clear hc hc0 hbs
        go_wp2_with fail
        refine (bytes_w2 (w2.heap.size + 2) v3 _ _ bs _ hw3' hbs3 hsep3 (by omega) (by omega)).mono ?_
        rintro e w4 ⟨rfl, v3', hw3'', hs2⟩
        have Bk4 : Below w2.heap.size w2 w4 := Bk3.trans (hw3'.below hs2 (by omega))
        obtain ⟨a31, hw1''⟩ := a13'.symm.step hw1' hs2
        obtain ⟨a32, hw2''⟩ := a23.symm.step hw2' hs2
        rw [← HT.out] at hw1''
        rw [← HM.out] at hw2''
        rw [← HD.out] at hw3''
        clear hc3 hbs3 HAT
        go_wp2
        go_roundw
        case rel => exact ⟨k + 1, v1', v2, v3', by omega, by go_num, hw1'', hw2'', hw3'', a12', a31.symm, a32.symm, Bk4⟩
        case measure => simp [intOf]; omega
    · have hkN : k = fa.length + fb.length := by omega
      have E1 : encB (l.take k) = encB l := by rw [List.take_of_length_le (by omega)]
      have E2 : encB (l.take (min k fa.length)) = encB fa := by rw [Nat.min_eq_right (by omega), HL.out]; simp
      have E3 : encB ((l.take k).drop fa.length) = encB fb := by rw [List.take_of_length_le (by omega), HL.out]; simp
      rw [E1] at hw1
      rw [E2] at hw2
      rw [E3] at hw3
      have HE : Hid (encB l = encB fa ++ encB fb) := by show _ = _; rw [HL.out, encB_append]
      have hbl : (encB l).length ≤ 6000 := by have := encB_len l; omega
      have hbla : (encB fa).length ≤ 6000 := by have := encB_len fa; omega
      have hblb : (encB fb).length ≤ 6000 := by have := encB_len fb; omega
      have hbyt : Byt (encB l) := encB_byt fun f hf => ⟨(hfl.oks f hf).byt, (hfl.oks f hf).small⟩
      clear E1 E2 E3 e1 e2 e3 e4 e5 e6 a12 a13 a23 hkN
      go_wp2_with fail
      refine (out_w w2.heap.size v1 _ _ hw1 (by omega)).mono ?_
      rintro e w4 ⟨ao4, cap4, rfl, ho4, B4⟩
      go_wp2_with fail
      refine (out_w (w2.heap.size + 1) v2 _ _ (hw2.keepBelow B4 (Nat.le_refl _)) (by omega)).mono ?_
      rintro e w5 ⟨ao5, cap5, rfl, ho5, B5⟩
      go_wp2_with fail
      refine (out_w (w2.heap.size + 2) v3 _ _ ((hw3.keepBelow B4 (Nat.le_refl _)).keepBelow B5 (Nat.le_refl _)) (by omega)).mono ?_
      rintro e w6 ⟨ao6, cap6, rfl, ho6, B6⟩
      have ho56 : Ow w6 w4.heap.size (.slice ao5 (encB fa).length cap5) (encB fa) := ho5.keep fun j _ hj => B6.block j hj
      have hs45 := B5.size
      have hs56 := B6.size
      have hs4 := B4.size
      generalize hea : encB fa = ea at *
      generalize heb : encB fb = eb at *
      generalize hel : encB l = el at *
      have HEL : Hid (encB l = el) := hel
      clear hea heb hel
      go_wp2_with (at_builtin; refine wpList_append_bs _ rfl (.tmp 52) (.tmp 53) rfl w4.heap.size _ ea rfl ho56 _ eb rfl ho6.bs (by omega) (by omega) ?_)
      intro ao7 cap7 w7 ho7 hg7 hat7
      have hb47 : Bs w7 (.slice ao4 el.length cap4) el := ho4.bs.keep fun j hj hlt' => by
        have h1 := (World.ownsRow.lt ho4 j hj).2
        rw [hg7.block j (by omega) (fun e => by have := (World.ownsRow.lt ho56 j e.symm).1; omega), B6.block j (by omega), B5.block j (by omega)]
      have B7 : Below wr.heap.size wr w7 := ((B4.trans (B5.mono hs4)).trans (B6.mono (by omega))).grown hg7 (by omega) (fun j hj => by have := (World.ownsRow.lt ho56 j hj).1; omega)
      have hb7 := ho7.bs
      clear ho7 hg7 hat7 ho56 ho6 ho5 ho4
      go_wp2_with fail
      refine (same_any _ _ _ _ _ hb47 hb7).mono ?_
      rintro e w8 ⟨rfl, hsm8⟩
      rw [eqB_true HE.out]
      have B8 : Below wr.heap.size wr w8 := B7.trans (hsm8.below _)
      have hw18 := hw1.keepBelow B8 (Nat.le_refl _)
      clear hb47 hb7 hw2 hw3 B4 B5 B6 B7
      go_wp2_with fail
      refine (out_w w2.heap.size v1 _ _ hw18 (by omega)).mono ?_
      rintro e w9 ⟨ao9, cap9, rfl, ho9, B9⟩
      go_wp2_with fail
      refine (newReader_any _ el _ ho9.bs (by omega)).mono ?_
      rintro e w10 ⟨b10, v10, rfl, hr10, B10, hb10, hk10⟩
      have hs8 := B8.size
      have hs9 := B9.size
      have B10' : Below w2.heap.size w2 w10 := ((Bk.trans (B8.mono Bk.size)).trans (B9.mono (by have := Bk.size; omega))).trans (B10.mono (by have := Bk.size; omega))
      have hb10' : w2.heap.size ≤ b10 := by have := Bk.size; omega
      clear ho9 B9 B10 B8 hw18 hw1 Bk hb10 hs4 hs45 hs56 hs8 hs9
      go_wp2
      go_loopw [11] (fun i wr => ∃ (k : Nat) (v' : Value), k ≤ fa.length + fb.length ∧ i = .int .i64 k ∧ Rd wr b10 v' (encB (l.drop k)) 0 ∧ Below w2.heap.size w2 wr) (fun i _ => fa.length + fb.length - (intOf i).toNat)
      case atStart => exact ⟨0, v10, Nat.zero_le _, rfl, by rw [List.drop_zero, HEL.out]; exact hr10, B10'⟩
      case round =>
        clear hr10 B10'
        obtain ⟨k, v', hk, rfl, hr, Bk⟩ := hrel
        by_cases hlt : k < fa.length + fb.length
        · have hkl : k < l.length := by omega
          have hloc : ∃ gb off, a2 = some ⟨gb, off, none⟩ := by
            rcases hfl with ⟨h0, _⟩ | ⟨_, b', off', cap', he, _⟩
            · subst h0; simp at hkl
            · simp only [Value.slice.injEq] at he
              exact ⟨b', off', he.1⟩
          obtain ⟨gb, off, rfl⟩ := hloc
          obtain ⟨hc, hbs, hok, hgl⟩ := hfl.at Bk k hkl
          have hbsm : l[k].bs.length ≤ 6000 := by have := roomF_mem (List.getElem_mem hkl); omega
          have hby : Byt (encB (l.drop k)) := encB_byt fun f hf => ⟨(hfl.oks f (List.mem_of_mem_drop hf)).byt, (hfl.oks f (List.mem_of_mem_drop hf)).small⟩
          have HB : Hid (bytesR (encB (l.drop k)) 0 = (l[k].bs, encB (l.drop (k + 1)), 0)) := by
            show _ = _
            rw [List.drop_eq_getElem_cons hkl, show l[k] :: l.drop (k + 1) = [l[k]] ++ l.drop (k + 1) from rfl, encB_append]
            exact bytesR_enc _ _ (by omega)
          have HAT : Hid (∀ (w' : World), Below w2.heap.size w2 w' → w'.cell? ⟨gb, off + k * 35 + 2, none⟩ = some l[k].bv ∧ Bs w' l[k].bv l[k].bs) := fun w' hB => ⟨(hfl.at hB k hkl).1, (hfl.at hB k hkl).2.1⟩
          obtain ⟨abv, cbv, hbv, _⟩ := hok.b.len
          clear hok
          generalize hbv' : l[k].bv = bv at *
          generalize hbs' : l[k].bs = bs at *
          clear hbv' hbs'
          subst hbv
          have hkc : (0 : Int) ≤ (k : Int) := by omega
          have hkc2 : (k : Int) < ((fa.length : Int) + (fb.length : Int)) := by omega
          go_wp2
          have HR0 : Hid (eqB bs bs = true) := eqB_true rfl
          go_region_held3 (fun w' => w'.cell? ⟨gb, off + k * 35 + 2, none⟩ = some (.slice abv bs.length cbv)) (assumption)
            (first
              | (go_at_call 27; refine (rbytes_any b10 v' _ 0 _ (by exact hr) hby).mono ?_; rw [HB.out]; rintro e w12 ⟨ao12, cap12, rfl, ho12, v12, hr12, hs12, hv12⟩; have Bk12 : Below w2.heap.size w2 w12 := Bk.drew.trans (hs12.below hb10' Bk.size); have hc12 := (HAT.out w12 Bk12).1)
              | (go_at_call 21; refine (same_any _ _ bs bs _ ho12.bs (HAT.out w12 Bk12).2).mono ?_; rintro e w13 ⟨rfl, hsm13⟩; rw [HR0.out]; have hc13 := (HAT.out w13 (Bk12.trans (hsm13.below _))).1))
          have Bk13 : Below w2.heap.size w2 w13 := Bk12.trans (hsm13.below _)
          have hr13 : Rd w13 b10 v12 (encB (l.drop (k + 1))) 0 := hr12.sm hsm13
          clear HAT hc hbs hc12 ho12 hr12 hs12 hsm13
          go_wp2
          go_roundw
          case rel => exact ⟨k + 1, v12, by omega, by go_num, hr13, Bk13⟩
          case measure => simp [intOf]; omega
        · have hz : l.drop k = [] := List.drop_eq_nil_of_le (by omega)
          rw [hz] at hr
          have hr' : Rd wr b10 v' [] 0 := hr
          have Bw : Below w.heap.size w wr := B2.trans (Bk.mono hs2)
          have htw := ht.below Bw htl
          clear hr hz Bk hfl
          go_wp2_with fail
          refine (end_any b10 v' _ _ _ hr').mono ?_
          rintro e w14 ⟨rfl, rfl⟩
          rw [show endR [] 0 = 0 from rfl]
          go_wp2_with fail
          refine (known_any _ htw).mono ?_
          rintro e w15 ⟨rfl, B15⟩
          go_wp2
          go_ret
          exact ⟨rfl, Bw.trans (B15.mono Bw.size)⟩
end Go.Proofs.YtamifgaaalclcaaDoor
