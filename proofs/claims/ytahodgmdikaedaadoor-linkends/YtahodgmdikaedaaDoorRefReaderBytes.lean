/-
  The document's own Reader's Bytes, by contract.
-/
import Derived.Test.YtahodgmdikaedaaDoorRefReaderNum
namespace Go.Proofs.YtahodgmdikaedaaDoor
open Go.RowKit

theorem Rstep.low {b : Nat} {w w' : World} (h : Rstep b w w') (o : Obj) (w0 : World) (hw : w = w0.alloc o) : Rstep b w0 w' := by
  subst hw
  exact (Rstep.of_below ((Below.refl _ _).alloc (Nat.le_refl _) _) (Nat.le_refl _)).trans h
theorem Fleft.trans {w w1 w2 : World} {b : Nat} {v v1 : Value} {zs : List Int} {e : Int} (hs : Rstep b w w1) (hv : v1.ownBlock = v.ownBlock ∨ v1.ownBlock = none) (h : Fleft w1 b v1 w2 zs e) : Fleft w b v w2 zs e := by
  obtain ⟨v2, h1, h2, h3⟩ := h
  exact ⟨v2, h1, hs.trans h2, by rcases h3 with h | h; rw [h]; exact hv; exact Or.inr h⟩

set_option maxHeartbeats 1600000 in
theorem raw_zero (b : Nat) (v : Value) (zs : List Int) (w : World) (hr : Rf w b v zs 0) :
    Calls Tryd.prog 56 #[.pointer (some ⟨b, 0, none⟩), .int .i64 0] w fun r w' => ∃ x, r = .returned x ∧ Bs w' x [] ∧ Fleft w b v w' zs 0 := by
  have hc0 := hr.cell0
  have hc1 := hr.cell1
  have hf0 := hr.frozen 0
  rcases hr.2.1 with ⟨h0, ao, cap, hv, hcm, hcn⟩ | ⟨hz, b2, off, cap, hv, hca, hcb, hcell⟩
  · subst h0
    subst hv
    unfold maxLen at hcm
    cases ao with
    | none =>
      obtain rfl := hcn rfl
      have R := hr.set0 (Bs_nil _) (by simp [Value.ownBlock])
      clear hcn
      go_enter Tryd.func56, Tryd.ntmps56
      go_wp2
      go_ret
      exact ⟨_, rfl, Bs_nil _, _, R.1, R.2, Or.inl rfl⟩
    | some a =>
      have R := hr.set0 (zs' := []) hr.2.1 hr.2.2
      have hbn : ∀ W : World, Bs W (.slice (some a) 0 cap) [] := fun W => Or.inl ⟨rfl, _, cap, rfl, by unfold maxLen; exact hcm, fun e => by cases e⟩
      clear hcn
      go_enter Tryd.func56, Tryd.ntmps56
      go_wp2
      go_ret
      exact ⟨_, rfl, hbn _, _, R.1, R.2, Or.inl rfl⟩
  · subst hv
    have hnb : b2 ≠ b := fun e => hr.2.2 (by simp [Value.ownBlock, e])
    have R := hr.set0 hr.2.1 hr.2.2
    have hbn : ∀ W : World, Bs W (.slice (some ⟨b2, off, none⟩) 0 cap) [] := fun W => Or.inl ⟨rfl, _, cap, rfl, hcb, fun e => by cases e⟩
    unfold maxLen at hcb
    clear hcell
    go_enter Tryd.func56, Tryd.ntmps56
    go_wp2
    go_ret
    exact ⟨_, rfl, hbn _, _, R.1, R.2, Or.inl rfl⟩

theorem raw_any (b : Nat) (v : Value) (zs : List Int) (n : Nat) (w : World) (hr : Rf w b v zs 0) (hn : n ≤ zs.length) :
    Calls Tryd.prog 56 #[.pointer (some ⟨b, 0, none⟩), .int .i64 n] w fun r w' => ∃ x, r = .returned x ∧ Bs w' x (zs.take n) ∧ Fleft w b v w' (zs.drop n) 0 := by
  by_cases h0 : n = 0
  · subst h0
    simpa using raw_zero b v zs w hr
  · exact raw_yes b v zs n w hr hn (by omega)

/-- A row that was grown is another one than the Reader's. -/
theorem Fleft.grown {w w1 w2 : World} {b base : Nat} {v u : Value} {zs : List Int} {e : Int} (h : Fleft w b v w1 zs e) (hg : w1.grownBy w2 u.ownBlock) (hb : b < base) (hw : w.heap.size ≤ base) (hv : ∀ k, v.ownBlock = some k → k < w.heap.size) (hu : ∀ k, u.ownBlock = some k → base ≤ k) : Fleft w b v w2 zs e := by
  obtain ⟨v1, h1, h2, h3⟩ := h
  have hne : ∀ k, k < base → u.ownBlock ≠ some k := fun k hk e => by have := hu k e; omega
  refine ⟨v1, h1.keep (hg.block b h1.lt (fun e => hne b hb e.symm)) (fun k hk hlt => hg.block k hlt (fun e => ?_)), ⟨hg.os.trans h2.os, hg.tape.trans h2.tape, hg.output.trans h2.output, Nat.le_trans h2.size hg.size, fun k hk hkb => (hg.block k (Nat.lt_of_lt_of_le hk h2.size) (fun e => hne k (by omega) e.symm)).trans (h2.block k hk hkb)⟩, h3⟩
  rcases h3 with h | h
  · exact hne k (Nat.lt_of_lt_of_le (hv k (by rw [← h]; exact hk)) hw) e.symm
  · rw [h] at hk; cases hk
theorem Ow.rstep {w w' : World} {b base : Nat} {u : Value} {xs : List Int} (h : Ow w base u xs) (hs : Rstep b w w') (hb : b < base) : Ow w' base u xs :=
  h.keep fun k hk hl => hs.block k hl (by have := (World.ownsRow.lt h k hk).1; omega)

set_option maxHeartbeats 3200000 in
theorem fbytes_any (b : Nat) (v : Value) (zs : List Int) (e : Int) (w : World) (hr : Rf w b v zs e) (hi : Inv zs e) (hz : Byt zs) (hv : ∀ k, v.ownBlock = some k → k < w.heap.size) :
    Calls Tryd.prog 44 #[.pointer (some ⟨b, 0, none⟩)] w fun r w' => ∃ ao cap, r = .returned (.slice ao (bytesR zs e).1.length cap) ∧ Ow w' w.heap.size (.slice ao (bytesR zs e).1.length cap) (bytesR zs e).1 ∧ Fleft w b v w' (bytesR zs e).2.1 (bytesR zs e).2.2 := by
  generalize hres : bytesR zs e = R
  have HR : Hid (bytesR zs e = R) := hres
  clear hres
  by_cases he : e = 0
  · subst he
    have herr := numR_err 10 0 0 zs
    have HB0 := fnum_any b v zs w hr hz
    generalize hN : numR 10 0 0 zs = N at *
    obtain ⟨n, zr, e1⟩ := N
    have HB : Hid (Calls Tryd.prog 43 #[.pointer (some ⟨b, 0, none⟩)] w fun r w' => r = .returned (.int .i64 n) ∧ Fleft w b v w' zr e1) := HB0
    have HR2 : Hid (R = if e1 ≠ 0 then ([], zr, e1) else if n < 0 ∨ 16777216 < n then ([], [], 3) else if (zr.length : Int) < n then ([], [], 2) else (zr.take n.toNat, zr.drop n.toNat, 0)) := by
      show _ = _
      rw [← HR.out]; unfold bytesR; rw [hN]; simp
    clear hN HR HB0
    by_cases he1 : e1 = 0
    · subst he1
      by_cases hn1 : n < 0 ∨ 16777216 < n
      · have HF : Hid (R = ([], [], 3)) := by show _ = _; rw [HR2.out]; simp [hn1]
        clear HR2 herr
        by_cases hn2 : n < 0
        · clear hn1
          go_enter Tryd.func44, Tryd.ntmps44
          go_wp2_with fail
          refine HB.out.mono ?_
          rintro r w1 ⟨rfl, v1, hr1, hs1, hv1⟩
          have hc0 := hr1.cell0
          have hc1 := hr1.cell1
          have hf0 := hr1.frozen 0
          have hf1 := hr1.frozen 1
          have R1 := hr1.set1 (e' := 3)
          have R2 := R1.1.set0 (Bs_nil _) (by simp [Value.ownBlock])
          have hcE := R2.1.cell1
          go_wp2
          go_ret
          rw [HF.out]
          exact ⟨none, 0, rfl, World.ownsRow_nil _ _ _ _, _, R2.1, (hs1.trans R1.2).trans R2.2, Or.inr rfl⟩
        · have hn3 : 16777216 < n := by omega
          clear hn1
          go_enter Tryd.func44, Tryd.ntmps44
          go_wp2_with fail
          refine HB.out.mono ?_
          rintro r w1 ⟨rfl, v1, hr1, hs1, hv1⟩
          have hc0 := hr1.cell0
          have hc1 := hr1.cell1
          have hf0 := hr1.frozen 0
          have hf1 := hr1.frozen 1
          have R1 := hr1.set1 (e' := 3)
          have R2 := R1.1.set0 (Bs_nil _) (by simp [Value.ownBlock])
          have hcE := R2.1.cell1
          go_wp2
          go_ret
          rw [HF.out]
          exact ⟨none, 0, rfl, World.ownsRow_nil _ _ _ _, _, R2.1, (hs1.trans R1.2).trans R2.2, Or.inr rfl⟩
      · by_cases hn3 : (zr.length : Int) < n
        · have HF : Hid (R = ([], [], 2)) := by show _ = _; rw [HR2.out]; simp [hn1, hn3]
          have hn4 : 0 ≤ n ∧ n ≤ 16777216 := by omega
          obtain ⟨hn5, hn6⟩ := hn4
          clear HR2 herr hn1
          go_enter Tryd.func44, Tryd.ntmps44
          go_wp2_with fail
          refine HB.out.mono ?_
          rintro r w1 ⟨rfl, v1, hr1, hs1, hv1⟩
          have hc0 := hr1.cell0
          have hc1 := hr1.cell1
          have hf0 := hr1.frozen 0
          have hf1 := hr1.frozen 1
          have R1 := hr1.set1 (e' := 2)
          have R2 := R1.1.set0 (Bs_nil _) (by simp [Value.ownBlock])
          obtain ⟨ao, cap, hvv, hm⟩ := hr1.2.1.len
          subst hvv
          go_wp2
          go_ret
          rw [HF.out]
          exact ⟨none, 0, rfl, World.ownsRow_nil _ _ _ _, _, R2.1, (hs1.trans R1.2).trans R2.2, Or.inr rfl⟩
        · have HF : Hid (R = (zr.take n.toNat, zr.drop n.toNat, 0)) := by show _ = _; rw [HR2.out]; simp [hn1, hn3]
          obtain ⟨m, rfl⟩ := Int.eq_ofNat_of_zero_le (show 0 ≤ n by omega)
          rw [Int.toNat_natCast] at HF
          have hml : m ≤ zr.length := by omega
          have hm2 : m ≤ 16777216 := by omega
          clear hn3 hn1 HR2 herr
          have htk : Hid ((zr.take m).length = m) := by show _ = _; simp; omega
          go_enter Tryd.func44, Tryd.ntmps44
          go_wp2_with fail
          refine HB.out.mono ?_
          rintro r w1 ⟨rfl, v1, hr1, hs1, hv1⟩
          have hc0 := hr1.cell0
          have hc1 := hr1.cell1
          obtain ⟨ao, cap, hvv, hm⟩ := hr1.2.1.len
          subst hvv
          have hr1a := hr1.alloc (.cells #[] 5)
          have ho0 : Ow (w1.alloc (.cells #[] 5)) w1.heap.size (.slice (some ⟨w1.heap.size, 0, none⟩) 0 0) [] := Ow_of_block (heap_alloc_new w1 _) (by simp) (Nat.le_refl _)
          have hlt := hr1.lt
          have hv1k : ∀ k, (Value.slice ao zr.length cap).ownBlock = some k → k < w1.heap.size := fun k hk => by
            rcases hv1 with h | h
            · exact Nat.lt_of_lt_of_le (hv k (by rw [← h]; exact hk)) hs1.size
            · rw [h] at hk; cases hk
          go_wp2_with fail
          refine (raw_any b _ zr m _ hr1a hml).mono ?_
          rintro r w2 ⟨x, rfl, hbx, hl2⟩
          have ho2 : Ow w2 w1.heap.size (.slice (some ⟨w1.heap.size, 0, none⟩) 0 0) [] := by
            obtain ⟨_, _, hs, _⟩ := hl2
            exact ho0.rstep hs hlt
          have hw2 : w1.heap.size ≤ w2.heap.size := by
            obtain ⟨_, _, hs, _⟩ := hl2
            have := hs.size
            simp at this
            omega
          have hl2' : Fleft w1 b (.slice ao zr.length cap) w2 (zr.drop m) 0 := by
            obtain ⟨v2, h1, h2, h3⟩ := hl2
            exact ⟨v2, h1, h2.low _ _ rfl, h3⟩
          clear hl2 ho0
          go_wp2_with (at_builtin; refine wpList_append_bs _ rfl (.tmp 43) (.tmp 46) rfl w1.heap.size _ [] rfl ho2 _ (zr.take m) rfl hbx (by rw [htk.out]; simp; omega) hw2 ?_)
          intro ao3 cap3 w3 ho3 hg3 hat3
          have hl3 := hl2'.grown hg3 hlt (Nat.le_refl _) hv1k (fun k hk => by simp [Value.ownBlock] at hk; omega)
          have ho3' : Ow w3 w.heap.size (.slice ao3 m cap3) (zr.take m) := by
            have := ho3.mono hs1.size
            simpa [htk.out] using this
          have HO : Hid (Ow w3 w.heap.size (.slice ao3 m cap3) (zr.take m)) := ho3'
          have HE : Hid (([] : List Int).length + (zr.take m).length = m) := by show _ = _; rw [htk.out]; simp
          clear ho3 ho3' hg3 hat3 hbx ho2 hl2'
          go_wp2
          go_ret
          rw [HF.out]
          refine ⟨ao3, cap3, ?_, ?_, hl3.trans hs1 hv1⟩
          · simp [htk.out]
          · show Ow _ _ (.slice ao3 (zr.take m).length cap3) (zr.take m)
            rw [htk.out]; exact HO.out
    · have HF : Hid (R = ([], zr, e1)) := by show _ = _; rw [HR2.out]; simp [he1]
      obtain ⟨rfl, rfl⟩ := herr he1
      have hne : (e1 == 0) = false := by simp [he1]
      have hne2 : (e1 != 0) = true := by simp [he1]
      clear HR2 herr
      go_enter Tryd.func44, Tryd.ntmps44
      go_wp2_with fail
      refine HB.out.mono ?_
      rintro r w1 ⟨rfl, v1, hr1, hs1, hv1⟩
      have hc1 := hr1.cell1
      go_wp2
      go_ret
      rw [HF.out]
      exact ⟨none, 0, rfl, World.ownsRow_nil _ _ _ _, v1, hr1, hs1, hv1⟩
  · have HF : Hid (R = ([], zs, e)) := by show _ = _; rw [← HR.out]; simp [bytesR, he]
    have hz0 : zs = [] := by rcases hi with h | h; exact absurd h he; exact h
    subst hz0
    clear HR
    have hne : (e == 0) = false := by simp [he]
    have hne2 : (e != 0) = true := by simp [he]
    go_enter Tryd.func44, Tryd.ntmps44
    go_wp2_with fail
    refine (fnum_err b v e _ hr he).mono ?_
    rintro r w1 ⟨rfl, v1, hr1, hs1, hv1⟩
    have hc1 := hr1.cell1
    go_wp2
    go_ret
    rw [HF.out]
    exact ⟨none, 0, rfl, World.ownsRow_nil _ _ _ _, v1, hr1, hs1, hv1⟩
end Go.Proofs.YtahodgmdikaedaaDoor
