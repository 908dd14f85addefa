/-
  The Reader's Bytes, by contract: whatever is left.
-/
import Derived.Test.YtamifgaaalclcaaDoorReaderHash
namespace Go.Proofs.YtamifgaaalclcaaDoor
open Go.RowKit

theorem numR_err (f k u : Nat) (zs : List Int) (h : (numR f k u zs).2.2 ≠ 0) : (numR f k u zs).1 = 0 ∧ (numR f k u zs).2.1 = [] := by
  induction f generalizing k u zs with
  | zero => exact ⟨rfl, rfl⟩
  | succ f ih =>
    cases zs with
    | nil => exact ⟨rfl, rfl⟩
    | cons z r =>
      by_cases hz : 128 ≤ z
      · rw [numR_more hz] at h ⊢; exact ih _ _ _ h
      · cases hb : badB k z with
        | true => rw [numR_bad hz hb]; exact ⟨rfl, rfl⟩
        | false => rw [numR_good hz hb] at h; exact absurd rfl h
theorem numR_byt (f k u : Nat) (zs : List Int) (h : Byt zs) : Byt (numR f k u zs).2.1 ∧ (numR f k u zs).2.1.length ≤ zs.length := by
  induction f generalizing k u zs with
  | zero => exact ⟨fun z hz => (by cases hz), by simp [numR]⟩
  | succ f ih =>
    cases zs with
    | nil => exact ⟨fun z hz => (by cases hz), by simp [numR]⟩
    | cons z r =>
      have hr : Byt r := fun y hy => h y (by simp [hy])
      by_cases hz : 128 ≤ z
      · rw [numR_more hz]
        have := ih (k + 1) (u + (z.toNat % 128) * 128 ^ k) r hr
        exact ⟨this.1, by have := this.2; simp only [List.length_cons]; omega⟩
      · cases hb : badB k z with
        | true => rw [numR_bad hz hb]; exact ⟨fun z hz => (by cases hz), by simp⟩
        | false => rw [numR_good hz hb]; exact ⟨hr, by simp⟩

/-- Bytes with their length: what is taken, what is left, the error. -/
def bytesR (zs : List Int) (e : Int) : List Int × List Int × Int :=
  if e ≠ 0 then ([], zs, e)
  else if (numR 10 0 0 zs).2.2 ≠ 0 then ([], (numR 10 0 0 zs).2.1, (numR 10 0 0 zs).2.2)
  else if (numR 10 0 0 zs).1 < 0 ∨ 16777216 < (numR 10 0 0 zs).1 then ([], [], 3)
  else if ((numR 10 0 0 zs).2.1.length : Int) < (numR 10 0 0 zs).1 then ([], [], 2)
  else ((numR 10 0 0 zs).2.1.take (numR 10 0 0 zs).1.toNat, (numR 10 0 0 zs).2.1.drop (numR 10 0 0 zs).1.toNat, 0)

theorem Bs.front {w : World} {b off cap len : Nat} {zs : List Int} (h : Bs w (.slice (some ⟨b, off, none⟩) len cap) zs) (n : Nat) (hn : n ≤ zs.length) : Bs w (.slice (some ⟨b, off, none⟩) n cap) (zs.take n) := by
  have hl : (zs.take n).length = n := by simp; omega
  rcases h with ⟨rfl, ao, c, he, hc, hx⟩ | ⟨hz, b', off', cap', he, h1, h2, hcell⟩
  · simp only [Value.slice.injEq] at he
    obtain ⟨rfl, rfl, rfl⟩ := he
    have : n = 0 := by simpa using hn
    subst this
    exact Or.inl ⟨rfl, _, cap, rfl, hc, fun e => by cases e⟩
  · simp only [Value.slice.injEq, Option.some.injEq, Addr.mk.injEq, and_true] at he
    obtain ⟨⟨rfl, rfl⟩, rfl, rfl⟩ := he
    by_cases h0 : n = 0
    · subst h0; exact Or.inl ⟨by simp, _, cap, rfl, h2, fun e => by cases e⟩
    · refine Or.inr ⟨fun e => by rw [e] at hl; simp at hl; omega, b, off, cap, by rw [hl], by omega, h2, fun i hi => ?_⟩
      rw [hcell i (by omega)]
      simp [List.getD, show i < n by omega]
theorem Bs.suffix {w : World} {b off cap len : Nat} {zs : List Int} (h : Bs w (.slice (some ⟨b, off, none⟩) len cap) zs) (n : Nat) (hn : n ≤ zs.length) (hne : zs ≠ []) : Bs w (.slice (some ⟨b, off + n, none⟩) (len - n) (cap - n)) (zs.drop n) := by
  have hl : (zs.drop n).length = zs.length - n := by simp
  rcases h with ⟨h0, _⟩ | ⟨hz, b', off', cap', he, h1, h2, hcell⟩
  · exact absurd h0 hne
  · simp only [Value.slice.injEq, Option.some.injEq, Addr.mk.injEq, and_true] at he
    obtain ⟨⟨rfl, rfl⟩, rfl, rfl⟩ := he
    by_cases h0 : zs.drop n = []
    · have e0 : zs.length - n = 0 := by rw [← hl, h0]; rfl
      rw [e0, h0]
      exact Or.inl ⟨rfl, _, cap - n, rfl, by unfold maxLen at *; omega, fun e => by cases e⟩
    · refine Or.inr ⟨h0, b, off + n, cap - n, by rw [hl], by omega, by unfold maxLen at *; omega, fun i hi => ?_⟩
      have := hcell (n + i) (by omega)
      rw [show off + n + i = off + (n + i) by omega, this]
      simp [List.getD]

theorem Ow.setBelow {w : World} {base b : Nat} {v u : Value} {xs : List Int} (h : Ow w base v xs) (hb : b < base) : Ow (w.setCell ⟨b, 0, none⟩ u) base v xs := ownsRow_setCell_below (a := ⟨b, 0, none⟩) h hb u

set_option maxHeartbeats 3200000 in
theorem rbytes_any (b : Nat) (v : Value) (zs : List Int) (e : Int) (w : World) (hr : Rd w b v zs e) (hz : Byt zs) :
    Calls Tryd.prog 27 #[.pointer (some ⟨b, 0, none⟩)] w fun r w' => ∃ ao cap, r = .returned (.slice ao (bytesR zs e).1.length cap) ∧ Ow w' w.heap.size (.slice ao (bytesR zs e).1.length cap) (bytesR zs e).1 ∧ Rleft w b v w' (bytesR zs e).2.1 (bytesR zs e).2.2 := by
  generalize hres : bytesR zs e = R
  have HR : Hid (bytesR zs e = R) := hres
  clear hres
  by_cases he : e = 0
  · subst he
    have hby := (numR_byt 10 0 0 zs hz).1
    have herr := numR_err 10 0 0 zs
    generalize hN : numR 10 0 0 zs = N at *
    obtain ⟨n, zr, e1⟩ := N
    have HN : Hid (numR 10 0 0 zs = (n, zr, e1)) := hN
    have HR2 : Hid (R = if e1 ≠ 0 then ([], zr, e1) else if n < 0 ∨ 16777216 < n then ([], [], 3) else if (zr.length : Int) < n then ([], [], 2) else (zr.take n.toNat, zr.drop n.toNat, 0)) := by
      show _ = _
      rw [← HR.out]; unfold bytesR; rw [hN]; simp
    clear hN HR
    by_cases he1 : e1 = 0
    · subst he1
      by_cases hn1 : n < 0
      · have HF : Hid (R = ([], [], 3)) := by show _ = _; rw [HR2.out]; simp [hn1]
        clear HR2 herr
        go_enter Tryd.func27, Tryd.ntmps27
        go_wp2_with fail
        refine (rnum_any b v zs _ hr hz).mono ?_
        rw [HN.out]
        rintro e w1 ⟨rfl, v1, hr1, hs1, hv1⟩
        go_wp2_with fail
        refine (fail_any b _ _ _ 3 _ hr1).mono ?_
        rintro e w2 ⟨rfl, hr2, hs2⟩
        go_wp2
        go_ret
        rw [HF.out]
        exact ⟨none, 0, rfl, World.ownsRow_nil _ _ _ _, _, hr2, hs1.trans hs2, Or.inr rfl⟩
      by_cases hn2 : 16777216 < n
      · have HF : Hid (R = ([], [], 3)) := by show _ = _; rw [HR2.out]; simp [hn2]
        clear HR2 herr
        go_enter Tryd.func27, Tryd.ntmps27
        go_wp2_with fail
        refine (rnum_any b v zs _ hr hz).mono ?_
        rw [HN.out]
        rintro e w1 ⟨rfl, v1, hr1, hs1, hv1⟩
        go_wp2_with fail
        refine (fail_any b _ _ _ 3 _ hr1).mono ?_
        rintro e w2 ⟨rfl, hr2, hs2⟩
        go_wp2
        go_ret
        rw [HF.out]
        exact ⟨none, 0, rfl, World.ownsRow_nil _ _ _ _, _, hr2, hs1.trans hs2, Or.inr rfl⟩
      by_cases hn3 : (zr.length : Int) < n
      · have HF : Hid (R = ([], [], 2)) := by show _ = _; rw [HR2.out]; simp [hn1, hn2, hn3]
        clear HR2 herr
        go_enter Tryd.func27, Tryd.ntmps27
        go_wp2_with fail
        refine (rnum_any b v zs _ hr hz).mono ?_
        rw [HN.out]
        rintro e w1 ⟨rfl, v1, hr1, hs1, hv1⟩
        go_wp2_with fail
        refine (has_no b _ _ _ _ hr1 hn3).mono ?_
        rintro e w2 ⟨rfl, hr2, hs2⟩
        go_wp2
        go_ret
        rw [HF.out]
        exact ⟨none, 0, rfl, World.ownsRow_nil _ _ _ _, _, hr2, hs1.trans hs2, Or.inr rfl⟩
      · have HF : Hid (R = (zr.take n.toNat, zr.drop n.toNat, 0)) := by show _ = _; rw [HR2.out]; simp [hn1, hn2, hn3]
        clear HR2 herr
        obtain ⟨m, rfl⟩ := Int.eq_ofNat_of_zero_le (show 0 ≤ n by omega)
        rw [Int.toNat_natCast] at HF
        have hml : m ≤ zr.length := by omega
        clear hn3 hn1
        go_enter Tryd.func27, Tryd.ntmps27
        go_wp2_with fail
        refine (rnum_any b v zs _ hr hz).mono ?_
        rw [HN.out]
        rintro e w1 ⟨rfl, v1, hr1, hs1, hv1⟩
        go_wp2_with fail
        refine (has_yes b _ _ _ _ hr1 (by omega)).mono ?_
        rintro e w2 ⟨rfl, rfl⟩
        have hc0 := hr1.cell0
        obtain ⟨ao, cap, hvv, hm⟩ := hr1.2.1.len
        subst hvv
        by_cases hz0 : zr = []
        · subst hz0
          obtain rfl : m = 0 := by simpa using hml
          rcases hr1.2.1 with ⟨_, ao', cap', hsl, hcm, hcn⟩ | ⟨h, _⟩
          · simp only [Value.slice.injEq] at hsl
            obtain ⟨rfl, _, rfl⟩ := hsl
            have HF2 : Hid (R = ([], [], 0)) := HF
            clear HF
            have hf0 := hr1.frozen 0
            cases ao with
            | none =>
              obtain rfl := hcn rfl
              go_wp2_with fail
              refine (clone_any _ [] _ (Bs_nil _) (by simp)).mono ?_
              rintro e w2 ⟨ao2, cap2, rfl, ho2, B2⟩
              have hr2 := hr1.below B2 (Nat.le_refl _)
              have hc2 := hr2.cell0
              have hf2 := hr2.frozen 0
              have R2 := hr2.set0 (Bs_nil _) (by simp [Value.ownBlock])
              have ho3 : Ow (w2.setCell ⟨b, 0, none⟩ (.slice none 0 0)) w.heap.size (.slice ao2 0 cap2) [] := (ho2.setBelow hr1.lt).mono hs1.size
              clear ho2
              go_wp2
              go_ret
              rw [HF2.out]
              exact ⟨ao2, cap2, rfl, ho3, _, R2.1, (hs1.trans (Rstep.of_below B2 (Nat.le_refl _))).trans R2.2, Or.inr rfl⟩
            | some a =>
              go_wp2_with fail
              refine (clone_any _ [] _ hr1.2.1 (by simp)).mono ?_
              rintro e w2 ⟨ao2, cap2, rfl, ho2, B2⟩
              have hr2 := hr1.below B2 (Nat.le_refl _)
              have hc2 := hr2.cell0
              have hf2 := hr2.frozen 0
              have R2 := hr2.set0 (zs' := []) hr2.2.1 hr2.2.2
              have ho3 : Ow (w2.setCell ⟨b, 0, none⟩ (.slice (some a) 0 cap)) w.heap.size (.slice ao2 0 cap2) [] := (ho2.setBelow hr1.lt).mono hs1.size
              clear ho2
              go_wp2
              go_ret
              rw [HF2.out]
              exact ⟨ao2, cap2, rfl, ho3, _, R2.1, (hs1.trans (Rstep.of_below B2 (Nat.le_refl _))).trans R2.2, hv1⟩
          · exact absurd rfl h
        · rcases hr1.2.1 with ⟨h, _⟩ | ⟨_, b2, off, cap', hsl, hca, hcb, hcell⟩
          · exact absurd h hz0
          simp only [Value.slice.injEq] at hsl
          obtain ⟨rfl, _, rfl⟩ := hsl
          have hpre := hr1.2.1.front m hml
          have htk : (zr.take m).length = m := by simp; omega
          have hf0 := hr1.frozen 0
          clear hcell
          unfold maxLen at hcb
          go_wp2_with fail
          refine (clone_any _ _ _ hpre (by omega)).mono ?_
          rintro e w2 ⟨ao2, cap2, rfl, ho2, B2⟩
          have hr2 := hr1.below B2 (Nat.le_refl _)
          have hc2 := hr2.cell0
          have hf2 := hr2.frozen 0
          have hsuf := hr2.2.1.suffix m hml hz0
          have hnb : b2 ≠ b := fun e => hr1.2.2 (by simp [Value.ownBlock, e])
          rw [htk] at ho2
          have HF1 : Hid (R.1 = zr.take m ∧ R.2.1 = zr.drop m ∧ R.2.2 = 0) := by rw [HF.out]; exact ⟨rfl, rfl, rfl⟩
          by_cases hcm : cap = m
          · have hd : zr.drop m = [] := List.drop_eq_nil_of_le (by omega)
            have R2 := hr2.set0 (v' := .slice (some ⟨b2, off, none⟩) 0 0) (zs' := []) (Or.inl ⟨rfl, _, 0, rfl, by simp [maxLen], fun e => by cases e⟩) (by simpa [Value.ownBlock] using hnb)
            have ho3 : Ow (w2.setCell ⟨b, 0, none⟩ (.slice (some ⟨b2, off, none⟩) 0 0)) w.heap.size (.slice ao2 m cap2) (zr.take m) := (ho2.setBelow hr1.lt).mono hs1.size
            have hzm : zr.length - m = 0 := by omega
            have HD : Hid (zr.drop m = []) := hd
            have HTK : Hid ((zr.take m).length = m) := htk
            clear hsuf hpre ho2 hd htk HF
            go_wp2
            go_ret
            rw [HF1.out.1, HF1.out.2.1, HF1.out.2.2, HTK.out, HD.out]
            exact ⟨ao2, cap2, rfl, ho3, _, R2.1, (hs1.trans (Rstep.of_below B2 (Nat.le_refl _))).trans R2.2, hv1⟩
          · have R2 := hr2.set0 hsuf (by simpa [Value.ownBlock] using hnb)
            have ho3 : Ow (w2.setCell ⟨b, 0, none⟩ (.slice (some ⟨b2, off + m, none⟩) (zr.length - m) (cap - m))) w.heap.size (.slice ao2 m cap2) (zr.take m) := (ho2.setBelow hr1.lt).mono hs1.size
            have HTK : Hid ((zr.take m).length = m) := htk
            clear hsuf hpre ho2 htk HF
            go_wp2
            go_ret
            rw [HF1.out.1, HF1.out.2.1, HF1.out.2.2, HTK.out]
            exact ⟨ao2, cap2, rfl, ho3, _, R2.1, (hs1.trans (Rstep.of_below B2 (Nat.le_refl _))).trans R2.2, hv1⟩
    · have HF : Hid (R = ([], zr, e1)) := by show _ = _; rw [HR2.out]; simp [he1]
      obtain ⟨rfl, rfl⟩ := herr he1
      clear HR2 herr
      go_enter Tryd.func27, Tryd.ntmps27
      go_wp2_with fail
      refine (rnum_any b v zs _ hr hz).mono ?_
      rw [HN.out]
      rintro e w1 ⟨rfl, v1, hr1, hs1, hv1⟩
      go_wp2_with fail
      refine (has_err b _ _ _ _ _ hr1 he1).mono ?_
      rintro e w2 ⟨rfl, rfl⟩
      go_wp2
      go_ret
      rw [HF.out]
      exact ⟨none, 0, rfl, World.ownsRow_nil _ _ _ _, v1, hr1, hs1, hv1⟩
  · have HF : Hid (R = ([], zs, e)) := by show _ = _; rw [← HR.out]; simp [bytesR, he]
    clear HR
    go_enter Tryd.func27, Tryd.ntmps27
    go_wp2_with fail
    refine (rnum_err b v zs e _ hr he).mono ?_
    rintro e w1 ⟨rfl, rfl⟩
    go_wp2_with fail
    refine (has_err b _ _ _ _ _ hr he).mono ?_
    rintro e w2 ⟨rfl, rfl⟩
    go_wp2
    go_ret
    rw [HF.out]
    exact ⟨none, 0, rfl, World.ownsRow_nil _ _ _ _, v, hr, Rstep.refl _ _, Or.inl rfl⟩
end Go.Proofs.YtamifgaaalclcaaDoor
