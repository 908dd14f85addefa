/-
  Joined from: FrHelp, FrSumsWalk, FrSlices, FrSpoil, FrRefReader, FrRefReaderB.
-/
import Derived.Test.YtnkjhooeklodcaaGreatDoorM02
import Derived.Deep.RegionHeld3
import Derived.Deep.QuietTactic
import Derived.BigQuiet
section
/-
  The laws' helpers roomy and stands, and the document's own Sum (one binary digit a step).
-/
namespace Go.Proofs.YtnkjhooeklodcaaGreatDoor.Fr
open Go.RowKit

theorem Ow.take {w : World} {base g m cap : Nat} {ys : List Int} (h : Ow w base (.slice (some ⟨g, 0, none⟩) m cap) ys) (k : Nat) (hk : k ≤ ys.length) : Ow w base (.slice (some ⟨g, 0, none⟩) k cap) (ys.take k) := by
  obtain ⟨ao, c, he, ⟨rfl, _⟩ | ⟨g', cur, rfl, hb, hl, hg, hn, hc, hs, ht⟩⟩ := h.form
  · simp at he
  · simp only [Value.slice.injEq, Option.some.injEq, Addr.mk.injEq, and_true] at he
    obtain ⟨rfl, rfl, rfl⟩ := he
    have hlen : (ys.take k).length = k := by simp; omega
    refine ⟨by simp [cellsOf], Or.inr ⟨g, cap, cur, by rw [hlen], hb, hg, by rw [hlen]; omega, hc, by simpa using hs, ?_⟩⟩
    rw [hlen, Nat.mul_one]
    have := congrArg (List.take k) ht
    rw [List.take_take, Nat.min_eq_left hk] at this
    rw [this]
    simp [cellsOf, List.map_take]

theorem Ow.grow_form {w : World} {base m cap : Nat} {ao : Option Addr} {ys : List Int} (h : Ow w base (.slice ao m cap) ys) (hn : ys ≠ []) : ∃ g, ao = some ⟨g, 0, none⟩ ∧ base ≤ g ∧ g < w.heap.size ∧ m = ys.length ∧ ys.length ≤ cap ∧ cap ≤ maxLen := by
  obtain ⟨ao, c, he, ⟨rfl, _, h0⟩ | ⟨g', cur, rfl, hb, hl, hg, hn, hc, hs, ht⟩⟩ := h.form
  · exact absurd h0 hn
  · simp only [Value.slice.injEq] at he
    obtain ⟨rfl, rfl, rfl⟩ := he
    exact ⟨g', rfl, hb, hl, rfl, hn, hc⟩

set_option maxHeartbeats 800000 in
theorem roomy_any (sv : Value) (zs : List Int) (w : World) (hb : Bs w sv zs) (hz : zs.length ≤ 100000000000000) :
    Calls Tryz.prog 37 #[sv] w fun e w' => ∃ g cap, e = .returned (.slice (some ⟨g, 0, none⟩) (zs.length + 1) cap) ∧ Ow w' w.heap.size (.slice (some ⟨g, 0, none⟩) (zs.length + 1) cap) (zs ++ [171]) ∧ Below w.heap.size w w' ∧ w.heap.size ≤ g ∧ zs.length + 2 ≤ cap := by
  obtain ⟨ao, cap, hsv, hm⟩ := hb.len
  subst hsv
  have hown0 : Ow (w.alloc (.cells #[] 5)) w.heap.size (.slice (some ⟨w.heap.size, 0, none⟩) 0 0) [] := Ow_of_block (heap_alloc_new w _) (by simp) (Nat.le_refl _)
  have hb1 : Bs (w.alloc (.cells #[] 5)) (.slice ao zs.length cap) zs := hb.below ((Below.refl _ _).alloc (Nat.le_refl _) _) (Nat.le_refl _)
  go_enter Tryz.func37, Tryz.ntmps37
  go_wp2_with (at_builtin; refine wpList_append_bs _ rfl (.tmp 3) (.tmp 4) rfl w.heap.size _ [] rfl hown0 _ zs rfl hb1 (by simp; omega) (by simp) ?_)
  intro ao1 cap1 w1 hown1 hgrow1 hat1
  have B1 : Below w.heap.size w w1 := ((Below.refl _ _).alloc (Nat.le_refl _) _).grown hgrow1 (by simp) (fun k hk => by simp [Value.ownBlock] at hk; omega)
  have hs1 := B1.size
  have hown1' : Ow (w1.alloc (.cells #[.int .u8 171] 5)) w.heap.size (.slice ao1 zs.length cap1) zs := World.ownsRow.alloc hown1 _
  have hbs1 : Bs (w1.alloc (.cells #[.int .u8 171] 5)) (.slice (some ⟨w1.heap.size, 0, none⟩) 1 1) [171] := Bs_of_block (heap_alloc_new w1 _) (by simp [maxLen])
  go_wp2_with (at_builtin; refine wpList_append_bs _ rfl (.tmp 5) (.tmp 6) rfl w.heap.size _ zs rfl hown1' _ [171] rfl hbs1 (by simp; omega) (by simp; omega) ?_)
  intro ao2 cap2 w2 hown2 hgrow2 hat2
  have B2 : Below w.heap.size w w2 := (B1.alloc hs1 _).grown hgrow2 (by simp; omega) (fun k hk => (World.ownsRow.lt hown1' k hk).1)
  have hs2 := B2.size
  obtain ⟨ys, hys⟩ : ∃ ys, ys = zs ++ [171] := ⟨_, rfl⟩
  have hyl : zs.length + 1 = ys.length := by rw [hys]; simp
  rw [← hys] at hown2
  have hown2' : Ow (w2.alloc (.cells #[.int .u8 171] 5)) w.heap.size (.slice ao2 (zs.length + 1) cap2) ys := World.ownsRow.alloc hown2 _
  have hbs2 : Bs (w2.alloc (.cells #[.int .u8 171] 5)) (.slice (some ⟨w2.heap.size, 0, none⟩) 1 1) [171] := Bs_of_block (heap_alloc_new w2 _) (by simp [maxLen])
  have HY : Hid (ys = zs ++ [171]) := hys
  have HL : Hid (zs.length + 1 = ys.length) := hyl
  have hy1 : zs.length + 1 ≤ ys.length := by omega
  have hy2 : ys.length ≤ zs.length + 1 := by omega
  clear hys hyl
  go_wp2_with (at_builtin; refine wpList_append_bs _ rfl (.tmp 7) (.tmp 8) rfl w.heap.size _ ys rfl hown2' _ [171] rfl hbs2 (by simp; omega) (by simp; omega) ?_)
  intro ao3 cap3 w3 hown3 hgrow3 hat3
  have B3 : Below w.heap.size w w3 := (B2.alloc hs2 _).grown hgrow3 (by simp; omega) (fun k hk => (World.ownsRow.lt hown2' k hk).1)
  obtain ⟨g, hg, hg1, hg2, hg3, hg4, hg5⟩ := hown3.grow_form (by simp)
  subst hg
  have hl3 : (ys ++ [(171 : Int)]).length = ys.length + 1 := by simp
  have hfin := hown3.take (zs.length + 1) (by rw [hl3]; omega)
  rw [show (ys ++ [(171 : Int)]).take (zs.length + 1) = ys by rw [HL.out]; simp, HY.out] at hfin
  rw [hl3] at hg4
  have hcp : zs.length + 1 ≤ cap3 := by omega
  have hcp2 : zs.length + 2 ≤ cap3 := by omega
  unfold maxLen at hg5
  clear hown3 hgrow3 hat3 hown2' hbs2 hown2 hgrow2 hat2 hown1' hbs1 hown1 hgrow1 hat1 hown0 hb1 HY hl3 hg3 hg4
  go_wp2
  go_ret
  exact ⟨g, cap3, rfl, hfin, B3, hg1, hcp2⟩

theorem Ow.cell {w : World} {base g m cap : Nat} {ys : List Int} (h : Ow w base (.slice (some ⟨g, 0, none⟩) m cap) ys) (i : Nat) (hi : i < ys.length) : w.cell? ⟨g, i, none⟩ = some (.int .u8 (ys.getD i 0)) := by
  have := World.ownsRow.cells h (g := g) rfl i _ (cellsOf_get' ys i hi)
  simpa [Addr.add_lit] using this
theorem Sm.cell {w w' : World} (h : Sm w w') {a : Addr} {v : Value} (hc : w.cell? a = some v) : w'.cell? a = some v := by
  rw [World.cell?_of_block (w := w) (by rw [h.heap])]; exact hc
theorem Ow.bounds {w : World} {base g m cap : Nat} {ys : List Int} (h : Ow w base (.slice (some ⟨g, 0, none⟩) m cap) ys) : m = ys.length ∧ ys.length ≤ cap ∧ cap ≤ maxLen := by
  obtain ⟨ao, c, he, ⟨rfl, _, h0⟩ | ⟨g', cur, rfl, hb, hl, hg, hn, hc, hs, ht⟩⟩ := h.form
  · simp at he
  · simp only [Value.slice.injEq] at he
    obtain ⟨_, rfl, rfl⟩ := he
    exact ⟨rfl, hn, hc⟩

set_option maxHeartbeats 800000 in
theorem stands_any (base g cap : Nat) (sv : Value) (zs : List Int) (w : World) (ho : Ow w base (.slice (some ⟨g, 0, none⟩) (zs.length + 1) cap) (zs ++ [171])) (hb : Bs w sv zs) (hz : zs.length ≤ 100000000000000) :
    Calls Tryz.prog 38 #[.slice (some ⟨g, 0, none⟩) (zs.length + 1) cap, sv] w fun e w' => e = .returned (.bool true) ∧ Sm w w' := by
  obtain ⟨ao, cap', hsv, hm⟩ := hb.len
  subst hsv
  obtain ⟨-, hc1, hc2⟩ := ho.bounds
  have hc1' : zs.length + 1 ≤ cap := by simpa using hc1
  clear hc1
  unfold maxLen at hc2
  have hc := ho.cell zs.length (by simp)
  rw [show (zs ++ [(171 : Int)]).getD zs.length 0 = 171 by simp [List.getD]] at hc
  have ht := (ho.take zs.length (by simp)).bs
  rw [show (zs ++ [(171 : Int)]).take zs.length = zs by simp] at ht
  have heq : eqB zs zs = true := eqB_true rfl
  go_enter Tryz.func38, Tryz.ntmps38
  go_wp2_with fail
  refine (same_any _ _ zs zs _ ht hb).mono ?_
  rintro e w1 ⟨rfl, hsm⟩
  rw [heq]
  have hcc := hsm.cell hc
  clear hc
  go_wp2
  go_ret
  exact ⟨rfl, hsm⟩

def bitN : Nat → Nat → Nat
  | 0, c => c
  | j + 1, c => bit1 (bitN j c)

set_option maxRecDepth 100000 in
set_option maxHeartbeats 1600000 in
theorem refSum_any (va : Value) (xs : List Int) (w : World) (ha : Bs w va xs) (hx : Byt xs) :
    Calls Tryz.prog 83 #[va] w fun e w' => e = .returned (.int .u32 (sumOf xs : Nat)) ∧ w = w' := by
  obtain ⟨a1, c1, h1, m1⟩ := ha.len
  subst h1
  unfold maxLen at m1
  go_enter Tryz.func83, Tryz.ntmps83
  go_wp2
  go_loop [3, 4] (fun s i => ∃ (k t : Nat), k ≤ xs.length ∧ i = .int .i64 k ∧ s = .int .u32 t ∧ t < 4294967296 ∧ Hid (t = crcAll 4294967295 (xs.take k))) (fun _ i => xs.length - (intOf i).toNat)
  case atStart => exact ⟨0, 4294967295, Nat.zero_le _, rfl, rfl, by decide, rfl⟩
  case round =>
    obtain ⟨k, t, hk, rfl, rfl, ht1, HT⟩ := hrel
    by_cases hlt : k < xs.length
    · rcases ha with ⟨h0, _⟩ | ⟨_, b1, o1, d1, he1, hc1, hc2, hcell1⟩
      · subst h0; simp at hlt
      simp only [Value.slice.injEq] at he1
      obtain ⟨rfl, _, rfl⟩ := he1
      have hc := hcell1 k hlt
      clear hcell1
      obtain ⟨hx0, hx1⟩ := hx _ (getD_mem xs k hlt)
      have HN : Hid (xs.take (k + 1) = xs.take k ++ [xs.getD k 0]) := take_snoc xs k hlt
      generalize xs.getD k 0 = x at *
      obtain ⟨X, rfl⟩ := Int.eq_ofNat_of_zero_le hx0
      obtain ⟨t1, q1⟩ : ∃ t1, t1 = t ^^^ X := ⟨_, rfl⟩
      have b1' : t1 < 4294967296 := q1 ▸ xor_lt32 ht1 (by omega)
      have e0 : ((X : Int) % 4294967296) = X := by omega
      have e1 : bits .xor .u32 (t : Int) (X : Int) = (t1 : Int) := by rw [u32_xor_nat t X ht1 (by omega), q1]
      have HT2 : Hid (bitN 8 t1 = crcAll 4294967295 (xs.take (k + 1))) := by
        show _ = _
        rw [HN.out, crcAll_snoc, ← HT.out, crcB_bits, q1]
        rfl
      clear q1 HN HT
      go_wp2
      go_loop [3, 5] (fun s i => ∃ (j u : Nat), j ≤ 8 ∧ i = .int .i64 j ∧ s = .int .u32 u ∧ u < 4294967296 ∧ Hid (u = bitN j t1)) (fun _ i => 8 - (intOf i).toNat)
      case atStart => exact ⟨0, t1, by decide, rfl, rfl, b1', rfl⟩
      case round =>
        obtain ⟨j, u, hj, rfl, rfl, hu1, HU⟩ := hrel
        by_cases hj8 : j < 8
        · have HU2 : Hid (bit1 u = bitN (j + 1) t1) := by show _ = _; rw [HU.out]; rfl
          have hb := bit1_lt u hu1
          by_cases ho : u % 2 = 1
          · have ea : bits .and .u32 (u : Int) 1 = 1 := by
              have := u32_and_nat u 1 hu1 (by decide)
              rw [nat_mask1, ho] at this; exact this
            have ex : bits .xor .u32 ((u : Int) / 2) 2197175160 = ((bit1 u : Nat) : Int) := by
              have := u32_xor_nat (u / 2) 2197175160 (by omega) (by decide)
              rw [← bit1_odd ho] at this; simpa using this
            generalize bit1 u = u2 at *
            clear HU ho e0 e1 hc
            go_wp2
            go_round
            case rel => exact ⟨j + 1, u2, by omega, by go_num, rfl, hb, HU2⟩
            case measure => simp [intOf]; omega
          · have ea : bits .and .u32 (u : Int) 1 = 0 := by
              have := u32_and_nat u 1 hu1 (by decide)
              rw [nat_mask1, show u % 2 = 0 by omega] at this; exact this
            have ed : bit1 u = u / 2 := bit1_even ho
            rw [ed] at HU2 hb
            clear HU ho e0 e1 hc ed
            go_wp2
            go_round
            case rel => exact ⟨j + 1, u / 2, by omega, by go_num, by go_num, hb, HU2⟩
            case measure => simp [intOf]; omega
        · obtain rfl : j = 8 := by omega
          clear e0 e1 hc
          go_wp2
          go_round
          case rel => exact ⟨k + 1, u, by omega, by go_num, rfl, hu1, HU.out.trans HT2.out⟩
          case measure => simp [intOf]; omega
    · have hke : xs.take k = xs := List.take_of_length_le (by omega)
      have HF : Hid (bits .xor .u32 IntKind.u32.max (t : Int) = ((sumOf xs : Nat) : Int)) := by
        show _ = _
        have hm : IntKind.u32.max = ((4294967295 : Nat) : Int) := by decide
        rw [hm, u32_xor_nat 4294967295 t (by decide) ht1, Nat.xor_comm, not32 t ht1, sumOf, HT.out, hke]
      clear HT hke
      go_wp2
      go_ret
      exact ⟨ret_int HF.out, rfl⟩
end Go.Proofs.YtnkjhooeklodcaaGreatDoor.Fr
end

section
/-
  OctetSums, walked: for every row of bytes, place and byte it answers true, and writes nothing that was there.
-/
namespace Go.Proofs.YtnkjhooeklodcaaGreatDoor.Fr
open Go.RowKit

theorem Ow.set {w : World} {base g m cap : Nat} {ys : List Int} (h : Ow w base (.slice (some ⟨g, 0, none⟩) m cap) ys) (i : Nat) (x : Int) :
    Ow (w.setCell ⟨g, i, none⟩ (.int .u8 x)) base (.slice (some ⟨g, 0, none⟩) m cap) (ys.set i x) := by
  obtain ⟨ao, c, he, ⟨rfl, _⟩ | ⟨g', cur, rfl, hb, hl, hg, hn, hc, hs, ht⟩⟩ := h.form
  · simp at he
  · simp only [Value.slice.injEq, Option.some.injEq, Addr.mk.injEq, and_true] at he
    obtain ⟨rfl, rfl, rfl⟩ := he
    refine ⟨by simp [cellsOf], Or.inr ⟨g, cap, cur.setIfInBounds i (.int .u8 x), by simp, hb, ?_, by simpa using hn, hc, by simpa using hs, ?_⟩⟩
    · simp only [World.setCell, Array.getElem?_modify, hg]
      simp
    · simp only [List.length_set, Nat.mul_one, Array.toList_setIfInBounds]
      rw [List.take_set, ht]
      simp [cellsOf, List.map_set]

theorem and30 (a : Int) : ∃ A : Nat, bits .and .i64 a 1073741823 = (A : Int) ∧ A < 1073741824 := by
  have e : bits .and .i64 a 1073741823 = IntKind.i64.wrap (((BitVec.ofInt 64 a &&& BitVec.ofInt 64 1073741823).toNat : Nat) : Int) := rfl
  have hb : (BitVec.ofInt 64 a &&& BitVec.ofInt 64 1073741823).toNat < 1073741824 := by
    rw [BitVec.toNat_and]
    have : (BitVec.ofInt 64 1073741823).toNat = 1073741823 := by decide
    rw [this]
    exact Nat.lt_of_le_of_lt Nat.and_le_right (by decide)
  refine ⟨_, ?_, hb⟩
  rw [e]
  generalize (BitVec.ofInt 64 a &&& BitVec.ofInt 64 1073741823).toNat = n at *
  simp [IntKind.wrap, IntKind.bits, IntKind.signed]
  omega

theorem Ow.frozen {w : World} {base g m cap : Nat} {ys : List Int} (h : Ow w base (.slice (some ⟨g, 0, none⟩) m cap) ys) (i : Nat) : w.frozen? ⟨g, i, none⟩ = false := by
  obtain ⟨ao, c, he, ⟨rfl, _⟩ | ⟨g', cur, rfl, hb, hl, hg, hn, hc, hs, ht⟩⟩ := h.form
  · simp at he
  · simp only [Value.slice.injEq, Option.some.injEq, Addr.mk.injEq, and_true] at he
    obtain ⟨rfl, rfl, rfl⟩ := he
    simp [World.frozen?, hg]

theorem sumOf_set (zs : List Int) (i : Nat) (x : Int) (hz : ∀ z ∈ zs, 0 ≤ z ∧ z < 256) (hx : 0 ≤ x ∧ x < 256) (hi : i < zs.length) (hne : x ≠ zs.getD i 0) : sumOf (zs.set i x) ≠ sumOf zs := by
  have e1 : zs.set i x = zs.take i ++ x :: zs.drop (i + 1) := by rw [List.set_eq_take_append_cons_drop]; simp [hi]
  have e2 : zs = zs.take i ++ zs.getD i 0 :: zs.drop (i + 1) := by
    have : zs.getD i 0 = zs[i] := by simp [List.getD, hi]
    rw [this]; simp
  have h1 := sumOf_other (zs.take i) (zs.drop (i + 1)) x (zs.getD i 0) (fun z hz' => hz z (List.mem_of_mem_take hz')) (fun z hz' => hz z (List.mem_of_mem_drop hz')) hx (hz _ (getD_mem zs i hi)) hne
  rw [e1]
  rw [← e2] at h1
  exact h1

end Go.Proofs.YtnkjhooeklodcaaGreatDoor.Fr
end

section
/-
  Slices of bytes: the front and the rest of one, and what a step leaves of one. No walk.
-/
namespace Go.Proofs.YtnkjhooeklodcaaGreatDoor.Fr
open Go.RowKit
theorem Bs.front {w : World} {b off cap len : Nat} {zs : List Int} (h : Bs w (.slice (some ⟨b, off, none⟩) len cap) zs) (n : Nat) (hn : n ≤ zs.length) : Bs w (.slice (some ⟨b, off, none⟩) n cap) (zs.take n) := by
  have hl : (zs.take n).length = n := by simp; omega
  rcases h with ⟨rfl, ao, c, he, hc, hx⟩ | ⟨hz, b', off', cap', he, h1, h2, hcell⟩
  · simp only [Value.slice.injEq] at he
    obtain ⟨rfl, rfl, rfl⟩ := he
    have : n = 0 := by simpa using hn
    subst this
    exact Or.inl ⟨rfl, _, cap, rfl, hc, fun e => by cases e⟩
  · simp only [Value.slice.injEq, Option.some.injEq, Addr.mk.injEq, and_true] at he
    obtain ⟨⟨rfl, rfl⟩, rfl, rfl⟩ := he
    by_cases h0 : n = 0
    · subst h0; exact Or.inl ⟨by simp, _, cap, rfl, h2, fun e => by cases e⟩
    · refine Or.inr ⟨fun e => by rw [e] at hl; simp at hl; omega, b, off, cap, by rw [hl], by omega, h2, fun i hi => ?_⟩
      rw [hcell i (by omega)]
      simp [List.getD, show i < n by omega]
theorem Bs.suffix {w : World} {b off cap len : Nat} {zs : List Int} (h : Bs w (.slice (some ⟨b, off, none⟩) len cap) zs) (n : Nat) (hn : n ≤ zs.length) (hne : zs ≠ []) : Bs w (.slice (some ⟨b, off + n, none⟩) (len - n) (cap - n)) (zs.drop n) := by
  have hl : (zs.drop n).length = zs.length - n := by simp
  rcases h with ⟨h0, _⟩ | ⟨hz, b', off', cap', he, h1, h2, hcell⟩
  · exact absurd h0 hne
  · simp only [Value.slice.injEq, Option.some.injEq, Addr.mk.injEq, and_true] at he
    obtain ⟨⟨rfl, rfl⟩, rfl, rfl⟩ := he
    by_cases h0 : zs.drop n = []
    · have e0 : zs.length - n = 0 := by rw [← hl, h0]; rfl
      rw [e0, h0]
      exact Or.inl ⟨rfl, _, cap - n, rfl, by unfold maxLen at *; omega, fun e => by cases e⟩
    · refine Or.inr ⟨h0, b, off + n, cap - n, by rw [hl], by omega, by unfold maxLen at *; omega, fun i hi => ?_⟩
      have := hcell (n + i) (by omega)
      rw [show off + n + i = off + (n + i) by omega, this]
      simp [List.getD]
theorem Ow.setBelow {w : World} {base b : Nat} {v u : Value} {xs : List Int} (h : Ow w base v xs) (hb : b < base) : Ow (w.setCell ⟨b, 0, none⟩ u) base v xs := ownsRow_setCell_below (a := ⟨b, 0, none⟩) h hb u
theorem Bs.lt {w : World} {v : Value} {zs : List Int} (h : Bs w v zs) (hz : zs ≠ []) : ∀ k, v.ownBlock = some k → k < w.heap.size := by
  rcases h with ⟨h0, _⟩ | ⟨_, b, off, cap, rfl, _, _, hcell⟩
  · exact absurd h0 hz
  · intro k hk
    have hk' : b = k := by simpa [Value.ownBlock] using hk
    subst hk'
    exact World.block_lt_of_cell? w _ (hcell 0 (List.length_pos_iff.2 hz))
theorem Ow.keep {w w' : World} {base : Nat} {v : Value} {zs : List Int} (h : Ow w base v zs) (hk : ∀ k, v.ownBlock = some k → k < w.heap.size → w'.heap[k]? = w.heap[k]?) : Ow w' base v zs := by
  refine ⟨h.1, ?_⟩
  rcases h.2 with h2 | ⟨g, cap, cur, rfl, hb, hg, rest⟩
  · exact Or.inl h2
  · exact Or.inr ⟨g, cap, cur, rfl, hb, by rw [hk g rfl (Array.getElem?_eq_some_iff.1 hg).1]; exact hg, rest⟩
end Go.Proofs.YtnkjhooeklodcaaGreatDoor.Fr
end

section
/-
  The law's spoil, by contract: it writes into the slice's own row and into new memory alone.
-/
namespace Go.Proofs.YtnkjhooeklodcaaGreatDoor.Fr
open Go.RowKit

theorem grown_set {w w' : World} {row : Option Nat} (h : w.grownBy w' row) (g i : Nat) (u : Value) (hg : row = some g ∨ w.heap.size ≤ g) : w.grownBy (w'.setCell ⟨g, i, none⟩ u) row :=
  ⟨h.os, h.tape, h.output, by simpa [World.setCell] using h.size, fun k hk hr => (Below.heap_setCell _ _ _ _ (fun e => by
    have e' : k = g := e
    rcases hg with hg | hg
    · exact hr (by rw [hg, e'])
    · omega)).trans (h.block k hk hr)⟩

set_option maxHeartbeats 1600000 in
theorem spoil_any (base : Nat) (v : Value) (zs : List Int) (w : World) (ho : Ow w base v zs) (hb : base ≤ w.heap.size) (hz : zs.length ≤ 100000000000) :
    Calls Tryz.prog 39 #[v] w fun e w' => e = .returned (.tuple #[]) ∧ w.grownBy w' v.ownBlock := by
  obtain ⟨ao, cap, hv, hj⟩ := ho.form
  clear hj
  subst hv
  have ho1 : Ow (w.alloc (.cells #[.int .u8 99] 5)) base (.slice ao zs.length cap) zs := World.ownsRow.alloc ho _
  have hbs1 : Bs (w.alloc (.cells #[.int .u8 99] 5)) (.slice (some ⟨w.heap.size, 0, none⟩) 1 1) [99] := Bs_of_block (heap_alloc_new w _) (by simp [maxLen])
  go_enter Tryz.func39, Tryz.ntmps39
  go_wp2_with (at_builtin; refine wpList_append_bs _ rfl (.tmp 4) (.tmp 5) rfl base _ zs rfl ho1 _ [99] rfl hbs1 (by simp; omega) (by simp; omega) ?_)
  intro ao2 cap2 w2 ho2 hg2 hat2
  obtain ⟨g, rfl, hg0, hglt, hgl, hgc, hgm⟩ := ho2.grow_form (by simp)
  unfold maxLen at hgm
  have G2 : w.grownBy w2 (Value.slice ao zs.length cap).ownBlock := ⟨hg2.os, hg2.tape, hg2.output, by have := hg2.size; simp at this; omega, fun k hk hr => (hg2.block k (by simp; omega) hr).trans (Below.heap_alloc _ _ _ hk)⟩
  have hrow : (Value.slice ao zs.length cap).ownBlock = some g ∨ w.heap.size ≤ g := by
    rcases hat2 with h | h
    · exact Or.inl h.symm
    · right
      have : g = w.heap.size + 1 := by simpa [Value.ownBlock] using h
      omega
  have hlen : (zs ++ [(99 : Int)]).length = zs.length + 1 := by simp
  clear hat2 hg2 ho1 hbs1 ho hgl
  generalize hys : zs ++ [(99 : Int)] = ys at *
  clear hys
  have hyl1 : ys.length ≤ zs.length + 1 := by omega
  have hyl2 : zs.length + 1 ≤ ys.length := by omega
  have HLEN : Hid (ys.length = zs.length + 1) := hlen
  clear hlen
  go_wp2
  go_loopw [3] (fun i wr => ∃ (k : Nat) (ys' : List Int), k ≤ zs.length + 1 ∧ i = .int .i64 k ∧ Ow wr base (.slice (some ⟨g, 0, none⟩) (zs.length + 1) cap2) ys' ∧ Hid (ys'.length = zs.length + 1) ∧ w.grownBy wr (Value.slice ao zs.length cap).ownBlock) (fun i _ => zs.length + 1 - (intOf i).toNat)
  case atStart => exact ⟨0, ys, Nat.zero_le _, rfl, ho2, HLEN, G2⟩
  case round =>
    obtain ⟨k, ys', hk, rfl, hok, HY, Gk⟩ := hrel
    by_cases hlt : k < zs.length + 1
    · have hck := hok.cell k (by rw [HY.out]; exact hlt)
      have hfk := hok.frozen k
      have hok2 := hok.set k 98
      have HY2 : Hid ((ys'.set k 98).length = zs.length + 1) := by show _ = _; rw [List.length_set]; exact HY.out
      have Gk2 := grown_set Gk g k (.int .u8 98) hrow
      clear hok Gk
      go_wp2
      go_roundw
      case rel => exact ⟨k + 1, _, by omega, by go_num, hok2, HY2, Gk2⟩
      case measure => simp [intOf]; omega
    · go_wp2
      go_end0
      exact ⟨rfl, Gk⟩
end Go.Proofs.YtnkjhooeklodcaaGreatDoor.Fr
end

section
/-
  The document's own Reader, by contracts: raw, Byte, Two, Four, Num, Bytes, Left, End.
-/
namespace Go.Proofs.YtnkjhooeklodcaaGreatDoor.Fr
open Go.RowKit

/-- Block b is the document's Reader that has zs left and the error e; its slice is v. -/
def Rf (w : World) (b : Nat) (v : Value) (zs : List Int) (e : Int) : Prop := w.heap[b]? = some (.cells #[v, .int .i64 e] 151 (0, 0)) ∧ Bs w v zs ∧ v.ownBlock ≠ some b

theorem Rf.lt {w : World} {b : Nat} {v : Value} {zs : List Int} {e : Int} (h : Rf w b v zs e) : b < w.heap.size := (Array.getElem?_eq_some_iff.1 h.1).1
theorem Rf.cell0 {w : World} {b : Nat} {v : Value} {zs : List Int} {e : Int} (h : Rf w b v zs e) : w.cell? ⟨b, 0, none⟩ = some v := by
  rw [cell_of_row w b 0 _ _ _ h.1]; rfl
theorem Rf.cell1 {w : World} {b : Nat} {v : Value} {zs : List Int} {e : Int} (h : Rf w b v zs e) : w.cell? ⟨b, 1, none⟩ = some (.int .i64 e) := by
  rw [cell_of_row w b 1 _ _ _ h.1]; rfl
theorem Rf.frozen {w : World} {b : Nat} {v : Value} {zs : List Int} {e : Int} (h : Rf w b v zs e) (i : Nat) : w.frozen? ⟨b, i, none⟩ = false := by
  simp [World.frozen?, h.1]
/-- Another slice in the Reader's first field. -/
theorem Rf.set0 {w : World} {b : Nat} {v v' : Value} {zs zs' : List Int} {e : Int} (h : Rf w b v zs e) (hb : Bs w v' zs') (hv : v'.ownBlock ≠ some b) : Rf (w.setCell ⟨b, 0, none⟩ v') b v' zs' e ∧ Rstep b w (w.setCell ⟨b, 0, none⟩ v') := by
  refine ⟨⟨?_, hb.keep fun k hk _ => Below.heap_setCell _ _ _ _ (fun e => hv (by rw [hk, e])), hv⟩, ⟨rfl, rfl, rfl, by simp [World.setCell], fun k _ hkb => Below.heap_setCell _ _ _ _ hkb⟩⟩
  simp only [World.setCell, Array.getElem?_modify, h.1]
  simp
theorem Rf.set1 {w : World} {b : Nat} {v : Value} {zs : List Int} {e e' : Int} (h : Rf w b v zs e) : Rf (w.setCell ⟨b, 1, none⟩ (.int .i64 e')) b v zs e' ∧ Rstep b w (w.setCell ⟨b, 1, none⟩ (.int .i64 e')) := by
  refine ⟨⟨?_, h.2.1.keep fun k hk _ => Below.heap_setCell _ _ _ _ (fun e => h.2.2 (by rw [hk, e])), h.2.2⟩, ⟨rfl, rfl, rfl, by simp [World.setCell], fun k _ hkb => Below.heap_setCell _ _ _ _ hkb⟩⟩
  simp only [World.setCell, Array.getElem?_modify, h.1]
  simp
theorem Rf.sm {w w' : World} {b : Nat} {v : Value} {zs : List Int} {e : Int} (h : Rf w b v zs e) (hs : Sm w w') : Rf w' b v zs e := ⟨by rw [hs.heap]; exact h.1, hs.bs h.2.1, h.2.2⟩
theorem Rf.keep {w w' : World} {b : Nat} {v : Value} {zs : List Int} {e : Int} (h : Rf w b v zs e) (hb : w'.heap[b]? = w.heap[b]?) (hk : ∀ k, v.ownBlock = some k → k < w.heap.size → w'.heap[k]? = w.heap[k]?) : Rf w' b v zs e :=
  ⟨by rw [hb]; exact h.1, h.2.1.keep hk, h.2.2⟩
theorem Rf.below {w w' : World} {b B : Nat} {v : Value} {zs : List Int} {e : Int} (h : Rf w b v zs e) (hB : Below B w w') (hs : w.heap.size ≤ B) : Rf w' b v zs e :=
  h.keep (hB.block b (by have := h.lt; omega)) (fun k _ hk => hB.block k (by omega))


/-- What a taking leaves. -/
def Fleft (w : World) (b : Nat) (v : Value) (w' : World) (zs : List Int) (e : Int) : Prop := ∃ v', Rf w' b v' zs e ∧ Rstep b w w' ∧ (v'.ownBlock = v.ownBlock ∨ v'.ownBlock = none)

set_option maxHeartbeats 1600000 in
theorem raw_yes (b : Nat) (v : Value) (zs : List Int) (n : Nat) (w : World) (hr : Rf w b v zs 0) (hn : n ≤ zs.length) (hn0 : 0 < n) :
    Calls Tryz.prog 134 #[.pointer (some ⟨b, 0, none⟩), .int .i64 n] w fun r w' => ∃ x, r = .returned x ∧ Bs w' x (zs.take n) ∧ Fleft w b v w' (zs.drop n) 0 := by
  have hc0 := hr.cell0
  have hc1 := hr.cell1
  have hf0 := hr.frozen 0
  rcases hr.2.1 with ⟨h0, _⟩ | ⟨hz, b2, off, cap, hv, hca, hcb, hcell⟩
  · subst h0; simp at hn; omega
  subst hv
  have hpre := hr.2.1.front n hn
  have hsuf := hr.2.1.suffix n hn hz
  have hnb : b2 ≠ b := fun e => hr.2.2 (by simp [Value.ownBlock, e])
  unfold maxLen at hcb
  by_cases hcm : cap = n
  · have hd : zs.drop n = [] := List.drop_eq_nil_of_le (by omega)
    have R := hr.set0 (v' := .slice (some ⟨b2, off, none⟩) 0 0) (zs' := []) (Or.inl ⟨rfl, _, 0, rfl, by simp [maxLen], fun e => by cases e⟩) (by simpa [Value.ownBlock] using hnb)
    have hpre2 : Bs (w.setCell ⟨b, 0, none⟩ (.slice (some ⟨b2, off, none⟩) 0 0)) (.slice (some ⟨b2, off, none⟩) n cap) (zs.take n) := hpre.keep fun k hk _ => Below.heap_setCell _ _ _ _ (fun e => hnb (by simpa [Value.ownBlock, e] using hk))
    have hzm : zs.length - n = 0 := by omega
    have HD : Hid (zs.drop n = []) := hd
    clear hcell hsuf hpre hd
    subst hcm
    go_enter Tryz.func134, Tryz.ntmps134
    go_wp2
    go_ret
    rw [HD.out]
    exact ⟨_, rfl, hpre2, _, R.1, R.2, Or.inl rfl⟩
  · have R := hr.set0 hsuf (by simpa [Value.ownBlock] using hnb)
    have hpre2 : Bs (w.setCell ⟨b, 0, none⟩ (.slice (some ⟨b2, off + n, none⟩) (zs.length - n) (cap - n))) (.slice (some ⟨b2, off, none⟩) n cap) (zs.take n) := hpre.keep fun k hk _ => Below.heap_setCell _ _ _ _ (fun e => hnb (by simpa [Value.ownBlock, e] using hk))
    clear hcell hsuf hpre
    go_enter Tryz.func134, Tryz.ntmps134
    go_wp2
    go_ret
    exact ⟨_, rfl, hpre2, _, R.1, R.2, Or.inl rfl⟩

theorem mk1 (w : World) : (Instr.makeSlice 38 (.int .i64 1) (.int .i64 1)).run Tryz.prog w = .ok (.slice (some ⟨w.heap.size, 0, none⟩) 1 1) (w.alloc (.cells (cellsOf [0]).toArray 5)) := by kernel_rfl
theorem mk2 (w : World) : (Instr.makeSlice 38 (.int .i64 2) (.int .i64 2)).run Tryz.prog w = .ok (.slice (some ⟨w.heap.size, 0, none⟩) 2 2) (w.alloc (.cells (cellsOf [0, 0]).toArray 5)) := by kernel_rfl
theorem mk4 (w : World) : (Instr.makeSlice 38 (.int .i64 4) (.int .i64 4)).run Tryz.prog w = .ok (.slice (some ⟨w.heap.size, 0, none⟩) 4 4) (w.alloc (.cells (cellsOf [0, 0, 0, 0]).toArray 5)) := by kernel_rfl

/-- The error behind a taking that finds too little. -/
def errR (e : Int) : Int := if e = 0 then 2 else e
theorem Rf.alloc {w : World} {b : Nat} {v : Value} {zs : List Int} {e : Int} (h : Rf w b v zs e) (o : Obj) : Rf (w.alloc o) b v zs e := h.below ((Below.refl _ _).alloc (Nat.le_refl _) _) (Nat.le_refl _)
theorem Rstep.alloc {b : Nat} {w w' : World} (h : Rstep b w w') (o : Obj) : Rstep b w (w'.alloc o) := h.trans (Rstep.of_below ((Below.refl _ _).alloc (Nat.le_refl _) _) (Nat.le_refl _))
theorem Bs_new (w W : World) (zs : List Int) (hs : W.heap.size = w.heap.size) (hm : zs.length ≤ maxLen) : Bs (W.alloc (.cells (cellsOf zs).toArray 5)) (.slice (some ⟨w.heap.size, 0, none⟩) zs.length zs.length) zs := by
  have := Bs_of_block (heap_alloc_new W (.cells (cellsOf zs).toArray 5)) hm
  rw [hs] at this
  exact this

set_option maxHeartbeats 1600000 in
theorem raw_no1 (b : Nat) (v : Value) (zs : List Int) (e : Int) (w : World) (hr : Rf w b v zs e) (hn : e = 0 → zs.length < 1) :
    Calls Tryz.prog 134 #[.pointer (some ⟨b, 0, none⟩), .int .i64 1] w fun r w' => ∃ x, r = .returned x ∧ Bs w' x [0] ∧ Fleft w b v w' [] (errR e) := by
  have hc0 := hr.cell0
  have hc1 := hr.cell1
  have hf0 := hr.frozen 0
  have hf1 := hr.frozen 1
  obtain ⟨ao, cap, hv, hm⟩ := hr.2.1.len
  subst hv
  have hmk := mk1
  have HZ : Hid (([0] : List Int).length ≤ maxLen) := by show _ ≤ _; simp [maxLen]
  by_cases he : e = 0
  · subst he
    have hl := hn rfl
    have R1 := hr.set1 (e' := 2)
    have R2 := R1.1.set0 (Bs_nil _) (by simp [Value.ownBlock])
    have hb := Bs_new w ((w.setCell ⟨b, 1, none⟩ (.int .i64 2)).setCell ⟨b, 0, none⟩ (.slice none 0 0)) [0] (by simp [World.setCell]) HZ.out
    go_enter Tryz.func134, Tryz.ntmps134
    go_wp2
    go_ret
    exact ⟨_, rfl, hb, _, R2.1.alloc _, (R1.2.trans R2.2).alloc _, Or.inr rfl⟩
  · have hne : (e == 0) = false := by simp [he]
    have hne2 : (e != 0) = true := by simp [he]
    have R2 := hr.set0 (Bs_nil _) (by simp [Value.ownBlock])
    have hb := Bs_new w (w.setCell ⟨b, 0, none⟩ (.slice none 0 0)) [0] (by simp [World.setCell]) HZ.out
    have HE : Hid (errR e = e) := by show _ = _; simp [errR, he]
    go_enter Tryz.func134, Tryz.ntmps134
    go_wp2
    go_ret
    rw [HE.out]
    exact ⟨_, rfl, hb, _, R2.1.alloc _, R2.2.alloc _, Or.inr rfl⟩

set_option maxHeartbeats 1600000 in
theorem raw_no2 (b : Nat) (v : Value) (zs : List Int) (e : Int) (w : World) (hr : Rf w b v zs e) (hn : e = 0 → zs.length < 2) :
    Calls Tryz.prog 134 #[.pointer (some ⟨b, 0, none⟩), .int .i64 2] w fun r w' => ∃ x, r = .returned x ∧ Bs w' x [0, 0] ∧ Fleft w b v w' [] (errR e) := by
  have hc0 := hr.cell0
  have hc1 := hr.cell1
  have hf0 := hr.frozen 0
  have hf1 := hr.frozen 1
  obtain ⟨ao, cap, hv, hm⟩ := hr.2.1.len
  subst hv
  have hmk := mk2
  have HZ : Hid (([0, 0] : List Int).length ≤ maxLen) := by show _ ≤ _; simp [maxLen]
  by_cases he : e = 0
  · subst he
    have hl := hn rfl
    have R1 := hr.set1 (e' := 2)
    have R2 := R1.1.set0 (Bs_nil _) (by simp [Value.ownBlock])
    have hb := Bs_new w ((w.setCell ⟨b, 1, none⟩ (.int .i64 2)).setCell ⟨b, 0, none⟩ (.slice none 0 0)) [0, 0] (by simp [World.setCell]) HZ.out
    go_enter Tryz.func134, Tryz.ntmps134
    go_wp2
    go_ret
    exact ⟨_, rfl, hb, _, R2.1.alloc _, (R1.2.trans R2.2).alloc _, Or.inr rfl⟩
  · have hne : (e == 0) = false := by simp [he]
    have hne2 : (e != 0) = true := by simp [he]
    have R2 := hr.set0 (Bs_nil _) (by simp [Value.ownBlock])
    have hb := Bs_new w (w.setCell ⟨b, 0, none⟩ (.slice none 0 0)) [0, 0] (by simp [World.setCell]) HZ.out
    have HE : Hid (errR e = e) := by show _ = _; simp [errR, he]
    go_enter Tryz.func134, Tryz.ntmps134
    go_wp2
    go_ret
    rw [HE.out]
    exact ⟨_, rfl, hb, _, R2.1.alloc _, R2.2.alloc _, Or.inr rfl⟩

set_option maxHeartbeats 1600000 in
theorem raw_no4 (b : Nat) (v : Value) (zs : List Int) (e : Int) (w : World) (hr : Rf w b v zs e) (hn : e = 0 → zs.length < 4) :
    Calls Tryz.prog 134 #[.pointer (some ⟨b, 0, none⟩), .int .i64 4] w fun r w' => ∃ x, r = .returned x ∧ Bs w' x [0, 0, 0, 0] ∧ Fleft w b v w' [] (errR e) := by
  have hc0 := hr.cell0
  have hc1 := hr.cell1
  have hf0 := hr.frozen 0
  have hf1 := hr.frozen 1
  obtain ⟨ao, cap, hv, hm⟩ := hr.2.1.len
  subst hv
  have hmk := mk4
  have HZ : Hid (([0, 0, 0, 0] : List Int).length ≤ maxLen) := by show _ ≤ _; simp [maxLen]
  by_cases he : e = 0
  · subst he
    have hl := hn rfl
    have R1 := hr.set1 (e' := 2)
    have R2 := R1.1.set0 (Bs_nil _) (by simp [Value.ownBlock])
    have hb := Bs_new w ((w.setCell ⟨b, 1, none⟩ (.int .i64 2)).setCell ⟨b, 0, none⟩ (.slice none 0 0)) [0, 0, 0, 0] (by simp [World.setCell]) HZ.out
    go_enter Tryz.func134, Tryz.ntmps134
    go_wp2
    go_ret
    exact ⟨_, rfl, hb, _, R2.1.alloc _, (R1.2.trans R2.2).alloc _, Or.inr rfl⟩
  · have hne : (e == 0) = false := by simp [he]
    have hne2 : (e != 0) = true := by simp [he]
    have R2 := hr.set0 (Bs_nil _) (by simp [Value.ownBlock])
    have hb := Bs_new w (w.setCell ⟨b, 0, none⟩ (.slice none 0 0)) [0, 0, 0, 0] (by simp [World.setCell]) HZ.out
    have HE : Hid (errR e = e) := by show _ = _; simp [errR, he]
    go_enter Tryz.func134, Tryz.ntmps134
    go_wp2
    go_ret
    rw [HE.out]
    exact ⟨_, rfl, hb, _, R2.1.alloc _, R2.2.alloc _, Or.inr rfl⟩

end Go.Proofs.YtnkjhooeklodcaaGreatDoor.Fr
end

section
/-
  The document's own Reader, by contracts: Byte, Two, Four, Left, End; and octet's Byte in the same words.
-/
namespace Go.Proofs.YtnkjhooeklodcaaGreatDoor.Fr
open Go.RowKit

/-- Behind an error nothing is left. -/
def Inv (zs : List Int) (e : Int) : Prop := e = 0 ∨ zs = []
theorem rowR_inv (ys zs : List Int) (e : Int) (h : Inv zs e) : Inv (rowR ys zs e).2.1 (rowR ys zs e).2.2 := by
  unfold rowR Inv at *; split
  · split
    · exact Or.inl rfl
    · exact Or.inr rfl
  · exact h
theorem raw_row (ys zs : List Int) (e : Int) (w : World) (b : Nat) (v : Value) (n : Nat) (hys : ys.length = n) (hn0 : 0 < n) (hr : Rf w b v zs e) (hi : Inv zs e)
    (hno : (e = 0 → zs.length < n) → Calls Tryz.prog 134 #[.pointer (some ⟨b, 0, none⟩), .int .i64 n] w fun r w' => ∃ x, r = .returned x ∧ Bs w' x ys ∧ Fleft w b v w' [] (errR e)) :
    Calls Tryz.prog 134 #[.pointer (some ⟨b, 0, none⟩), .int .i64 n] w fun r w' => ∃ x, r = .returned x ∧ Bs w' x (rowR ys zs e).1 ∧ Fleft w b v w' (rowR ys zs e).2.1 (rowR ys zs e).2.2 := by
  by_cases he : e = 0
  · subst he
    by_cases hl : ys.length ≤ zs.length
    · rw [rowR_yes hl, hys]
      exact raw_yes b v zs n w hr (by omega) hn0
    · rw [rowR_no hl]
      exact hno (fun _ => by omega)
  · have hz : zs = [] := by rcases hi with h | h; exact absurd h he; exact h
    subst hz
    rw [rowR_err he]
    have := hno (fun h => absurd h he)
    rw [show errR e = e by simp [errR, he]] at this
    exact this

theorem rbyte_u (b : Nat) (v : Value) (zs : List Int) (e : Int) (w : World) (hr : Rd w b v zs e) :
    Calls Tryz.prog 158 #[.pointer (some ⟨b, 0, none⟩)] w fun r w' => r = .returned (.int .u8 ((rowR [0] zs e).1.getD 0 0)) ∧ Rleft w b v w' (rowR [0] zs e).2.1 (rowR [0] zs e).2.2 := by
  by_cases he : e = 0
  · subst he
    cases zs with
    | nil =>
      refine (rbyte_no b v w hr).mono ?_
      rintro r w' ⟨rfl, h1, h2⟩
      exact ⟨rfl, _, h1, h2, Or.inr rfl⟩
    | cons z zs =>
      refine (rbyte_yes b v z zs w hr).mono ?_
      rintro r w' ⟨rfl, v', hv, h1, h2⟩
      rw [rowR_yes (by simp)]
      exact ⟨rfl, v', h1, h2, Or.inl hv⟩
  · refine (rbyte_err b v zs e w hr he).mono ?_
    rintro r w' ⟨rfl, rfl⟩
    rw [rowR_err he]
    exact ⟨rfl, v, hr, Rstep.refl _ _, Or.inl rfl⟩

theorem Fleft.sm {w w1 w2 : World} {b : Nat} {v : Value} {zs : List Int} {e : Int} (h : Fleft w b v w1 zs e) (hs : Sm w1 w2) : Fleft w b v w2 zs e := by
  obtain ⟨v', h1, h2, h3⟩ := h
  exact ⟨v', h1.sm hs, h2.trans (Rstep.of_below (hs.below _) (Nat.le_refl _)), h3⟩

set_option maxHeartbeats 1600000 in
theorem ffour_u (b : Nat) (v : Value) (zs : List Int) (e : Int) (w : World) (hr : Rf w b v zs e) (hi : Inv zs e) (hz : Byt zs) :
    Calls Tryz.prog 163 #[.pointer (some ⟨b, 0, none⟩)] w fun r w' => r = .returned (.int .u32 (fourV (rowR [0, 0, 0, 0] zs e).1)) ∧ Fleft w b v w' (rowR [0, 0, 0, 0] zs e).2.1 (rowR [0, 0, 0, 0] zs e).2.2 := by
  have hlen := rowR_len [0, 0, 0, 0] zs e
  have hby := (rowR_byt (ys := [0, 0, 0, 0]) (e := e) (by intro z hz; simp at hz; omega) hz).1
  have hraw := raw_row [0, 0, 0, 0] zs e w b v 4 rfl (by decide) hr hi (raw_no4 b v zs e w hr)
  generalize rowR [0, 0, 0, 0] zs e = R at *
  obtain ⟨row, zs2, e2⟩ := R
  obtain ⟨x0, x1, x2, x3, rfl⟩ : ∃ x0 x1 x2 x3, row = [x0, x1, x2, x3] := by
    match row, hlen with
    | [x0, x1, x2, x3], _ => exact ⟨x0, x1, x2, x3, rfl⟩
  have HR : Hid (Calls Tryz.prog 134 #[.pointer (some ⟨b, 0, none⟩), .int .i64 4] w fun r w' => ∃ x, r = .returned x ∧ Bs w' x [x0, x1, x2, x3] ∧ Fleft w b v w' zs2 e2) := hraw
  have b0 := hby x0 (by simp)
  have b1 := hby x1 (by simp)
  have b2 := hby x2 (by simp)
  have b3 := hby x3 (by simp)
  have o1 : bits .or .u32 x0 (x1 * 256) = x0 + x1 * 256 := or32 x0 x1 8 (by decide) b0.1 (by simpa using b0.2) b1.1 b1.2
  obtain ⟨y1, hy1⟩ : ∃ y1, y1 = x0 + x1 * 256 := ⟨_, rfl⟩
  rw [← hy1] at o1
  have o2 : bits .or .u32 y1 (x2 * 65536) = y1 + x2 * 65536 := or32 y1 x2 16 (by decide) (by omega) (by simp; omega) b2.1 b2.2
  obtain ⟨y2, hy2⟩ : ∃ y2, y2 = y1 + x2 * 65536 := ⟨_, rfl⟩
  rw [← hy2] at o2
  have o3 : bits .or .u32 y2 (x3 * 16777216) = y2 + x3 * 16777216 := or32 y2 x3 24 (by decide) (by omega) (by simp; omega) b3.1 b3.2
  obtain ⟨y3, hy3⟩ : ∃ y3, y3 = y2 + x3 * 16777216 := ⟨_, rfl⟩
  rw [← hy3] at o3
  have HE : Hid (y3 = fourV [x0, x1, x2, x3]) := by
    have e : fourV [x0, x1, x2, x3] = x0 + 256 * x1 + 65536 * x2 + 16777216 * x3 := rfl
    show _ = _
    rw [e]; omega
  clear hraw hlen hby hy1 hy2 hy3
  go_enter Tryz.func163, Tryz.ntmps163
  go_wp2_with fail
  refine HR.out.mono ?_
  rintro r w1 ⟨x, rfl, hb, hl⟩
  rcases hb with ⟨h0, _⟩ | ⟨_, bb, off, cap, hx, h1, h2, hcell⟩
  · cases h0
  have hc0 : w1.cell? ⟨bb, off, none⟩ = some (.int .u8 x0) := by simpa using hcell 0 (by simp)
  have hc1 : w1.cell? ⟨bb, off + 1, none⟩ = some (.int .u8 x1) := by simpa using hcell 1 (by simp)
  have hc2 : w1.cell? ⟨bb, off + 2, none⟩ = some (.int .u8 x2) := by simpa using hcell 2 (by simp)
  have hc3 : w1.cell? ⟨bb, off + 3, none⟩ = some (.int .u8 x3) := by simpa using hcell 3 (by simp)
  have hx' : x = .slice (some ⟨bb, off, none⟩) 4 cap := hx
  rw [hx']
  clear hcell hx hx'
  go_wp2
  go_quiet (fail)
  go_wp2
  go_ret
  exact ⟨ret_int HE.out, hl.sm (Sm.drewN _ _)⟩
end Go.Proofs.YtnkjhooeklodcaaGreatDoor.Fr
end
