/-
  The laws' helpers roomy and stands, and the document's own Sum (one binary digit a step).
-/
import Derived.Test.YteinhklopnlgbaaDoorKnown
import Derived.Test.YteinhklopnlgbaaDoorCrcB
namespace Go.Proofs.YteinhklopnlgbaaDoor
open Go.RowKit

theorem Ow.take {w : World} {base g m cap : Nat} {ys : List Int} (h : Ow w base (.slice (some ⟨g, 0, none⟩) m cap) ys) (k : Nat) (hk : k ≤ ys.length) : Ow w base (.slice (some ⟨g, 0, none⟩) k cap) (ys.take k) := by
  obtain ⟨ao, c, he, ⟨rfl, _⟩ | ⟨g', cur, rfl, hb, hl, hg, hn, hc, hs, ht⟩⟩ := h.form
  · simp at he
  · simp only [Value.slice.injEq, Option.some.injEq, Addr.mk.injEq, and_true] at he
    obtain ⟨rfl, rfl, rfl⟩ := he
    have hlen : (ys.take k).length = k := by simp; omega
    refine ⟨by simp [cellsOf], Or.inr ⟨g, cap, cur, by rw [hlen], hb, hg, by rw [hlen]; omega, hc, by simpa using hs, ?_⟩⟩
    rw [hlen, Nat.mul_one]
    have := congrArg (List.take k) ht
    rw [List.take_take, Nat.min_eq_left hk] at this
    rw [this]
    simp [cellsOf, List.map_take]

theorem Ow.grow_form {w : World} {base m cap : Nat} {ao : Option Addr} {ys : List Int} (h : Ow w base (.slice ao m cap) ys) (hn : ys ≠ []) : ∃ g, ao = some ⟨g, 0, none⟩ ∧ base ≤ g ∧ g < w.heap.size ∧ m = ys.length ∧ ys.length ≤ cap ∧ cap ≤ maxLen := by
  obtain ⟨ao, c, he, ⟨rfl, _, h0⟩ | ⟨g', cur, rfl, hb, hl, hg, hn, hc, hs, ht⟩⟩ := h.form
  · exact absurd h0 hn
  · simp only [Value.slice.injEq] at he
    obtain ⟨rfl, rfl, rfl⟩ := he
    exact ⟨g', rfl, hb, hl, rfl, hn, hc⟩

set_option maxHeartbeats 800000 in
theorem roomy_any (sv : Value) (zs : List Int) (w : World) (hb : Bs w sv zs) (hz : zs.length ≤ 100000000000000) :
    Calls Tryd.prog 8 #[sv] w fun e w' => ∃ g cap, e = .returned (.slice (some ⟨g, 0, none⟩) (zs.length + 1) cap) ∧ Ow w' w.heap.size (.slice (some ⟨g, 0, none⟩) (zs.length + 1) cap) (zs ++ [171]) ∧ Below w.heap.size w w' ∧ w.heap.size ≤ g ∧ zs.length + 2 ≤ cap := by
  obtain ⟨ao, cap, hsv, hm⟩ := hb.len
  subst hsv
  have hown0 : Ow (w.alloc (.cells #[] 5)) w.heap.size (.slice (some ⟨w.heap.size, 0, none⟩) 0 0) [] := Ow_of_block (heap_alloc_new w _) (by simp) (Nat.le_refl _)
  have hb1 : Bs (w.alloc (.cells #[] 5)) (.slice ao zs.length cap) zs := hb.below ((Below.refl _ _).alloc (Nat.le_refl _) _) (Nat.le_refl _)
  go_enter Tryd.func8, Tryd.ntmps8
  go_wp2_with (at_builtin; refine wpList_append_bs _ rfl (.tmp 3) (.tmp 4) rfl w.heap.size _ [] rfl hown0 _ zs rfl hb1 (by simp; omega) (by simp) ?_)
  intro ao1 cap1 w1 hown1 hgrow1 hat1
  have B1 : Below w.heap.size w w1 := ((Below.refl _ _).alloc (Nat.le_refl _) _).grown hgrow1 (by simp) (fun k hk => by simp [Value.ownBlock] at hk; omega)
  have hs1 := B1.size
  have hown1' : Ow (w1.alloc (.cells #[.int .u8 171] 5)) w.heap.size (.slice ao1 zs.length cap1) zs := World.ownsRow.alloc hown1 _
  have hbs1 : Bs (w1.alloc (.cells #[.int .u8 171] 5)) (.slice (some ⟨w1.heap.size, 0, none⟩) 1 1) [171] := Bs_of_block (heap_alloc_new w1 _) (by simp [maxLen])
  go_wp2_with (at_builtin; refine wpList_append_bs _ rfl (.tmp 5) (.tmp 6) rfl w.heap.size _ zs rfl hown1' _ [171] rfl hbs1 (by simp; omega) (by simp; omega) ?_)
  intro ao2 cap2 w2 hown2 hgrow2 hat2
  have B2 : Below w.heap.size w w2 := (B1.alloc hs1 _).grown hgrow2 (by simp; omega) (fun k hk => (World.ownsRow.lt hown1' k hk).1)
  have hs2 := B2.size
  obtain ⟨ys, hys⟩ : ∃ ys, ys = zs ++ [171] := ⟨_, rfl⟩
  have hyl : zs.length + 1 = ys.length := by rw [hys]; simp
  rw [← hys] at hown2
  have hown2' : Ow (w2.alloc (.cells #[.int .u8 171] 5)) w.heap.size (.slice ao2 (zs.length + 1) cap2) ys := World.ownsRow.alloc hown2 _
  have hbs2 : Bs (w2.alloc (.cells #[.int .u8 171] 5)) (.slice (some ⟨w2.heap.size, 0, none⟩) 1 1) [171] := Bs_of_block (heap_alloc_new w2 _) (by simp [maxLen])
  have HY : Hid (ys = zs ++ [171]) := hys
  have HL : Hid (zs.length + 1 = ys.length) := hyl
  have hy1 : zs.length + 1 ≤ ys.length := by omega
  have hy2 : ys.length ≤ zs.length + 1 := by omega
  clear hys hyl
  go_wp2_with (at_builtin; refine wpList_append_bs _ rfl (.tmp 7) (.tmp 8) rfl w.heap.size _ ys rfl hown2' _ [171] rfl hbs2 (by simp; omega) (by simp; omega) ?_)
  intro ao3 cap3 w3 hown3 hgrow3 hat3
  have B3 : Below w.heap.size w w3 := (B2.alloc hs2 _).grown hgrow3 (by simp; omega) (fun k hk => (World.ownsRow.lt hown2' k hk).1)
  obtain ⟨g, hg, hg1, hg2, hg3, hg4, hg5⟩ := hown3.grow_form (by simp)
  subst hg
  have hl3 : (ys ++ [(171 : Int)]).length = ys.length + 1 := by simp
  have hfin := hown3.take (zs.length + 1) (by rw [hl3]; omega)
  rw [show (ys ++ [(171 : Int)]).take (zs.length + 1) = ys by rw [HL.out]; simp, HY.out] at hfin
  rw [hl3] at hg4
  have hcp : zs.length + 1 ≤ cap3 := by omega
  have hcp2 : zs.length + 2 ≤ cap3 := by omega
  unfold maxLen at hg5
  clear hown3 hgrow3 hat3 hown2' hbs2 hown2 hgrow2 hat2 hown1' hbs1 hown1 hgrow1 hat1 hown0 hb1 HY hl3 hg3 hg4
  go_wp2
  go_ret
  exact ⟨g, cap3, rfl, hfin, B3, hg1, hcp2⟩

theorem Ow.cell {w : World} {base g m cap : Nat} {ys : List Int} (h : Ow w base (.slice (some ⟨g, 0, none⟩) m cap) ys) (i : Nat) (hi : i < ys.length) : w.cell? ⟨g, i, none⟩ = some (.int .u8 (ys.getD i 0)) := by
  have := World.ownsRow.cells h (g := g) rfl i _ (cellsOf_get' ys i hi)
  simpa [Addr.add_lit] using this
theorem Sm.cell {w w' : World} (h : Sm w w') {a : Addr} {v : Value} (hc : w.cell? a = some v) : w'.cell? a = some v := by
  rw [World.cell?_of_block (w := w) (by rw [h.heap])]; exact hc
theorem Ow.bounds {w : World} {base g m cap : Nat} {ys : List Int} (h : Ow w base (.slice (some ⟨g, 0, none⟩) m cap) ys) : m = ys.length ∧ ys.length ≤ cap ∧ cap ≤ maxLen := by
  obtain ⟨ao, c, he, ⟨rfl, _, h0⟩ | ⟨g', cur, rfl, hb, hl, hg, hn, hc, hs, ht⟩⟩ := h.form
  · simp at he
  · simp only [Value.slice.injEq] at he
    obtain ⟨_, rfl, rfl⟩ := he
    exact ⟨rfl, hn, hc⟩

set_option maxHeartbeats 800000 in
theorem stands_any (base g cap : Nat) (sv : Value) (zs : List Int) (w : World) (ho : Ow w base (.slice (some ⟨g, 0, none⟩) (zs.length + 1) cap) (zs ++ [171])) (hb : Bs w sv zs) (hz : zs.length ≤ 100000000000000) :
    Calls Tryd.prog 12 #[.slice (some ⟨g, 0, none⟩) (zs.length + 1) cap, sv] w fun e w' => e = .returned (.bool true) ∧ Sm w w' := by
  obtain ⟨ao, cap', hsv, hm⟩ := hb.len
  subst hsv
  obtain ⟨-, hc1, hc2⟩ := ho.bounds
  have hc1' : zs.length + 1 ≤ cap := by simpa using hc1
  clear hc1
  unfold maxLen at hc2
  have hc := ho.cell zs.length (by simp)
  rw [show (zs ++ [(171 : Int)]).getD zs.length 0 = 171 by simp [List.getD]] at hc
  have ht := (ho.take zs.length (by simp)).bs
  rw [show (zs ++ [(171 : Int)]).take zs.length = zs by simp] at ht
  have heq : eqB zs zs = true := eqB_true rfl
  go_enter Tryd.func12, Tryd.ntmps12
  go_wp2_with fail
  refine (same_any _ _ zs zs _ ht hb).mono ?_
  rintro e w1 ⟨rfl, hsm⟩
  rw [heq]
  have hcc := hsm.cell hc
  clear hc
  go_wp2
  go_ret
  exact ⟨rfl, hsm⟩

def bitN : Nat → Nat → Nat
  | 0, c => c
  | j + 1, c => bit1 (bitN j c)

set_option maxRecDepth 100000 in
set_option maxHeartbeats 1600000 in
theorem refSum_any (va : Value) (xs : List Int) (w : World) (ha : Bs w va xs) (hx : Byt xs) :
    Calls Tryd.prog 27 #[va] w fun e w' => e = .returned (.int .u32 (sumOf xs : Nat)) ∧ w = w' := by
  obtain ⟨a1, c1, h1, m1⟩ := ha.len
  subst h1
  unfold maxLen at m1
  go_enter Tryd.func27, Tryd.ntmps27
  go_wp2
  go_loop [3, 4] (fun s i => ∃ (k t : Nat), k ≤ xs.length ∧ i = .int .i64 k ∧ s = .int .u32 t ∧ t < 4294967296 ∧ Hid (t = crcAll 4294967295 (xs.take k))) (fun _ i => xs.length - (intOf i).toNat)
  case atStart => exact ⟨0, 4294967295, Nat.zero_le _, rfl, rfl, by decide, rfl⟩
  case round =>
    obtain ⟨k, t, hk, rfl, rfl, ht1, HT⟩ := hrel
    by_cases hlt : k < xs.length
    · rcases ha with ⟨h0, _⟩ | ⟨_, b1, o1, d1, he1, hc1, hc2, hcell1⟩
      · subst h0; simp at hlt
      simp only [Value.slice.injEq] at he1
      obtain ⟨rfl, _, rfl⟩ := he1
      have hc := hcell1 k hlt
      clear hcell1
      obtain ⟨hx0, hx1⟩ := hx _ (getD_mem xs k hlt)
      have HN : Hid (xs.take (k + 1) = xs.take k ++ [xs.getD k 0]) := take_snoc xs k hlt
      generalize xs.getD k 0 = x at *
      obtain ⟨X, rfl⟩ := Int.eq_ofNat_of_zero_le hx0
      obtain ⟨t1, q1⟩ : ∃ t1, t1 = t ^^^ X := ⟨_, rfl⟩
      have b1' : t1 < 4294967296 := q1 ▸ xor_lt32 ht1 (by omega)
      have e0 : ((X : Int) % 4294967296) = X := by omega
      have e1 : bits .xor .u32 (t : Int) (X : Int) = (t1 : Int) := by rw [u32_xor_nat t X ht1 (by omega), q1]
      have HT2 : Hid (bitN 8 t1 = crcAll 4294967295 (xs.take (k + 1))) := by
        show _ = _
        rw [HN.out, crcAll_snoc, ← HT.out, crcB_bits, q1]
        rfl
      clear q1 HN HT
      go_wp2
      go_loop [3, 5] (fun s i => ∃ (j u : Nat), j ≤ 8 ∧ i = .int .i64 j ∧ s = .int .u32 u ∧ u < 4294967296 ∧ Hid (u = bitN j t1)) (fun _ i => 8 - (intOf i).toNat)
      case atStart => exact ⟨0, t1, by decide, rfl, rfl, b1', rfl⟩
      case round =>
        obtain ⟨j, u, hj, rfl, rfl, hu1, HU⟩ := hrel
        by_cases hj8 : j < 8
        · have HU2 : Hid (bit1 u = bitN (j + 1) t1) := by show _ = _; rw [HU.out]; rfl
          have hb := bit1_lt u hu1
          by_cases ho : u % 2 = 1
          · have ea : bits .and .u32 (u : Int) 1 = 1 := by
              have := u32_and_nat u 1 hu1 (by decide)
              rw [nat_mask1, ho] at this; exact this
            have ex : bits .xor .u32 ((u : Int) / 2) 2197175160 = ((bit1 u : Nat) : Int) := by
              have := u32_xor_nat (u / 2) 2197175160 (by omega) (by decide)
              rw [← bit1_odd ho] at this; simpa using this
            generalize bit1 u = u2 at *
            clear HU ho e0 e1 hc
            go_wp2
            go_round
            case rel => exact ⟨j + 1, u2, by omega, by go_num, rfl, hb, HU2⟩
            case measure => simp [intOf]; omega
          · have ea : bits .and .u32 (u : Int) 1 = 0 := by
              have := u32_and_nat u 1 hu1 (by decide)
              rw [nat_mask1, show u % 2 = 0 by omega] at this; exact this
            have ed : bit1 u = u / 2 := bit1_even ho
            rw [ed] at HU2 hb
            clear HU ho e0 e1 hc ed
            go_wp2
            go_round
            case rel => exact ⟨j + 1, u / 2, by omega, by go_num, by go_num, hb, HU2⟩
            case measure => simp [intOf]; omega
        · obtain rfl : j = 8 := by omega
          clear e0 e1 hc
          go_wp2
          go_round
          case rel => exact ⟨k + 1, u, by omega, by go_num, rfl, hu1, HU.out.trans HT2.out⟩
          case measure => simp [intOf]; omega
    · have hke : xs.take k = xs := List.take_of_length_le (by omega)
      have HF : Hid (bits .xor .u32 IntKind.u32.max (t : Int) = ((sumOf xs : Nat) : Int)) := by
        show _ = _
        have hm : IntKind.u32.max = ((4294967295 : Nat) : Int) := by decide
        rw [hm, u32_xor_nat 4294967295 t (by decide) ht1, Nat.xor_comm, not32 t ht1, sumOf, HT.out, hke]
      clear HT hke
      go_wp2
      go_ret
      exact ⟨ret_int HF.out, rfl⟩
end Go.Proofs.YteinhklopnlgbaaDoor
