/-
  DiskPlays: the law's roomy, stands and spoil, by contract (octet's texts, in this seat's numbers).
-/
import Derived.Test.YtnfmhcljncdkgaaBase
namespace Go.Proofs.Ytnfmhcljncdkgaa
open Go.RowKit

theorem Ow.take {w : World} {base g m cap : Nat} {ys : List Int} (h : Ow w base (.slice (some ⟨g, 0, none⟩) m cap) ys) (k : Nat) (hk : k ≤ ys.length) : Ow w base (.slice (some ⟨g, 0, none⟩) k cap) (ys.take k) := by
  obtain ⟨ao, c, he, ⟨rfl, _⟩ | ⟨g', cur, rfl, hb, hl, hg, hn, hc, hs, ht⟩⟩ := h.form
  · simp at he
  · simp only [Value.slice.injEq, Option.some.injEq, Addr.mk.injEq, and_true] at he
    obtain ⟨rfl, rfl, rfl⟩ := he
    have hlen : (ys.take k).length = k := by simp; omega
    refine ⟨by simp [cellsOf], Or.inr ⟨g, cap, cur, by rw [hlen], hb, hg, by rw [hlen]; omega, hc, by simpa using hs, ?_⟩⟩
    rw [hlen, Nat.mul_one]
    have := congrArg (List.take k) ht
    rw [List.take_take, Nat.min_eq_left hk] at this
    rw [this]
    simp [cellsOf, List.map_take]
theorem Ow.grow_form {w : World} {base m cap : Nat} {ao : Option Addr} {ys : List Int} (h : Ow w base (.slice ao m cap) ys) (hn : ys ≠ []) : ∃ g, ao = some ⟨g, 0, none⟩ ∧ base ≤ g ∧ g < w.heap.size ∧ m = ys.length ∧ ys.length ≤ cap ∧ cap ≤ maxLen := by
  obtain ⟨ao, c, he, ⟨rfl, _, h0⟩ | ⟨g', cur, rfl, hb, hl, hg, hn, hc, hs, ht⟩⟩ := h.form
  · exact absurd h0 hn
  · simp only [Value.slice.injEq] at he
    obtain ⟨rfl, rfl, rfl⟩ := he
    exact ⟨g', rfl, hb, hl, rfl, hn, hc⟩
theorem Ow.cellH {w : World} {base g m cap : Nat} {ys : List Int} (h : Ow w base (.slice (some ⟨g, 0, none⟩) m cap) ys) (i : Nat) (hi : i < ys.length) : w.cell? ⟨g, i, none⟩ = some (.int .u8 (ys.getD i 0)) := by
  have := World.ownsRow.cells h (g := g) rfl i _ (cellsOf_get' ys i hi)
  simpa [Addr.add_lit] using this
theorem Ow.setH {w : World} {base g m cap : Nat} {ys : List Int} (h : Ow w base (.slice (some ⟨g, 0, none⟩) m cap) ys) (i : Nat) (x : Int) :
    Ow (w.setCell ⟨g, i, none⟩ (.int .u8 x)) base (.slice (some ⟨g, 0, none⟩) m cap) (ys.set i x) := by
  obtain ⟨ao, c, he, ⟨rfl, _⟩ | ⟨g', cur, rfl, hb, hl, hg, hn, hc, hs, ht⟩⟩ := h.form
  · simp at he
  · simp only [Value.slice.injEq, Option.some.injEq, Addr.mk.injEq, and_true] at he
    obtain ⟨rfl, rfl, rfl⟩ := he
    refine ⟨by simp [cellsOf], Or.inr ⟨g, cap, cur.setIfInBounds i (.int .u8 x), by simp, hb, ?_, by simpa using hn, hc, by simpa using hs, ?_⟩⟩
    · simp only [World.setCell, Array.getElem?_modify, hg]
      simp
    · simp only [List.length_set, Nat.mul_one, Array.toList_setIfInBounds]
      rw [List.take_set, ht]
      simp [cellsOf, List.map_set]
theorem Ow.frozenH {w : World} {base g m cap : Nat} {ys : List Int} (h : Ow w base (.slice (some ⟨g, 0, none⟩) m cap) ys) (i : Nat) : w.frozen? ⟨g, i, none⟩ = false := by
  obtain ⟨ao, c, he, ⟨rfl, _⟩ | ⟨g', cur, rfl, hb, hl, hg, hn, hc, hs, ht⟩⟩ := h.form
  · simp at he
  · simp only [Value.slice.injEq, Option.some.injEq, Addr.mk.injEq, and_true] at he
    obtain ⟨rfl, rfl, rfl⟩ := he
    simp [World.frozen?, hg]
theorem Ow.bounds {w : World} {base g m cap : Nat} {ys : List Int} (h : Ow w base (.slice (some ⟨g, 0, none⟩) m cap) ys) : m = ys.length ∧ ys.length ≤ cap ∧ cap ≤ maxLen := by
  obtain ⟨ao, c, he, ⟨rfl, _, h0⟩ | ⟨g', cur, rfl, hb, hl, hg, hn, hc, hs, ht⟩⟩ := h.form
  · simp at he
  · simp only [Value.slice.injEq] at he
    obtain ⟨_, rfl, rfl⟩ := he
    exact ⟨rfl, hn, hc⟩
theorem Sm.cellH {w w' : World} (h : Sm w w') {a : Addr} {v : Value} (hc : w.cell? a = some v) : w'.cell? a = some v := by
  rw [World.cell?_of_block (w := w) (by rw [h.heap])]; exact hc
set_option maxHeartbeats 800000 in
theorem roomy_any (sv : Value) (zs : List Int) (w : World) (hb : Bs w sv zs) (hz : zs.length ≤ 100000000000000) :
    Calls Try.prog 10 #[sv] w fun e w' => ∃ g cap, e = .returned (.slice (some ⟨g, 0, none⟩) (zs.length + 1) cap) ∧ Ow w' w.heap.size (.slice (some ⟨g, 0, none⟩) (zs.length + 1) cap) (zs ++ [171]) ∧ Below w.heap.size w w' ∧ w.heap.size ≤ g ∧ zs.length + 2 ≤ cap := by
  obtain ⟨ao, cap, hsv, hm⟩ := hb.len
  subst hsv
  have hown0 : Ow (w.alloc (.cells #[] 5)) w.heap.size (.slice (some ⟨w.heap.size, 0, none⟩) 0 0) [] := Ow_of_block (heap_alloc_new w _) (by simp) (Nat.le_refl _)
  have hb1 : Bs (w.alloc (.cells #[] 5)) (.slice ao zs.length cap) zs := hb.below ((Below.refl _ _).alloc (Nat.le_refl _) _) (Nat.le_refl _)
  go_enter Try.func10, Try.ntmps10
  go_wp2_with (at_builtin; refine wpList_append_bs _ rfl (.tmp 3) (.tmp 4) rfl w.heap.size _ [] rfl hown0 _ zs rfl hb1 (by simp; omega) (by simp) ?_)
  intro ao1 cap1 w1 hown1 hgrow1 hat1
  have B1 : Below w.heap.size w w1 := ((Below.refl _ _).alloc (Nat.le_refl _) _).grown hgrow1 (by simp) (fun k hk => by simp [Value.ownBlock] at hk; omega)
  have hs1 := B1.size
  have hown1' : Ow (w1.alloc (.cells #[.int .u8 171] 5)) w.heap.size (.slice ao1 zs.length cap1) zs := World.ownsRow.alloc hown1 _
  have hbs1 : Bs (w1.alloc (.cells #[.int .u8 171] 5)) (.slice (some ⟨w1.heap.size, 0, none⟩) 1 1) [171] := Bs_of_block (heap_alloc_new w1 _) (by simp [maxLen])
  go_wp2_with (at_builtin; refine wpList_append_bs _ rfl (.tmp 5) (.tmp 6) rfl w.heap.size _ zs rfl hown1' _ [171] rfl hbs1 (by simp; omega) (by simp; omega) ?_)
  intro ao2 cap2 w2 hown2 hgrow2 hat2
  have B2 : Below w.heap.size w w2 := (B1.alloc hs1 _).grown hgrow2 (by simp; omega) (fun k hk => (World.ownsRow.lt hown1' k hk).1)
  have hs2 := B2.size
  obtain ⟨ys, hys⟩ : ∃ ys, ys = zs ++ [171] := ⟨_, rfl⟩
  have hyl : zs.length + 1 = ys.length := by rw [hys]; simp
  rw [← hys] at hown2
  have hown2' : Ow (w2.alloc (.cells #[.int .u8 171] 5)) w.heap.size (.slice ao2 (zs.length + 1) cap2) ys := World.ownsRow.alloc hown2 _
  have hbs2 : Bs (w2.alloc (.cells #[.int .u8 171] 5)) (.slice (some ⟨w2.heap.size, 0, none⟩) 1 1) [171] := Bs_of_block (heap_alloc_new w2 _) (by simp [maxLen])
  have HY : Hid (ys = zs ++ [171]) := hys
  have HL : Hid (zs.length + 1 = ys.length) := hyl
  have hy1 : zs.length + 1 ≤ ys.length := by omega
  have hy2 : ys.length ≤ zs.length + 1 := by omega
  clear hys hyl
  go_wp2_with (at_builtin; refine wpList_append_bs _ rfl (.tmp 7) (.tmp 8) rfl w.heap.size _ ys rfl hown2' _ [171] rfl hbs2 (by simp; omega) (by simp; omega) ?_)
  intro ao3 cap3 w3 hown3 hgrow3 hat3
  have B3 : Below w.heap.size w w3 := (B2.alloc hs2 _).grown hgrow3 (by simp; omega) (fun k hk => (World.ownsRow.lt hown2' k hk).1)
  obtain ⟨g, hg, hg1, hg2, hg3, hg4, hg5⟩ := hown3.grow_form (by simp)
  subst hg
  have hl3 : (ys ++ [(171 : Int)]).length = ys.length + 1 := by simp
  have hfin := hown3.take (zs.length + 1) (by rw [hl3]; omega)
  rw [show (ys ++ [(171 : Int)]).take (zs.length + 1) = ys by rw [HL.out]; simp, HY.out] at hfin
  rw [hl3] at hg4
  have hcp : zs.length + 1 ≤ cap3 := by omega
  have hcp2 : zs.length + 2 ≤ cap3 := by omega
  unfold maxLen at hg5
  clear hown3 hgrow3 hat3 hown2' hbs2 hown2 hgrow2 hat2 hown1' hbs1 hown1 hgrow1 hat1 hown0 hb1 HY hl3 hg3 hg4
  go_wp2
  go_ret
  exact ⟨g, cap3, rfl, hfin, B3, hg1, hcp2⟩
set_option maxHeartbeats 800000 in
theorem stands_any (base g cap : Nat) (sv : Value) (zs : List Int) (w : World) (ho : Ow w base (.slice (some ⟨g, 0, none⟩) (zs.length + 1) cap) (zs ++ [171])) (hb : Bs w sv zs) (hz : zs.length ≤ 100000000000000) :
    Calls Try.prog 13 #[.slice (some ⟨g, 0, none⟩) (zs.length + 1) cap, sv] w fun e w' => e = .returned (.bool true) ∧ Sm w w' := by
  obtain ⟨ao, cap', hsv, hm⟩ := hb.len
  subst hsv
  obtain ⟨-, hc1, hc2⟩ := ho.bounds
  have hc1' : zs.length + 1 ≤ cap := by simpa using hc1
  clear hc1
  unfold maxLen at hc2
  have hc := ho.cellH zs.length (by simp)
  rw [show (zs ++ [(171 : Int)]).getD zs.length 0 = 171 by simp [List.getD]] at hc
  have ht := (ho.take zs.length (by simp)).bs
  rw [show (zs ++ [(171 : Int)]).take zs.length = zs by simp] at ht
  have heq : eqB zs zs = true := eqB_true rfl
  go_enter Try.func13, Try.ntmps13
  go_wp2_with fail
  refine (same_any _ _ zs zs _ ht hb).mono ?_
  rintro e w1 ⟨rfl, hsm⟩
  rw [heq]
  have hcc := hsm.cellH hc
  clear hc
  go_wp2
  go_ret
  exact ⟨rfl, hsm⟩
theorem grown_set {w w' : World} {row : Option Nat} (h : w.grownBy w' row) (g i : Nat) (u : Value) (hg : row = some g ∨ w.heap.size ≤ g) : w.grownBy (w'.setCell ⟨g, i, none⟩ u) row :=
  ⟨h.os, h.tape, h.output, by simpa [World.setCell] using h.size, fun k hk hr => (Below.heap_setCell _ _ _ _ (fun e => by
    have e' : k = g := e
    rcases hg with hg | hg
    · exact hr (by rw [hg, e'])
    · omega)).trans (h.block k hk hr)⟩
set_option maxHeartbeats 1600000 in
theorem spoil_any (base : Nat) (v : Value) (zs : List Int) (w : World) (ho : Ow w base v zs) (hb : base ≤ w.heap.size) (hz : zs.length ≤ 100000000000) :
    Calls Try.prog 14 #[v] w fun e w' => e = .returned (.tuple #[]) ∧ w.grownBy w' v.ownBlock := by
  obtain ⟨ao, cap, hv, hj⟩ := ho.form
  clear hj
  subst hv
  have ho1 : Ow (w.alloc (.cells #[.int .u8 99] 5)) base (.slice ao zs.length cap) zs := World.ownsRow.alloc ho _
  have hbs1 : Bs (w.alloc (.cells #[.int .u8 99] 5)) (.slice (some ⟨w.heap.size, 0, none⟩) 1 1) [99] := Bs_of_block (heap_alloc_new w _) (by simp [maxLen])
  go_enter Try.func14, Try.ntmps14
  go_wp2_with (at_builtin; refine wpList_append_bs _ rfl (.tmp 4) (.tmp 5) rfl base _ zs rfl ho1 _ [99] rfl hbs1 (by simp; omega) (by simp; omega) ?_)
  intro ao2 cap2 w2 ho2 hg2 hat2
  obtain ⟨g, rfl, hg0, hglt, hgl, hgc, hgm⟩ := ho2.grow_form (by simp)
  unfold maxLen at hgm
  have G2 : w.grownBy w2 (Value.slice ao zs.length cap).ownBlock := ⟨hg2.os, hg2.tape, hg2.output, by have := hg2.size; simp at this; omega, fun k hk hr => (hg2.block k (by simp; omega) hr).trans (Below.heap_alloc _ _ _ hk)⟩
  have hrow : (Value.slice ao zs.length cap).ownBlock = some g ∨ w.heap.size ≤ g := by
    rcases hat2 with h | h
    · exact Or.inl h.symm
    · right
      have : g = w.heap.size + 1 := by simpa [Value.ownBlock] using h
      omega
  have hlen : (zs ++ [(99 : Int)]).length = zs.length + 1 := by simp
  clear hat2 hg2 ho1 hbs1 ho hgl
  generalize hys : zs ++ [(99 : Int)] = ys at *
  clear hys
  have hyl1 : ys.length ≤ zs.length + 1 := by omega
  have hyl2 : zs.length + 1 ≤ ys.length := by omega
  have HLEN : Hid (ys.length = zs.length + 1) := hlen
  clear hlen
  go_wp2
  go_loopw [3] (fun i wr => ∃ (k : Nat) (ys' : List Int), k ≤ zs.length + 1 ∧ i = .int .i64 k ∧ Ow wr base (.slice (some ⟨g, 0, none⟩) (zs.length + 1) cap2) ys' ∧ Hid (ys'.length = zs.length + 1) ∧ w.grownBy wr (Value.slice ao zs.length cap).ownBlock) (fun i _ => zs.length + 1 - (intOf i).toNat)
  case atStart => exact ⟨0, ys, Nat.zero_le _, rfl, ho2, HLEN, G2⟩
  case round =>
    obtain ⟨k, ys', hk, rfl, hok, HY, Gk⟩ := hrel
    by_cases hlt : k < zs.length + 1
    · have hck := hok.cellH k (by rw [HY.out]; exact hlt)
      have hfk := hok.frozenH k
      have hok2 := hok.setH k 98
      have HY2 : Hid ((ys'.set k 98).length = zs.length + 1) := by show _ = _; rw [List.length_set]; exact HY.out
      have Gk2 := grown_set Gk g k (.int .u8 98) hrow
      clear hok Gk
      go_wp2
      go_roundw
      case rel => exact ⟨k + 1, _, by omega, by go_num, hok2, HY2, Gk2⟩
      case measure => simp [intOf]; omega
    · go_wp2
      go_end0
      exact ⟨rfl, Gk⟩
end Go.Proofs.Ytnfmhcljncdkgaa
