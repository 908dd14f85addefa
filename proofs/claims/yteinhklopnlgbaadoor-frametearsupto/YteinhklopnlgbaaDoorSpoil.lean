/-
  The law's spoil, by contract: it writes into the slice's own row and into new memory alone.
-/
import Derived.Test.YteinhklopnlgbaaDoorSlices
namespace Go.Proofs.YteinhklopnlgbaaDoor
open Go.RowKit

theorem grown_set {w w' : World} {row : Option Nat} (h : w.grownBy w' row) (g i : Nat) (u : Value) (hg : row = some g ∨ w.heap.size ≤ g) : w.grownBy (w'.setCell ⟨g, i, none⟩ u) row :=
  ⟨h.os, h.tape, h.output, by simpa [World.setCell] using h.size, fun k hk hr => (Below.heap_setCell _ _ _ _ (fun e => by
    have e' : k = g := e
    rcases hg with hg | hg
    · exact hr (by rw [hg, e'])
    · omega)).trans (h.block k hk hr)⟩

set_option maxHeartbeats 1600000 in
theorem spoil_any (base : Nat) (v : Value) (zs : List Int) (w : World) (ho : Ow w base v zs) (hb : base ≤ w.heap.size) (hz : zs.length ≤ 100000000000) :
    Calls Tryd.prog 19 #[v] w fun e w' => e = .returned (.tuple #[]) ∧ w.grownBy w' v.ownBlock := by
  obtain ⟨ao, cap, hv, hj⟩ := ho.form
  clear hj
  subst hv
  have ho1 : Ow (w.alloc (.cells #[.int .u8 99] 5)) base (.slice ao zs.length cap) zs := World.ownsRow.alloc ho _
  have hbs1 : Bs (w.alloc (.cells #[.int .u8 99] 5)) (.slice (some ⟨w.heap.size, 0, none⟩) 1 1) [99] := Bs_of_block (heap_alloc_new w _) (by simp [maxLen])
  go_enter Tryd.func19, Tryd.ntmps19
  go_wp2_with (at_builtin; refine wpList_append_bs _ rfl (.tmp 4) (.tmp 5) rfl base _ zs rfl ho1 _ [99] rfl hbs1 (by simp; omega) (by simp; omega) ?_)
  intro ao2 cap2 w2 ho2 hg2 hat2
  obtain ⟨g, rfl, hg0, hglt, hgl, hgc, hgm⟩ := ho2.grow_form (by simp)
  unfold maxLen at hgm
  have G2 : w.grownBy w2 (Value.slice ao zs.length cap).ownBlock := ⟨hg2.os, hg2.tape, hg2.output, by have := hg2.size; simp at this; omega, fun k hk hr => (hg2.block k (by simp; omega) hr).trans (Below.heap_alloc _ _ _ hk)⟩
  have hrow : (Value.slice ao zs.length cap).ownBlock = some g ∨ w.heap.size ≤ g := by
    rcases hat2 with h | h
    · exact Or.inl h.symm
    · right
      have : g = w.heap.size + 1 := by simpa [Value.ownBlock] using h
      omega
  have hlen : (zs ++ [(99 : Int)]).length = zs.length + 1 := by simp
  clear hat2 hg2 ho1 hbs1 ho hgl
  generalize hys : zs ++ [(99 : Int)] = ys at *
  clear hys
  have hyl1 : ys.length ≤ zs.length + 1 := by omega
  have hyl2 : zs.length + 1 ≤ ys.length := by omega
  have HLEN : Hid (ys.length = zs.length + 1) := hlen
  clear hlen
  go_wp2
  go_loopw [3] (fun i wr => ∃ (k : Nat) (ys' : List Int), k ≤ zs.length + 1 ∧ i = .int .i64 k ∧ Ow wr base (.slice (some ⟨g, 0, none⟩) (zs.length + 1) cap2) ys' ∧ Hid (ys'.length = zs.length + 1) ∧ w.grownBy wr (Value.slice ao zs.length cap).ownBlock) (fun i _ => zs.length + 1 - (intOf i).toNat)
  case atStart => exact ⟨0, ys, Nat.zero_le _, rfl, ho2, HLEN, G2⟩
  case round =>
    obtain ⟨k, ys', hk, rfl, hok, HY, Gk⟩ := hrel
    by_cases hlt : k < zs.length + 1
    · have hck := hok.cell k (by rw [HY.out]; exact hlt)
      have hfk := hok.frozen k
      have hok2 := hok.set k 98
      have HY2 : Hid ((ys'.set k 98).length = zs.length + 1) := by show _ = _; rw [List.length_set]; exact HY.out
      have Gk2 := grown_set Gk g k (.int .u8 98) hrow
      clear hok Gk
      go_wp2
      go_roundw
      case rel => exact ⟨k + 1, _, by omega, by go_num, hok2, HY2, Gk2⟩
      case measure => simp [intOf]; omega
    · go_wp2
      go_end0
      exact ⟨rfl, Gk⟩
end Go.Proofs.YteinhklopnlgbaaDoor
