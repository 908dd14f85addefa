/-
  The Writer's Bytes, Hash, Out; bytes.Clone; the law's same.
-/
import Derived.Test.YtkfnmdhhiigceaaOcWriterB
import Derived.Lib.SliceRun
import Derived.Deep.QuietTactic
import Derived.BigQuiet
namespace Go.Proofs.Ytkfnmdhhiigceaa.Oc
open Go.RowKit
/-- bytes.Clone: a row of its own, with the same bytes. -/
theorem clone_any (sv : Value) (zs : List Int) (w : World) (hb : Bs w sv zs) (hz : zs.length ≤ 100000000000000) :
    Calls Try.prog 31 #[sv] w fun e w' => ∃ ao cap, e = .returned (.slice ao zs.length cap) ∧ Ow w' w.heap.size (.slice ao zs.length cap) zs ∧ Below w.heap.size w w' := by
  obtain ⟨ao, cap, hsv, hm⟩ := hb.len
  subst hsv
  have he := fun w1 => Lib.run_eql_slice_nil (P := Try.prog) w1 22 5 ao zs.length cap 0 0 Try.underlying22
  cases hao : ao with
  | none =>
    have hz0 : zs = [] := by
      rcases hb with ⟨h0, _⟩ | ⟨_, b2, off, cap2, he2, _⟩
      · exact h0
      · simp [hao] at he2
    subst hz0
    subst hao
    have he := fun w1 => Lib.run_eql_slice_nil (P := Try.prog) w1 22 5 none 0 cap 0 0 Try.underlying22
    go_enter Try.func31, Try.ntmps31
    go_wp2
    go_ret
    exact ⟨none, 0, rfl, World.ownsRow_nil _ _ _ _, Below.refl _ _⟩
  | some a =>
    subst hao
    have hown0 : Ow (w.alloc (.cells #[] 5)) w.heap.size (.slice (some ⟨w.heap.size, 0, none⟩) 0 0) [] := Ow_of_block (heap_alloc_new w _) (by simp) (Nat.le_refl _)
    have hb1 : Bs (w.alloc (.cells #[] 5)) (.slice (some a) zs.length cap) zs := hb.below ((Below.refl _ _).alloc (Nat.le_refl _) _) (Nat.le_refl _)
    go_enter Try.func31, Try.ntmps31
    go_wp2_with (at_builtin; refine wpList_append_bs _ rfl (.tmp 5) (.tmp 6) rfl w.heap.size _ [] rfl hown0 _ zs rfl hb1 (by simp; omega) (by simp) ?_)
    intro ao2 cap2 w2 hown hgrow hat
    go_wp2
    go_ret
    exact ⟨ao2, cap2, rfl, hown, ((Below.refl _ _).alloc (Nat.le_refl _) _).grown hgrow (by simp) (fun k hk => by simp [Value.ownBlock] at hk; omega)⟩

theorem out_w (b : Nat) (v : Value) (xs : List Int) (w : World) (hw : Wr w b v xs) (hn : xs.length ≤ 100000000000000) :
    Calls Try.prog 20 #[.pointer (some ⟨b, 0, none⟩)] w fun e w' => ∃ ao cap, e = .returned (.slice ao xs.length cap) ∧ Ow w' w.heap.size (.slice ao xs.length cap) xs ∧ Below w.heap.size w w' := by
  have hc := hw.cell
  go_enter Try.func20, Try.ntmps20
  go_wp2_with (go_at_call 31; refine (clone_any v xs _ hw.2.bs hn).mono ?_; rintro e w1 ⟨ao, cap, rfl, hown, hbel⟩)
  go_ret
  exact ⟨ao, cap, rfl, hown, hbel⟩

theorem out_nil (w : World) : Calls Try.prog 20 #[.pointer none] w fun e w' => e = .returned (.slice none 0 0) ∧ w = w' := by
  go_enter Try.func20, Try.ntmps20
  go_wp2
  go_ret
  exact ⟨rfl, rfl⟩

end Go.Proofs.Ytkfnmdhhiigceaa.Oc
