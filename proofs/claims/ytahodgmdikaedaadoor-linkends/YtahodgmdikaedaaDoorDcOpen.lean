/-
  The document's Open and its Reader's Num whatever came ahead, by contracts.
-/
import Derived.Test.YtahodgmdikaedaaDoorM10
import Derived.Test.YtahodgmdikaedaaDoorM12
import Derived.Test.YtahodgmdikaedaaDoorRefReaderBytes
namespace Go.Proofs.YtahodgmdikaedaaDoor
open Go.RowKit
/-- What Open holds, and its error. -/
def opP (zs : List Int) : List Int := if oneB zs then decP zs else []
def opE (zs : List Int) : Int := if decE zs ≠ 0 then decE zs else if decN zs = zs.length then 0 else 3
theorem opE_one (zs : List Int) : opE zs = 0 ↔ oneB zs := by
  unfold opE oneB
  by_cases h1 : decE zs = 0
  · rw [if_neg (fun h => h h1)]
    by_cases h2 : decN zs = zs.length
    · rw [if_pos h2]; exact ⟨fun _ => ⟨h1, h2⟩, fun _ => rfl⟩
    · rw [if_neg h2]; exact ⟨fun h => absurd h (by decide), fun h => absurd h.2 h2⟩
  · rw [if_pos h1]; exact ⟨fun h => absurd h h1, fun h => absurd h.1 h1⟩
theorem opP_byt {zs : List Int} (h : Byt zs) : Byt (opP zs) := by
  unfold opP
  split
  · exact decP_byt h
  · intro z hz; cases hz
theorem opP_len (zs : List Int) : (opP zs).length ≤ zs.length := by
  unfold opP
  split
  · exact decP_len
  · simp
section
variable {w : World} {sv : Value} {zs : List Int}
set_option maxHeartbeats 1600000 in
set_option maxRecDepth 20000 in
theorem dopen_any (hb : Bs w sv zs) (hy : Byt zs) (hz : zs.length ≤ 1000000) :
    Calls Tryd.prog 42 #[sv] w fun e w' => ∃ ao cap, e = .returned (.tuple #[.slice ao (opP zs).length cap, .int .i64 (opE zs)]) ∧ Ow w' w.heap.size (.slice ao (opP zs).length cap) (opP zs) ∧ Below w.heap.size w w' := by
  have C := hid_into (show Calls Tryd.prog 54 #[sv] w (fun e w' => ∃ ao cap, e = .returned (.tuple #[.slice ao (decP zs).length cap, .int .i64 (decN zs), .int .i64 (decE zs)]) ∧ Ow w' w.heap.size (.slice ao (decP zs).length cap) (decP zs) ∧ Below w.heap.size w w') from rdec_any sv zs w hb hy (by omega))
  obtain ⟨ao, cap, rfl, hm⟩ := hb.len
  clear hb hy hz
  by_cases c1 : decE zs = 0
  · by_cases c2 : decN zs = zs.length
    · have e1 : opE zs = 0 := (opE_one zs).2 ⟨c1, c2⟩
      have e2 : opP zs = decP zs := if_pos ⟨c1, c2⟩
      rw [e1, e2]
      rw [c1, c2] at C
      clear e1 e2 c1 c2
      generalize decP zs = P at *
      go_enter Tryd.func42, Tryd.ntmps42
      go_wp2_with (go_at_call 54; refine C.out.mono ?_; rintro e w1 ⟨ao1, cap1, rfl, ho, hB⟩)
      go_ret2
      exact ⟨ao1, cap1, rfl, ho, hB⟩
    · have e1 : opE zs = 3 := by unfold opE; rw [if_neg (fun h => h c1), if_neg c2]
      have e2 : opP zs = [] := if_neg fun h => c2 h.2
      have c2' : ¬ ((decN zs : Nat) : Int) = (zs.length : Int) := by omega
      rw [e1, e2]
      rw [c1] at C
      clear e1 e2 c1 c2
      generalize decP zs = P at *
      generalize decN zs = N at *
      go_enter Tryd.func42, Tryd.ntmps42
      go_wp2_with (go_at_call 54; refine C.out.mono ?_; rintro e w1 ⟨ao1, cap1, rfl, ho, hB⟩)
      go_ret2
      exact ⟨none, 0, rfl, World.ownsRow_nil _ _ _ _, hB⟩
  · have e1 : opE zs = decE zs := if_pos c1
    have e2 : opP zs = [] := if_neg fun h => c1 h.1
    rw [e1, e2]
    clear e1 e2
    generalize decP zs = P at *
    generalize decN zs = N at *
    generalize decE zs = E at *
    go_enter Tryd.func42, Tryd.ntmps42
    go_wp2_with (go_at_call 54; refine C.out.mono ?_; rintro e w1 ⟨ao1, cap1, rfl, ho, hB⟩)
    go_ret2
    exact ⟨none, 0, rfl, World.ownsRow_nil _ _ _ _, hB⟩
end
set_option maxHeartbeats 1600000 in
theorem fnumE_any (b : Nat) (v : Value) (zs : List Int) (e : Int) (w : World) (hr : Rf w b v zs e) (hi : Inv zs e) (hz : Byt zs) :
    Calls Tryd.prog 43 #[.pointer (some ⟨b, 0, none⟩)] w fun r w' => r = .returned (.int .i64 (numE zs e).1) ∧ Fleft w b v w' (numE zs e).2.1 (numE zs e).2.2 := by
  by_cases he : e = 0
  · subst he
    rw [numE_ok]
    exact fnum_any b v zs w hr hz
  · rw [numE_err he]
    have C := fbyte_u b v zs e w hr hi
    rw [rowR_err he] at C
    have C := hid_into C
    clear hr hi hz
    go_enter Tryd.func43, Tryd.ntmps43
    go_wp2
    refine wp_loop_rounds 1 ?_
    rw [rounds_succ]
    go_wp2_with (go_at_call 55; refine C.out.mono ?_; rintro r w1 ⟨rfl, v1, hr1, hs1, ho1⟩; have hc1 := hr1.cell1)
    go_ret
    exact ⟨rfl, v1, hr1, hs1, ho1⟩
theorem numE_inv (zs : List Int) (e : Int) (h : Inv zs e) : Inv (numE zs e).2.1 (numE zs e).2.2 := by
  unfold numE
  split
  · exact h
  · exact numR_inv 10 0 0 zs
end Go.Proofs.YtahodgmdikaedaaDoor
