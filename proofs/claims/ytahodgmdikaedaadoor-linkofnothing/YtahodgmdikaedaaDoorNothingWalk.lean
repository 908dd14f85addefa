/-
  LinkOfNothing's walk.
-/
import Derived.Test.YtahodgmdikaedaaDoorM13
namespace Go.Proofs.YtahodgmdikaedaaDoor
open Go.RowKit
set_option maxHeartbeats 3200000 in
set_option maxRecDepth 20000 in
theorem nothing_walk (sv : Value) (zs : List Int) (w : World) (hb : Bs w sv zs) (ht : Tab w) : Calls Tryd.prog 7 #[sv] w fun e w' => e = .returned (.bool true) ∧ Below w.heap.size w w' := by
  obtain ⟨ao, cap, rfl, hm⟩ := hb.len
  clear hb
  by_cases c : zs.length ≤ 1000
  · have c' : ¬ (1000 : Int) < (zs.length : Int) := by omega
    have K : Hid (∀ W, Below w.heap.size w W → Calls Tryd.prog 10 #[] W fun e w' => e = .returned (.bool true) ∧ Below W.heap.size W w') := fun W h => lknown_any W (ht.below h ht.lt)
    clear ht c hm
    go_enter Tryd.func7, Tryd.ntmps7
    go_wp2_with (first
      | (go_at_call 14; refine (send_nil _ _).mono ?_; rintro e w1 ⟨rfl, h1⟩; subst h1)
      | (go_at_call 16; refine (hear_nil _ _).mono ?_; rintro e w2 ⟨rfl, h2⟩; subst h2)
      | (go_at_call 23; refine (stats_nil _).mono ?_; rintro e w3 ⟨rfl, h3⟩)
      | (go_at_call 15; refine (tick_nil _).mono ?_; rintro e w4 ⟨rfl, h4⟩; subst h4)
      | (go_at_call 19; refine (left_nil _).mono ?_; rintro e w5 ⟨rfl, h5⟩; subst h5)
      | (go_at_call 10; refine (K.out _ (h3.below _)).mono ?_; rintro e w6 ⟨rfl, h6⟩))
    go_ret
    exact ⟨rfl, (h3.below _).trans (h6.mono (by rw [h3.heap]; exact Nat.le_refl _))⟩
  · have c' : (1000 : Int) < (zs.length : Int) := by omega
    clear ht c hm
    go_enter Tryd.func7, Tryd.ntmps7
    go_wp2_with fail
    go_ret
    exact ⟨rfl, Below.refl _ _⟩
end Go.Proofs.YtahodgmdikaedaaDoor
