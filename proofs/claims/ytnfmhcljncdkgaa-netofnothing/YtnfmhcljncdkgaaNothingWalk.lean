/-
  NetOfNothing's own walk.
-/
import Derived.Test.YtnfmhcljncdkgaaNetDropA
import Derived.Test.YtnfmhcljncdkgaaNetMsgs
namespace Go.Proofs.Ytnfmhcljncdkgaa
open Go.RowKit
set_option maxRecDepth 20000 in
set_option maxHeartbeats 4000000 in
theorem nothing_walk (a b : Int) (s : Value) (zs : List Int) (pick : Int) (w : World) (hs : Bs w s zs) :
    Calls Try.prog 5 #[.agg #[.int .i64 a, .int .i64 b, s], .int .i64 pick] w fun e w' => e = .returned (.bool true) ∧ Below w.heap.size w w' := by
  have HB : Hid (∀ W, Below w.heap.size w W → Bs W s zs) := fun W hb => hs.below hb (Nat.le_refl _)
  obtain ⟨ao, cap, rfl, _⟩ := hs.len
  clear hs
  by_cases hz : (1000 : Int) < (zs.length : Int)
  · go_enter Try.func5, Try.ntmps5
    go_wp2_with (refine wpList_box_row rfl 25 (.tmp 0) rfl [.int .i64 a, .int .i64 b, .slice ao zs.length cap] (by rfl) ?_; intro w1 bx hb hs1; have b2 := bx.cell 2; simp only [List.getElem?_cons_zero, List.getElem?_cons_succ] at b2)
    go_ret
    exact ⟨rfl, hb⟩
  · have G := hid_into (fun (W : World) => give_off (w := W) (p := .pointer none) (fun W _ => len_nil W) ⟨none, rfl⟩ pick)
    go_enter Try.func5, Try.ntmps5
    go_wp2_with (first
      | (refine wpList_box_row rfl 25 (.tmp 0) rfl [.int .i64 a, .int .i64 b, .slice ao zs.length cap] (by rfl) ?_; intro w1 bx hb hs1; have b2 := bx.cell 2; simp only [List.getElem?_cons_zero, List.getElem?_cons_succ] at b2)
      | (go_at_call 15; refine (G.out _).mono ?_; rintro e w2 ⟨rfl, hb2⟩; have bx3 := (Below.cw_of hb2 bx).alloc (.cells #[.int .i64 0, .int .i64 0, .slice none 0 0] 25); have y2 := Cw.new w2 [.int .i64 0, .int .i64 0, .slice none 0 0] 25; have hb20 := hb.trans (hb2.mono hb.size); have hb2a := hb20.alloc hb20.size (.cells #[.int .i64 0, .int .i64 0, .slice none 0 0] 25))
      | (have := bx3; refine wpList_load_rw rfl 25 (.tmp 2) rfl w.heap.size _ _ _ (by rfl) bx3 Try.underlying25 rfl size25 ?_; clear bx3)
      | (go_at_call 11; refine (send_nil _ a b _).mono ?_; rintro e w3 ⟨rfl, hb3⟩; have y3 := Below.cw_of hb3 y2; have e0 := y3.cell 0; have e1 := y3.cell 1; have e2 := y3.cell 2; simp only [List.getElem?_cons_zero, List.getElem?_cons_succ] at e0 e1 e2; have hb30 := hb2a.trans (hb3.mono hb2a.size))
      | (go_at_call 17; refine (messages_any 0 0 0 0 (bs_nil _) (bs_nil _)).mono ?_; rintro e w4 ⟨rfl, hb4⟩; rw [show msB 0 0 [] 0 0 [] = true from rfl]; have hb40 := hb30.trans (hb4.mono hb30.size))
      | (go_at_call 18; refine (twice_off (fun W _ => len_nil W) pick).mono ?_; rintro e w5 ⟨rfl, hb5⟩; have hb50 := hb40.trans (hb5.mono hb40.size))
      | (go_at_call 20; refine (late_off (fun W _ => len_nil W) pick).mono ?_; rintro e w6 ⟨rfl, hb6⟩; have hb60 := hb50.trans (hb6.mono hb50.size))
      | (go_at_call 24; refine (len_nil _).mono ?_; rintro e w7 ⟨rfl, hw⟩; replace hw := hw.symm; subst hw)
      | (go_at_call 22; refine (drop_nil _ _).mono ?_; rintro e w8 ⟨rfl, hb8⟩; have hb80 := hb60.trans (hb8.mono hb60.size))
      | (go_at_call 25; refine (known_any _).mono ?_; rintro e w9 ⟨rfl, hb9⟩; have hb90 := hb80.trans (hb9.mono hb80.size)))
    go_ret
    exact ⟨rfl, hb90⟩
end Go.Proofs.Ytnfmhcljncdkgaa
