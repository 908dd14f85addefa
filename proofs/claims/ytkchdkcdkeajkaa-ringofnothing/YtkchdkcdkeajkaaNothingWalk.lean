/-
  RingOfNothing's own walk.
-/
import Derived.Test.YtkchdkcdkeajkaaRgKnown
namespace Go.Proofs.Ytkchdkcdkeajkaa
open Go.RowKit
set_option maxRecDepth 20000 in
set_option maxHeartbeats 4000000 in
theorem nothing_walk (s : Sp) (hs : Gs s) (x : Int) (w : World) : Calls Try.prog 5 #[.agg (stV s).toArray, .int .i64 x] w fun e w' => e = .returned (.bool true) ∧ Below w.heap.size w w' := by
  have CF := hid_into frames_nil
  have CW := hid_into newest_nil
  have CG := hid_into get_nil
  have CN0 := hid_into (fun W => new_no W 0 (by omega))
  have CN1 := hid_into (fun W => new_no W 257 (by omega))
  have CP := hid_into (put_nil s hs)
  have CK := hid_into known_any
  have HN := st_size hs.1
  have HZ : Hid ((Try.prog.info? 35).bind (·.zero) = some (.agg zeroS.toArray)) := Try.zero35
  have ZS := zeroS_size
  have HBz : Hid (Try.prog.built 35 [] = some zeroS.toArray) := built28z
  have HOz := st_one noS_wf
  have HEz : Hid (∀ W : World, (Op.equalIn 10000 35 (.agg zeroS.toArray) (.agg zeroS.toArray)).run Try.prog W = .ok true W) := fun W => by have := run_eqS noS noS noS_wf noS_wf W; rw [eqS_same] at this; exact this
  change Hid (∀ v ∈ zeroS, v.oneCell' = true) at HOz
  generalize zeroS = zz at *
  generalize stV s = cs at *
  clear hs
  go_enter Try.func5, Try.ntmps5
  have tok1 : True := trivial
  have tok2 : True := trivial
  have tok3 : True := trivial
  go_wp2_with (go_big_may; first
    | (refine wpList_box_row rfl 35 (.tmp 0) rfl cs rfl ?_; intro W1 hc1 B1 HS1)
    | (go_at_call 11; refine (CF.out _).mono ?_; rintro e w2 ⟨rfl, h2⟩; have HB2 := hid_into (B1.trans (h2.below _)); have hc2 := h2.cw hc1; clear hc1 B1 h2)
    | (go_at_call 13; refine (CW.out _).mono ?_; rintro e w3 ⟨rfl, h3⟩; have HB3 := hid_into (HB2.out.trans (h3.mono HB2.out.size)); have hc3 := hc2.below h3 hc2.lt; clear hc2 HB2 h3)
    | (have _k := tok1; refine wpList_alloc_row rfl 35 rfl zz HZ.out ?_; intro W4 hx4 B4 HS4; have HB4 := hid_into (HB3.out.trans (B4.mono HB3.out.size)); have hc4 := hc3.below B4 hc3.lt; have hn4 := hid_into (Nat.ne_of_lt hc3.lt); clear hc3 B4 tok1)
    | (refine wpList_store_rw rfl 35 (.tmp 8) (.tmp 24) rfl w3.heap.size zz zz 35 rfl rfl ?_ ZS (hid_into rfl) HOz.out ?_; exact hx4; intro W5 hx5 O5; have HB5 := hid_into (HB4.out.trans (O5.below HB3.out.size)); have hc5 := O5.cw hc4 hn4.out; clear hx4 hc4 O5)
    | (go_at_call 15; refine (CG.out _ _).mono ?_; rintro e w6 ⟨rfl, h6⟩; have HB6 := hid_into (HB5.out.trans (h6.mono HB5.out.size)); have hc6 := hc5.below h6 hc5.lt; have hx6 := hx5.below h6 hx5.lt; clear hc5 hx5 h6)
    | (have _k := tok2; refine wpList_alloc_row rfl 35 rfl zz HZ.out ?_; intro W7 hy7 B7 HS7; have HB7 := hid_into (HB6.out.trans (B7.mono HB6.out.size)); have hc7 := hc6.below B7 hc6.lt; have hx7 := hx6.below B7 hx6.lt; have hn7 := hid_into (Nat.ne_of_lt hc6.lt); have hm7 := hid_into (Nat.ne_of_lt hx6.lt); clear hc6 hx6 B7 tok2)
    | (refine wpList_store_rw rfl 35 (.tmp 10) (.tmp 30) rfl w6.heap.size zz zz 35 rfl rfl ?_ ZS (hid_into rfl) HOz.out ?_; exact hy7; intro W8 hy8 O8; have HB8 := hid_into (HB7.out.trans (O8.below HB6.out.size)); have hc8 := O8.cw hc7 hn7.out; have hx8 := O8.cw hx7 hm7.out; clear hy7 hc7 hx7 O8)
    | (have _k := tok3; go_at_call 6; refine (CN0.out _).mono ?_; rintro e w9 ⟨rfl, h9⟩; replace h9 := h9.symm; subst h9; clear tok3)
    | (go_at_call 6; refine (CN1.out _).mono ?_; rintro e w9 ⟨rfl, h9⟩; replace h9 := h9.symm; subst h9)
    | (refine wpList_load_rw rfl 35 (.tmp 2) rfl w.heap.size cs 35 _ rfl ?_ Try.underlying35 rfl HN ?_; exact hc8)
    | (go_at_call 9; refine (CP.out _).mono ?_; rintro e wa ⟨rfl, ha⟩; have HBa := hid_into (HB8.out.trans (ha.mono HB8.out.size)); have hxa := hx8.below ha hx8.lt; have hya := hy8.below ha hy8.lt; clear hx8 hy8 ha)
    | (refine wpList_load_rwG (by kernel_rfl) 35 (.tmp 8) rfl w3.heap.size zz 35 _ rfl ?_ Try.underlying35 rfl ZS ?_; exact hxa)
    | (refine wpList_load_rwG (by kernel_rfl) 35 (.tmp 10) rfl w6.heap.size zz 35 _ rfl ?_ Try.underlying35 rfl ZS ?_; exact hya)
    | (refine wpList_build_rowG (by kernel_rfl) 35 #[] rfl zz [] rfl HBz.out ?_)
    | (refine wpList_eql28 (by kernel_rfl) (.tmp 53) (.tmp 54) rfl zz zz true HEz rfl rfl ?_)
    | (refine wpList_eql28 (by kernel_rfl) (.tmp 62) (.tmp 63) rfl zz zz true HEz rfl rfl ?_)
    | (go_at_call 8; refine (CK.out _).mono ?_; rintro e wb ⟨rfl, hb⟩))
  go_ret
  exact ⟨rfl, HBa.out.trans (hb.mono HBa.out.size)⟩
end Go.Proofs.Ytkchdkcdkeajkaa
