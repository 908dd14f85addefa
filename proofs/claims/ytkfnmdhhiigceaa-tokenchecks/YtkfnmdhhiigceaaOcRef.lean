/-
  The document's Num and Four.
-/
import Derived.Test.YtkfnmdhhiigceaaOcRefNum
namespace Go.Proofs.Ytkfnmdhhiigceaa.Oc
open Go.RowKit
set_option maxHeartbeats 1600000 in
theorem refNum_any (x : Int) (w : World) (h0 : -9223372036854775808 ≤ x) (h1 : x ≤ 9223372036854775807) :
    Calls Try.prog 21 #[.int .i64 x] w fun e w' => ∃ ao cap, e = .returned (.slice ao (numOf x).length cap) ∧ Ow w' w.heap.size (.slice ao (numOf x).length cap) (numOf x) ∧ Below w.heap.size w w' := by
  have hr := foldI_range x h0 h1
  have hnl := numOf_length x
  have HE1 : Hid (x < 0 → 2 * -(x + 1) + 1 = foldI x) := fun h => by rw [foldI_neg h]; omega
  have HE2 : Hid (¬ x < 0 → 2 * x = foldI x) := fun h => by rw [foldI_pos h]
  by_cases hx : x < 0
  all_goals
    go_enter Try.func21, Try.ntmps21
    go_wp2
    go_loopw [3, 4] (fun s c wr => ∃ (f : Nat) (u : Int) (ys : List Int) (ao : Option Addr) (cap : Nat), s = .int .u64 u ∧ c = .slice ao ys.length cap ∧ u < 18446744073709551616 ∧ Fits f u ∧ Hid (ys ++ numB f u = numOf x) ∧ Ow wr w.heap.size (.slice ao ys.length cap) ys ∧ Below w.heap.size w wr) (fun s _ _ => (intOf s).toNat)
    case atStart =>
      refine ⟨9, foldI x, [], none, 0, ?_, rfl, hr.2, Fits.start _ hr.1 hr.2, rfl, World.ownsRow_nil _ _ _ _, Below.refl _ _⟩
      first | exact congrArg (Value.int .u64) (HE1.out hx) | exact congrArg (Value.int .u64) (HE2.out hx)
    case round =>
      obtain ⟨f, u, ys, ao, cap, rfl, rfl, hu1, hf, HE, hown, hbel⟩ := hrel
      have hu0 := hf.1
      have hyl : ys.length ≤ 10 := by
        have := congrArg List.length HE.out
        simp only [List.length_append] at this
        omega
      have hbs := hbel.size
      by_cases hlt : u < 128
      · have HF : Hid (ys ++ [u] = numOf x) := by rw [numB_small f u hlt] at HE; exact HE
        have hmod : u % 256 = u := by omega
        have hown1 : Ow (wr.alloc (.cells #[.int .u8 u] 5)) w.heap.size (.slice ao ys.length cap) ys := World.ownsRow.alloc hown _
        have hbs1 : Bs (wr.alloc (.cells #[.int .u8 u] 5)) (.slice (some ⟨wr.heap.size, 0, none⟩) 1 1) [u] := Bs_of_block (heap_alloc_new wr _) (by simp [maxLen])
        clear HE HE1 HE2
        go_wp2_with (at_builtin; refine wpList_append_bs _ rfl (.tmp 27) (.tmp 30) rfl w.heap.size _ ys rfl hown1 _ [u] rfl hbs1 (by simp; omega) (by simp; omega) ?_)
        intro ao2 cap2 w2 hown2 hgrow2 hat2
        have B2 : Below w.heap.size w w2 := (hbel.alloc hbs _).grown hgrow2 (by simp; omega) (fun k hk => (World.ownsRow.lt hown1 k hk).1)
        rw [HF.out] at hown2
        have hl2 : ys.length + 1 = (numOf x).length := by rw [← HF.out]; simp
        have HL : Hid (ys.length + 1 = (numOf x).length) := hl2
        clear hown1 hbs1 hgrow2 hat2 hl2 HF
        go_wp2
        go_ret
        rw [← HL.out]
        exact ⟨ao2, cap2, rfl, hown2, B2⟩
      · obtain ⟨g, rfl, hg⟩ := hf.next hlt
        obtain ⟨c, hc⟩ : ∃ c, c = u % 128 := ⟨_, rfl⟩
        have hc0 : 0 ≤ c := by omega
        have hc1 : c < 128 := by omega
        have eA : bits .and .u64 u 127 = c := by rw [and127 u hu0 hu1, hc]
        have eB : bits .or .u8 c 128 = c + 128 := by rw [or128 c hc0 (by omega)]; omega
        have HE2 : Hid ((ys ++ [c + 128]) ++ numB g (u / 128) = numOf x) := by
          show _ = _
          rw [← HE.out, numB_more g u hlt, List.append_assoc, hc]; rfl
        clear HE hc
        have hge : 128 ≤ u := by omega
        have hown1 : Ow (wr.alloc (.cells #[.int .u8 (c + 128)] 5)) w.heap.size (.slice ao ys.length cap) ys := World.ownsRow.alloc hown _
        have hbs1 : Bs (wr.alloc (.cells #[.int .u8 (c + 128)] 5)) (.slice (some ⟨wr.heap.size, 0, none⟩) 1 1) [c + 128] := Bs_of_block (heap_alloc_new wr _) (by simp [maxLen])
        go_wp2_with (at_builtin; refine wpList_append_bs _ rfl (.tmp 18) (.tmp 23) rfl w.heap.size _ ys rfl hown1 _ [c + 128] rfl hbs1 (by simp; omega) (by simp; omega) ?_)
        intro ao2 cap2 w2 hown2 hgrow2 hat2
        have B2 : Below w.heap.size w w2 := (hbel.alloc hbs _).grown hgrow2 (by simp; omega) (fun k hk => (World.ownsRow.lt hown1 k hk).1)
        clear hown1 hbs1 hgrow2 hat2
        go_wp2
        go_roundw
        case rel => exact ⟨g, u / 128, ys ++ [c + 128], ao2, cap2, rfl, by simp, by omega, hg, HE2, by simpa using hown2, B2⟩
        case measure => simp [intOf]; omega
end Go.Proofs.Ytkfnmdhhiigceaa.Oc
