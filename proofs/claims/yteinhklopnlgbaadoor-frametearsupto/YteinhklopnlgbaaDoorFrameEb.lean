/-
  frame.Encode, by contract, wherever the slice of no bytes points to.
-/
import Derived.Test.YteinhklopnlgbaaDoorFrameE
namespace Go.Proofs.YteinhklopnlgbaaDoor
open Go.RowKit

set_option maxHeartbeats 800000 in
theorem layHeld2_w (b : Nat) (v : Value) (xs : List Int) (sv : Value) (zs : List Int) (w : World) (hw : Wr w b v xs) (hb : Bs w sv zs) (hsep : zs ≠ [] → ∀ k, sv.ownBlock = some k → k ≠ b ∧ some k ≠ v.ownBlock)
    (hn : xs.length ≤ 500000000000) (hz : zs.length ≤ 400000000000) :
    Calls Tryd.prog 24 #[.func (.func 25) #[.pointer (some ⟨b, 0, none⟩)] #[], sv] w fun e w' => e = .returned (.tuple #[]) ∧ ∃ v', Wr w' b v' (xs ++ zs) ∧ Wstep b w v w' v' := by
  obtain ⟨ao, cap, hsv, hm⟩ := hb.len
  subst hsv
  go_enter Tryd.func24, Tryd.ntmps24
  go_wp2
  go_loopw [8] (fun i wr => ∃ (k : Nat) (v1 : Value), k ≤ zs.length ∧ i = .int .i64 k ∧ Wr wr b v1 (xs ++ zs.take k) ∧ Wstep b w v wr v1) (fun i _ => zs.length - (intOf i).toNat)
  case atStart => exact ⟨0, v, Nat.zero_le _, rfl, by simpa using hw, Wstep.refl _ _ _⟩
  case round =>
    obtain ⟨k, v1, hk, rfl, hw1, hs1⟩ := hrel
    by_cases hlt : k < zs.length
    · have hb1 := hb.step hs1 (hsep (fun e => by rw [e] at hlt; simp at hlt))
      rcases hb1 with ⟨h0, _⟩ | ⟨_, b2, off, cap2, he, hc1, hc2, hcell⟩
      · subst h0; simp at hlt
      · simp only [Value.slice.injEq] at he
        obtain ⟨rfl, _, rfl⟩ := he
        have hck := hcell k hlt
        clear hcell
        have hl2 : (xs ++ zs.take k).length ≤ 1000000000000 := by simp; omega
        go_wp2_with (go_at_call 25; refine (byte_w b v1 _ _ _ hw1 hl2).mono ?_; rintro e w' ⟨rfl, v2, hw2, hs2⟩)
        go_roundw
        case rel => exact ⟨k + 1, v2, by omega, by go_num, by simpa using hw2, hs1.trans hs2⟩
        case measure => simp [intOf]; omega
    · have hke : zs.take k = zs := List.take_of_length_le (by omega)
      go_wp2
      go_end0
      rw [hke] at hw1
      exact ⟨rfl, v1, hw1, hs1⟩



set_option maxHeartbeats 3200000 in
set_option maxRecDepth 20000 in
theorem enc_any2 (sv : Value) (zs : List Int) (w : World) (hb : Bs w sv zs) (hy : Byt zs) (hz : zs.length ≤ 65536) (ht : Tab w) :
    Calls Tryd.prog 9 #[sv] w fun e w' => ∃ ao cap, e = .returned (.tuple #[.slice ao (recN zs).length cap, .int .i64 0]) ∧ Ow w' w.heap.size (.slice ao (recN zs).length cap) (recN zs) ∧ Below w.heap.size w w' := by
  have hw0 := Wr_new w
  have B0 : Below w.heap.size w (w.alloc (.cells #[.slice none 0 0] 46)) := (Below.refl _ _).alloc (Nat.le_refl _) _
  have hsl := hb.lt
  have hsep : zs ≠ [] → ∀ (v : Value) (W : World) (xs : List Int), Wr W w.heap.size v xs → ∀ k, sv.ownBlock = some k → k ≠ w.heap.size ∧ some k ≠ v.ownBlock := by
    intro hne v W xs hW k hk
    have := hsl hne k hk
    refine ⟨by omega, fun e => ?_⟩
    have := World.ownsRow.lt hW.2 k e.symm
    omega
  obtain ⟨ao, cap, hsv, hm⟩ := hb.len
  subst hsv
  have HSEP : Hid (zs ≠ [] → ∀ (v : Value) (W : World) (xs : List Int), Wr W w.heap.size v xs → ∀ k, (Value.slice ao zs.length cap).ownBlock = some k → k ≠ w.heap.size ∧ some k ≠ v.ownBlock) := hsep
  clear hsep hsl
  go_enter Tryd.func9, Tryd.ntmps9
  go_wp2_with fail
  refine (layLength_w w.heap.size _ [] _ zs _ hw0 (hb.below B0 (Nat.le_refl _)) (by decide) hz).mono ?_
  rintro e w1 ⟨rfl, v1, hw1, hs1⟩
  have B1 : Below w.heap.size w w1 := B0.trans (hw0.below hs1 (Nat.le_refl _))
  rw [List.nil_append] at hw1
  go_wp2_with fail
  refine (out_w w.heap.size v1 _ _ hw1 (by rw [fourB_len]; decide)).mono ?_
  rintro e w2 ⟨ao2, cap2, rfl, ho2, hb2⟩
  have hw2 := hw1.keepB hb2
  have B2 : Below w.heap.size w w2 := B1.trans (hb2.mono B1.size)
  go_wp2_with fail
  refine (laySum_w w.heap.size v1 _ _ _ _ hw2 ho2.bs (fourB_byt _) (ht.below B2 ht.lt) (by rw [fourB_len]; decide)).mono ?_
  rintro e w3 ⟨rfl, v3, hw3, hs3⟩
  have B3 : Below w.heap.size w w3 := B2.trans (hw2.below hs3 (Nat.le_refl _))
  have hw3' : Wr w3 w.heap.size v3 (headN zs.length) := hw3
  clear hw0 hw1 hw2 hw3 hs1 hs3 ho2 hb2 B0 B1 B2
  go_wp2_with fail
  refine (layHeld2_w w.heap.size v3 _ _ zs _ hw3' (hb.below B3 (Nat.le_refl _)) (fun hne => HSEP.out hne _ _ _ hw3') (by rw [headN_len]; decide) (by omega)).mono ?_
  rintro e w4 ⟨rfl, v4, hw4, hs4⟩
  have B4 : Below w.heap.size w w4 := B3.trans (hw3'.below hs4 (Nat.le_refl _))
  have hl4 : (headN zs.length ++ zs).length ≤ 70000 := by rw [List.length_append, headN_len]; omega
  have hy4 : Byt (headN zs.length ++ zs) := (headN_byt _).app hy
  have HY : Hid (headN zs.length ++ zs ++ fourB (sumOf (headN zs.length ++ zs) : Nat) = recN zs) := rfl
  generalize headN zs.length ++ zs = ys at *
  go_wp2_with fail
  refine (out_w w.heap.size v4 _ _ hw4 (by omega)).mono ?_
  rintro e w5 ⟨ao5, cap5, rfl, ho5, hb5⟩
  have hw5 := hw4.keepB hb5
  have B5 : Below w.heap.size w w5 := B4.trans (hb5.mono B4.size)
  go_wp2_with fail
  refine (laySum_w w.heap.size v4 _ _ _ _ hw5 ho5.bs hy4 (ht.below B5 ht.lt) (by omega)).mono ?_
  rintro e w6 ⟨rfl, v6, hw6, hs6⟩
  have B6 : Below w.heap.size w w6 := B5.trans (hw5.below hs6 (Nat.le_refl _))
  rw [HY.out] at hw6
  have hw6' : Wr w6 w.heap.size v6 (recN zs) := hw6
  clear hw3' hw4 hw5 hw6 hs4 hs6 ho5 hb5 B3 B4 B5
  go_wp2_with fail
  refine (out_w w.heap.size v6 _ _ hw6' (by rw [recN_len]; omega)).mono ?_
  rintro e w7 ⟨ao7, cap7, rfl, ho7, hb7⟩
  have B7 : Below w.heap.size w w7 := B6.trans (hb7.mono B6.size)
  go_wp2
  go_ret2
  exact ⟨ao7, cap7, rfl, ho7.mono B6.size, B7⟩
end Go.Proofs.YteinhklopnlgbaaDoor
