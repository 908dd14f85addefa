/-
  Joined from: Writer, WriterB.
-/
import Derived.Test.YtahodgmdikaedaaDoorM01
import Derived.Handy
import Derived.WalkSpells
import Derived.Test.YtahodgmdikaedaaDoorM02
section
/-
  The Writer: what it is in memory, and the contracts of Byte, layRow over w.Byte, Two, Four, Num, Bytes, Hash, Out.
-/
namespace Go.Proofs.YtahodgmdikaedaaDoor
open Go.RowKit

/-- Block b is a Writer that has laid xs; its slice is v. -/
def Wr (w : World) (b : Nat) (v : Value) (xs : List Int) : Prop := w.heap[b]? = some (.cells #[v] 114 (0, 0)) ∧ Ow w (b + 1) v xs

/-- What a Writer's step leaves: all but the Writer's own block and row is as it was. -/
structure Wstep (b : Nat) (w : World) (v : Value) (w' : World) (v' : Value) : Prop where
  os : w'.os = w.os
  tape : w'.tape = w.tape
  output : w'.output = w.output
  size : w.heap.size ≤ w'.heap.size
  block : ∀ k, k < w.heap.size → k ≠ b → some k ≠ v.ownBlock → w'.heap[k]? = w.heap[k]?
  own : v'.ownBlock = v.ownBlock ∨ ∃ g, v'.ownBlock = some g ∧ w.heap.size ≤ g

theorem Wstep.refl (b : Nat) (w : World) (v : Value) : Wstep b w v w v := ⟨rfl, rfl, rfl, Nat.le_refl _, fun _ _ _ _ => rfl, Or.inl rfl⟩
theorem Wstep.trans {b : Nat} {w w1 w2 : World} {v v1 v2 : Value} (h : Wstep b w v w1 v1) (k : Wstep b w1 v1 w2 v2) : Wstep b w v w2 v2 := by
  refine ⟨k.os.trans h.os, k.tape.trans h.tape, k.output.trans h.output, Nat.le_trans h.size k.size, fun i hi hb hv => ?_, ?_⟩
  · refine (k.block i (Nat.lt_of_lt_of_le hi h.size) hb ?_).trans (h.block i hi hb hv)
    rcases h.own with e | ⟨g, e, hg⟩
    · rw [e]; exact hv
    · rw [e]; intro hh; have := Option.some.inj hh; omega
  · rcases k.own with e | ⟨g, e, hg⟩
    · rw [e]; exact h.own
    · exact Or.inr ⟨g, e, Nat.le_trans h.size hg⟩

theorem Wr.lt {w : World} {b : Nat} {v : Value} {xs : List Int} (h : Wr w b v xs) : b < w.heap.size := (Array.getElem?_eq_some_iff.1 h.1).1
theorem Wr.cell {w : World} {b : Nat} {v : Value} {xs : List Int} (h : Wr w b v xs) : w.cell? ⟨b, 0, none⟩ = some v := by
  rw [cell_of_row w b 0 _ _ _ h.1]; rfl
theorem Wr.frozen {w : World} {b : Nat} {v : Value} {xs : List Int} (h : Wr w b v xs) : w.frozen? ⟨b, 0, none⟩ = false := by
  simp [World.frozen?, h.1]

/-- Behind an append (from w, perhaps behind a new block) and the store of the new slice. -/
theorem step_of_append {w w0 w1 : World} {b : Nat} {v v' : Value} {xs ys : List Int} (hw : Wr w b v xs) (h0 : Below w.heap.size w w0) (hown : Ow w1 (b + 1) v' ys) (hg : w0.grownBy w1 v.ownBlock)
    (hat : v'.ownBlock = v.ownBlock ∨ v'.ownBlock = some w0.heap.size) : Wr (w1.setCell ⟨b, 0, none⟩ v') b v' ys ∧ Wstep b w v (w1.setCell ⟨b, 0, none⟩ v') v' := by
  have hlt := hw.lt
  have hs0 := h0.size
  have hvb : some b ≠ v.ownBlock := by
    intro e
    have := (World.ownsRow.lt hw.2) b e.symm
    omega
  have hb1 : w1.heap[b]? = some (.cells #[v] 114 (0, 0)) := by
    rw [hg.block b (by omega) hvb, h0.block b hlt]; exact hw.1
  refine ⟨⟨?_, ?_⟩, ⟨?_, ?_, ?_, ?_, ?_, ?_⟩⟩
  · simp only [World.setCell, Array.getElem?_modify, hb1]
    simp
  · exact ownsRow_setCell_below hown (by simp) _
  · exact hg.os.trans h0.os
  · exact hg.tape.trans h0.tape
  · exact hg.output.trans h0.output
  · have := hg.size; simp [World.setCell]; omega
  · intro k hk hkb hkv
    rw [Below.heap_setCell _ _ _ _ (by simpa using hkb), hg.block k (by omega) hkv, h0.block k hk]
  · rcases hat with e | e
    · exact Or.inl e
    · exact Or.inr ⟨_, e, hs0⟩

set_option maxHeartbeats 400000 in
theorem byte_w (b : Nat) (v : Value) (xs : List Int) (x : Int) (w : World) (hw : Wr w b v xs) (hn : xs.length ≤ 1000000000000) :
    Calls Tryd.prog 79 #[.pointer (some ⟨b, 0, none⟩), .int .u8 x] w fun e w' => e = .returned (.tuple #[]) ∧ ∃ v', Wr w' b v' (xs ++ [x]) ∧ Wstep b w v w' v' := by
  have hc := hw.cell
  have hf := hw.frozen
  have hlt := hw.lt
  obtain ⟨ao0, cap0, hv, hj⟩ := hw.2.form
  clear hj
  subst hv
  have hbel : Below w.heap.size w (w.alloc (.cells #[.int .u8 x] 5)) := (Below.refl _ _).alloc (Nat.le_refl _) _
  have hown0 : Ow (w.alloc (.cells #[.int .u8 x] 5)) (b + 1) (.slice ao0 xs.length cap0) xs := World.ownsRow.alloc hw.2 _
  have hbs : Bs (w.alloc (.cells #[.int .u8 x] 5)) (.slice (some ⟨w.heap.size, 0, none⟩) 1 1) [x] := Bs_of_block (heap_alloc_new w _) (by unfold maxLen; simp)
  go_enter Tryd.func79, Tryd.ntmps79
  go_wp2_with (at_builtin; refine wpList_append_bs _ rfl (.tmp 10) (.tmp 12) rfl (b + 1) _ xs rfl hown0 _ [x] rfl hbs (by simp; omega) (by simp; omega) ?_)
  intro ao cap w1 hown hgrow hat
  have R := step_of_append hw hbel hown hgrow (by simpa using hat)
  have hc1 : w1.cell? ⟨b, 0, none⟩ = some (.slice ao0 xs.length cap0) := by
    rw [hgrow.cell_far _ (by simp; omega) (fun e => by have := (World.ownsRow.lt hown0) b e.symm; omega)]
    rw [World.cell?_alloc_past _ _ _ hlt]; exact hc
  have hf1 : w1.frozen? ⟨b, 0, none⟩ = false := by
    rw [hgrow.frozen_far _ (by simp; omega) (fun e => by have := (World.ownsRow.lt hown0) b e.symm; omega)]
    rw [World.frozen?_alloc_past _ _ _ hlt]; exact hf
  clear hown hgrow hat hown0 hbs
  go_wp2
  go_end0
  exact ⟨rfl, _, R⟩
theorem byte_nil (x : Int) (w : World) :
    Calls Tryd.prog 79 #[.pointer none, .int .u8 x] w fun e w' => e = .returned (.tuple #[]) ∧ w' = w := by
  go_enter Tryd.func79, Tryd.ntmps79
  go_wp2
  go_end0
  exact ⟨rfl, rfl⟩

theorem Bs.step {b : Nat} {w w' : World} {v v' sv : Value} {zs : List Int} (h : Bs w sv zs) (hs : Wstep b w v w' v') (hsep : ∀ k, sv.ownBlock = some k → k ≠ b ∧ some k ≠ v.ownBlock) : Bs w' sv zs :=
  h.keep fun k hk hlt => hs.block k hlt (hsep k hk).1 (hsep k hk).2

theorem take_snoc (zs : List Int) (k : Nat) (h : k < zs.length) : zs.take (k + 1) = zs.take k ++ [zs.getD k 0] := by
  rw [List.take_succ_eq_append_getElem h]; simp [List.getD, h]

set_option maxHeartbeats 800000 in
theorem layRow_w (b : Nat) (v : Value) (xs : List Int) (sv : Value) (zs : List Int) (w : World) (hw : Wr w b v xs) (hb : Bs w sv zs) (hsep : ∀ k, sv.ownBlock = some k → k ≠ b ∧ some k ≠ v.ownBlock)
    (hn : xs.length ≤ 500000000000) (hz : zs.length ≤ 400000000000) :
    Calls Tryd.prog 85 #[.func (.func 79) #[.pointer (some ⟨b, 0, none⟩)] #[], sv] w fun e w' => e = .returned (.tuple #[]) ∧ ∃ v', Wr w' b v' (xs ++ zs) ∧ Wstep b w v w' v' := by
  obtain ⟨ao, cap, hsv, hm⟩ := hb.len
  subst hsv
  go_enter Tryd.func85, Tryd.ntmps85
  go_wp2
  go_loopw [8] (fun i wr => ∃ (k : Nat) (v1 : Value), k ≤ zs.length ∧ i = .int .i64 k ∧ Wr wr b v1 (xs ++ zs.take k) ∧ Wstep b w v wr v1) (fun i _ => zs.length - (intOf i).toNat)
  case atStart => exact ⟨0, v, Nat.zero_le _, rfl, by simpa using hw, Wstep.refl _ _ _⟩
  case round =>
    obtain ⟨k, v1, hk, rfl, hw1, hs1⟩ := hrel
    by_cases hlt : k < zs.length
    · have hb1 := hb.step hs1 hsep
      rcases hb1 with ⟨h0, _⟩ | ⟨_, b2, off, cap2, he, hc1, hc2, hcell⟩
      · subst h0; simp at hlt
      · simp only [Value.slice.injEq] at he
        obtain ⟨rfl, _, rfl⟩ := he
        have hck := hcell k hlt
        clear hcell
        have hl2 : (xs ++ zs.take k).length ≤ 1000000000000 := by simp; omega
        go_wp2_with (go_at_call 79; refine (byte_w b v1 _ _ _ hw1 hl2).mono ?_; rintro e w' ⟨rfl, v2, hw2, hs2⟩)
        go_roundw
        case rel => exact ⟨k + 1, v2, by omega, by go_num, by simpa using hw2, hs1.trans hs2⟩
        case measure => simp [intOf]; omega
    · have hke : zs.take k = zs := List.take_of_length_le (by omega)
      go_wp2
      go_end0
      rw [hke] at hw1
      exact ⟨rfl, v1, hw1, hs1⟩

end Go.Proofs.YtahodgmdikaedaaDoor
end

section
/-
  The Writer's other methods, by contracts: Two, Four, Num, Bytes, Hash, Out; each of a nil Writer too.
-/
namespace Go.Proofs.YtahodgmdikaedaaDoor
open Go.RowKit

theorem layRow_nil (sv : Value) (zs : List Int) (w : World) (hb : Bs w sv zs) :
    Calls Tryd.prog 85 #[.func (.func 79) #[.pointer none] #[], sv] w fun e w' => e = .returned (.tuple #[]) ∧ w' = w := by
  obtain ⟨ao, cap, hsv, hm⟩ := hb.len
  subst hsv
  unfold maxLen at hm
  go_enter Tryd.func85, Tryd.ntmps85
  go_wp2
  go_loop [8] (fun i => ∃ (k : Nat), k ≤ zs.length ∧ i = .int .i64 k) (fun i => zs.length - (intOf i).toNat)
  case atStart => exact ⟨0, Nat.zero_le _, rfl⟩
  case round =>
    obtain ⟨k, hk, rfl⟩ := hrel
    by_cases hlt : k < zs.length
    · rcases hb with ⟨h0, _⟩ | ⟨_, b2, off, cap2, he, hc1, hc2, hcell⟩
      · subst h0; simp at hlt
      · simp only [Value.slice.injEq] at he
        obtain ⟨rfl, _, rfl⟩ := he
        have hck := hcell k hlt
        clear hcell
        go_wp2_with (go_at_call 79; refine (byte_nil _ _).mono ?_; rintro e w' ⟨rfl, rfl⟩)
        go_round
        case rel => exact ⟨k + 1, by omega, by go_num⟩
        case measure => simp [intOf]; omega
    · go_wp2
      go_end0
      exact ⟨rfl, rfl⟩

theorem Wr.alloc {w : World} {b : Nat} {v : Value} {xs : List Int} (h : Wr w b v xs) (o : Obj) : Wr (w.alloc o) b v xs :=
  ⟨by rw [Below.heap_alloc w o b h.lt]; exact h.1, World.ownsRow.alloc h.2 o⟩
theorem Wstep.alloc (b : Nat) (w : World) (v : Value) (o : Obj) : Wstep b w v (w.alloc o) v :=
  ⟨rfl, rfl, rfl, by simp, fun k hk _ _ => Below.heap_alloc w o k hk, Or.inl rfl⟩
theorem Wr.sep_new {w : World} {b : Nat} {v : Value} {xs : List Int} (h : Wr w b v xs) (off n cap : Nat) : ∀ k, (Value.slice (some ⟨w.heap.size, off, none⟩) n cap).ownBlock = some k → k ≠ b ∧ some k ≠ v.ownBlock := by
  intro k hk
  have hk' : w.heap.size = k := by simpa [Value.ownBlock] using hk
  have hlt := h.lt
  refine ⟨by omega, fun e => ?_⟩
  have := (World.ownsRow.lt h.2) k e.symm
  omega

theorem four_w (b : Nat) (v : Value) (xs : List Int) (x : Int) (w : World) (hw : Wr w b v xs) (hn : xs.length ≤ 500000000000) :
    Calls Tryd.prog 81 #[.pointer (some ⟨b, 0, none⟩), .int .u32 x] w fun e w' => e = .returned (.tuple #[]) ∧ ∃ v', Wr w' b v' (xs ++ fourB x) ∧ Wstep b w v w' v' := by
  have hsep := hw.sep_new 0 4 4
  have hbs : Bs (w.alloc (.cells #[.int .u8 (x % 256), .int .u8 (x / 256 % 256), .int .u8 (x / 65536 % 256), .int .u8 (x / 16777216 % 256)] 5)) (.slice (some ⟨w.heap.size, 0, none⟩) 4 4) (fourB x) := Bs_of_block (heap_alloc_new w _) (by simp [fourB, maxLen])
  go_enter Tryd.func81, Tryd.ntmps81
  go_wp2_with (go_at_call 85; refine (layRow_w b v xs _ (fourB x) _ (hw.alloc _) hbs hsep hn (by simp [fourB])).mono ?_; rintro e w' ⟨rfl, v1, hw1, hs1⟩)
  go_end0
  exact ⟨rfl, v1, hw1, (Wstep.alloc b w v _).trans hs1⟩

theorem four_nil (x : Int) (w : World) :
    Calls Tryd.prog 81 #[.pointer none, .int .u32 x] w fun e w' => e = .returned (.tuple #[]) ∧ Below w.heap.size w w' := by
  have hbs : Bs (w.alloc (.cells #[.int .u8 (x % 256), .int .u8 (x / 256 % 256), .int .u8 (x / 65536 % 256), .int .u8 (x / 16777216 % 256)] 5)) (.slice (some ⟨w.heap.size, 0, none⟩) 4 4) (fourB x) := Bs_of_block (heap_alloc_new w _) (by simp [fourB, maxLen])
  go_enter Tryd.func81, Tryd.ntmps81
  go_wp2_with (go_at_call 85; refine (layRow_nil _ (fourB x) _ hbs).mono ?_; rintro e w' ⟨rfl, rfl⟩)
  go_end0
  exact ⟨rfl, (Below.refl _ _).alloc (Nat.le_refl _) _⟩

theorem ret_int {k : IntKind} {a b : Int} (h : a = b) : Ending.returned (.int k a) = .returned (.int k b) := by rw [h]

theorem fold_any (x : Int) (w : World) (h0 : -9223372036854775808 ≤ x) (h1 : x ≤ 9223372036854775807) :
    Calls Tryd.prog 78 #[.int .i64 x] w fun e w' => e = .returned (.int .u64 (foldI x)) ∧ w = w' := by
  by_cases h : x < 0
  · have e1 := not64 x h0 h1
    have e2 := or1 ((-1 - x) * 2) (by omega) (by omega) (by omega)
    have HE : Hid (bits .or .u64 (IntKind.u64.wrap (IntKind.u64.wrap (bits .xor .i64 (-1) x) * 2)) 1 = foldI x) := by
      show _ = _
      rw [foldI_neg h, e1]
      simp only [IntKind.wrap_u64]
      have a1 : (-1 - x) % 18446744073709551616 = -1 - x := by omega
      rw [a1]
      have a2 : (-1 - x) * 2 % 18446744073709551616 = (-1 - x) * 2 := by omega
      rw [a2, e2]
      omega
    clear e1 e2
    go_enter Tryd.func78, Tryd.ntmps78
    go_wp2
    go_ret
    exact ⟨ret_int HE.out, rfl⟩
  · have HE : Hid (x * 2 = foldI x) := by show _ = _; rw [foldI_pos h]; omega
    go_enter Tryd.func78, Tryd.ntmps78
    go_wp2
    go_ret
    exact ⟨ret_int HE.out, rfl⟩

set_option maxHeartbeats 800000 in
theorem num_w (b : Nat) (v : Value) (xs : List Int) (x : Int) (w : World) (hw : Wr w b v xs) (hn : xs.length ≤ 500000000000) (h0 : -9223372036854775808 ≤ x) (h1 : x ≤ 9223372036854775807) :
    Calls Tryd.prog 66 #[.pointer (some ⟨b, 0, none⟩), .int .i64 x] w fun e w' => e = .returned (.tuple #[]) ∧ ∃ v', Wr w' b v' (xs ++ numOf x) ∧ Wstep b w v w' v' := by
  have hr := foldI_range x h0 h1
  have hnl := numOf_length x
  go_enter Tryd.func66, Tryd.ntmps66
  go_wp2_with (go_at_call 78; refine (fold_any _ _ h0 h1).mono ?_; rintro e w' ⟨rfl, rfl⟩)
  go_loopw [4] (fun i wr => ∃ (f : Nat) (u : Int) (ys : List Int) (v1 : Value), i = .int .u64 u ∧ Fits f u ∧ Hid (ys ++ numB f u = xs ++ numOf x) ∧ Wr wr b v1 ys ∧ Wstep b w v wr v1) (fun i _ => (intOf i).toNat)
  case atStart => exact ⟨9, foldI x, xs, v, rfl, Fits.start _ hr.1 hr.2, rfl, hw, Wstep.refl _ _ _⟩
  case round =>
    obtain ⟨f, u, ys, v1, rfl, hf, HE, hw1, hs1⟩ := hrel
    have hu0 := hf.1
    have hyl : ys.length ≤ 1000000000000 := by
      have := congrArg List.length HE.out
      simp only [List.length_append] at this
      omega
    by_cases hlt : u < 128
    · have HE2 : Hid (ys ++ [u] = xs ++ numOf x) := by rw [numB_small f u hlt] at HE; exact HE
      have hmod : u % 256 = u := by omega
      clear HE
      go_wp2_with (go_at_call 79; refine (byte_w b v1 _ _ _ hw1 hyl).mono ?_; rintro e w' ⟨rfl, v2, hw2, hs2⟩)
      go_end0
      rw [HE2.out] at hw2
      exact ⟨rfl, v2, hw2, hs1.trans hs2⟩
    · obtain ⟨g, rfl, hg⟩ := hf.next hlt
      have HE2 : Hid ((ys ++ [bits .or .u8 (u % 256) 128]) ++ numB g (u / 128) = xs ++ numOf x) := by
        show _ = _
        rw [or128 _ (by omega) (by omega), ← HE.out, numB_more g u hlt, List.append_assoc]
        have e : u % 256 % 128 = u % 128 := by omega
        rw [e]; rfl
      clear HE
      have hge : 128 ≤ u := by omega
      go_wp2_with (go_at_call 79; refine (byte_w b v1 _ _ _ hw1 hyl).mono ?_; rintro e w' ⟨rfl, v2, hw2, hs2⟩)
      go_roundw
      case rel => exact ⟨g, u / 128, _, v2, rfl, hg, HE2, hw2, hs1.trans hs2⟩
      case measure => simp [intOf]; omega

theorem num_nil (x : Int) (w : World) (h0 : -9223372036854775808 ≤ x) (h1 : x ≤ 9223372036854775807) :
    Calls Tryd.prog 66 #[.pointer none, .int .i64 x] w fun e w' => e = .returned (.tuple #[]) ∧ w' = w := by
  have hr := foldI_range x h0 h1
  go_enter Tryd.func66, Tryd.ntmps66
  go_wp2_with (go_at_call 78; refine (fold_any _ _ h0 h1).mono ?_; rintro e w' ⟨rfl, rfl⟩)
  go_loop [4] (fun i => ∃ (u : Int), i = .int .u64 u ∧ 0 ≤ u) (fun i => (intOf i).toNat)
  case atStart => exact ⟨foldI x, rfl, hr.1⟩
  case round =>
    obtain ⟨u, rfl, hu⟩ := hrel
    by_cases hlt : 128 ≤ u
    · go_wp2_with (go_at_call 79; refine (byte_nil _ _).mono ?_; rintro e w' ⟨rfl, rfl⟩)
      go_round
      case rel => exact ⟨u / 128, rfl, by omega⟩
      case measure => simp [intOf]; omega
    · go_wp2_with (go_at_call 79; refine (byte_nil _ _).mono ?_; rintro e w' ⟨rfl, rfl⟩)
      go_end0
      exact ⟨rfl, rfl⟩
end Go.Proofs.YtahodgmdikaedaaDoor
end
