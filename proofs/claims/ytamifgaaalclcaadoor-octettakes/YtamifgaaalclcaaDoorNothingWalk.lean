/-
  OctetOfNothing, walked: for every field it answers true, and writes nothing that was there.
-/
import Derived.Test.YtamifgaaalclcaaDoorFields
import Derived.Test.YtamifgaaalclcaaDoorHashEq
namespace Go.Proofs.YtamifgaaalclcaaDoor
open Go.RowKit
theorem Tryd.info30 : (Tryd.prog.info? 30).map (·.size) = some 35 := by kernel_rfl
theorem range_of_block {w : World} {b : Nat} {cs : List Value} {t : TypeId} {fr : Nat × Nat} (h : w.heap[b]? = some (.cells cs.toArray t fr)) : w.rangeAt b 0 cs := by
  intro j u hu
  rw [Nat.zero_add, cell_of_row w b j _ _ _ h]
  simpa using hu
theorem fold_set : ∀ (vs pre old : List Value), old.length = vs.length → (vs.zipIdx pre.length).foldl (fun cs x => cs.setIfInBounds x.snd x.fst) (pre ++ old).toArray = (pre ++ vs).toArray
  | [], pre, old, hl => by
    have : old = [] := List.eq_nil_of_length_eq_zero hl
    subst this; rfl
  | v :: vs, pre, [], hl => by simp at hl
  | v :: vs, pre, u :: old, hl => by
    have h2 := fold_set vs (pre ++ [v]) old (by simpa using hl)
    simpa using h2
theorem fold_all (vs old : List Value) (hl : old.length = vs.length) : vs.zipIdx.foldl (fun cs x => cs.setIfInBounds x.snd x.fst) old.toArray = vs.toArray := fold_set vs [] old hl
def zeroFd : List Value := .int .i64 0 :: .int .i64 0 :: .slice none 0 0 :: cellsOf zero32

set_option maxHeartbeats 3200000 in
theorem nothing_core (f : Fd) (cs : List Value) (w : World) (HC : Hid (cs = f.cells)) (hf : f.ok w) (ht : Tab w) :
    Calls Tryd.prog 7 #[.agg cs.toArray] w fun e w' => e = .returned (.bool true) ∧ Below w.heap.size w w' := by
  have HL : Hid (cs.length = 35) := by show _ = _; rw [HC.out]; exact Fd.cells_len hf
  have HI : Hid ((Tryd.prog.info? 30).map (·.size) = some cs.length) := by show _ = _; rw [HL.out]; exact Tryd.info30
  have hL : cs.length = 35 := HL.out
  have hfold : List.foldl (fun cs x => cs.setIfInBounds x.snd x.fst) #[Value.int IntKind.i64 0, Value.int IntKind.i64 0, Value.slice none 0 0, Value.int IntKind.u8 0, Value.int IntKind.u8 0, Value.int IntKind.u8 0, Value.int IntKind.u8 0, Value.int IntKind.u8 0, Value.int IntKind.u8 0, Value.int IntKind.u8 0, Value.int IntKind.u8 0, Value.int IntKind.u8 0, Value.int IntKind.u8 0, Value.int IntKind.u8 0, Value.int IntKind.u8 0, Value.int IntKind.u8 0, Value.int IntKind.u8 0, Value.int IntKind.u8 0, Value.int IntKind.u8 0, Value.int IntKind.u8 0, Value.int IntKind.u8 0, Value.int IntKind.u8 0, Value.int IntKind.u8 0, Value.int IntKind.u8 0, Value.int IntKind.u8 0, Value.int IntKind.u8 0, Value.int IntKind.u8 0, Value.int IntKind.u8 0, Value.int IntKind.u8 0, Value.int IntKind.u8 0, Value.int IntKind.u8 0, Value.int IntKind.u8 0, Value.int IntKind.u8 0, Value.int IntKind.u8 0, Value.int IntKind.u8 0] cs.zipIdx = cs.toArray := fold_all cs zeroFd (by rw [hL]; rfl)
  have hra : (w.alloc (.cells cs.toArray 30)).rangeAt w.heap.size 0 cs := range_of_block (heap_alloc_new w _)
  go_enter Tryd.func7, Tryd.ntmps7
  go_wp2_with (refine wpList_load_mid rfl 30 (.tmp 1) rfl w.heap.size 0 rfl cs _ hra Tryd.underlying30 rfl HI.out ?_)
  have hra2 : ((w.alloc (.cells cs.toArray 30)).alloc (.cells cs.toArray 30)).rangeAt w.heap.size 0 cs := World.rangeAt_alloc hra _
  have hfs : Fs ((w.alloc (.cells cs.toArray 30)).alloc (.cells cs.toArray 30)) (.slice (some ⟨w.heap.size + 1, 0, none⟩) 1 1) [f] := by
    refine Or.inr ⟨by simp, w.heap.size + 1, 0, 1, rfl, by simp, by simp [maxLen], fun i g hg => ?_⟩
    have hb : Below w.heap.size w ((w.alloc (.cells cs.toArray 30)).alloc (.cells cs.toArray 30)) := ((Below.refl _ _).alloc (Nat.le_refl _) _).alloc (by simp) _
    match i, hg with
    | 0, hg =>
      simp at hg
      subst hg
      refine ⟨?_, hf.keep hb⟩
      rw [← HC.out]
      have := range_of_block (heap_alloc_new (w.alloc (.cells cs.toArray 30)) (.cells cs.toArray 30))
      rw [World.size_alloc] at this
      exact this
  have B0 : Below w.heap.size w ((w.alloc (.cells cs.toArray 30)).alloc (.cells cs.toArray 30)) := ((Below.refl _ _).alloc (Nat.le_refl _) _).alloc (by simp) _
  have hlt0 : w.heap.size < ((w.alloc (.cells cs.toArray 30)).alloc (.cells cs.toArray 30)).heap.size := by simp; omega
  refine (heavy_any _ [f] _ hfs).mono ?_
  rintro e W ⟨rfl, hW⟩
  rw [hW] at hra2 B0 hlt0
  clear hW hfs hra hfold
  cases hh : heavyB [f] with
  | true =>
    clear hh
    go_wp2_with fail
    go_ret
    exact ⟨rfl, B0⟩
  | false =>
  clear hh
  have hs0 := B0.size
  have htl := ht.lt
  go_wp2_with fail
  refine (byte_nil _ _).mono ?_
  rintro e W1 ⟨rfl, rfl⟩
  go_wp2_with fail
  refine (two_nil _ _).mono ?_
  rintro e W2 ⟨rfl, B2⟩
  go_wp2_with fail
  refine (four_nil _ _).mono ?_
  rintro e W3 ⟨rfl, B3⟩
  have B3a : Below W1.heap.size W1 W3 := B2.trans (B3.mono B2.size)
  have hc1 : W3.cell? ⟨w.heap.size, 1, none⟩ = some (.int .i64 f.n) := by
    rw [B3a.cell (p := ⟨w.heap.size, 1, none⟩) hlt0]
    exact hra2 1 _ (by rw [HC.out]; rfl)
  have hc2 : W3.cell? ⟨w.heap.size, 2, none⟩ = some f.bv := by
    rw [B3a.cell (p := ⟨w.heap.size, 2, none⟩) hlt0]
    exact hra2 2 _ (by rw [HC.out]; rfl)
  have hr3 : W3.rangeAt w.heap.size 3 (cellsOf f.h) := by
    intro j u hu
    rw [B3a.cell (p := ⟨w.heap.size, 3 + j, none⟩) hlt0]
    have := hra2 (3 + j) u (by rw [HC.out]; show (Value.int .i64 f.kind :: .int .i64 f.n :: f.bv :: cellsOf f.h)[3 + j]? = some u; rw [show 3 + j = j + 1 + 1 + 1 by omega]; simpa using hu)
    simpa using this
  have HI28 : Hid ((Tryd.prog.info? 28).map (·.size) = some (cellsOf f.h).length) := by show _ = _; rw [cellsOf_length, hf.hl]; exact Tryd.info28
  have hhl := hf.hl
  obtain ⟨abv, cbv, hbv, _⟩ := hf.b.len
  rw [hbv] at hc2
  have hn0 := hf.n0
  have hn1 := hf.n1
  generalize f.n = fn at *
  generalize hfh : f.h = fh at *
  clear hfh hra2 hbv HC hf
  go_wp2_with fail
  refine (num_nil fn _ hn0 hn1).mono ?_
  rintro e W4 ⟨rfl, rfl⟩
  go_wp2_with fail
  refine (bytes_nil _ _).mono ?_
  rintro e W5 ⟨rfl, rfl⟩
  go_wp2_with (refine wpList_load_mid rfl 28 (.tmp 27) rfl w.heap.size 3 rfl (cellsOf fh) _ hr3 Tryd.underlying28 rfl HI28.out ?_)
  refine (hash_nil fh _ hhl).mono ?_
  rintro e W5 ⟨rfl, B5⟩
  have B5a : Below w.heap.size w W5 := (B0.trans (B3a.mono hs0)).trans (B5.mono (by have := B3a.size; omega))
  clear B0 B2 B3 B3a B5 hc1 hc2 hr3 HI28 hhl hlt0 hs0 hn0 hn1 HL HI hL
  go_wp2_with fail
  refine (rbyte_nil _).mono ?_
  rintro e W6 ⟨rfl, rfl⟩
  go_wp2_with fail
  refine (rtwo_nil _).mono ?_
  rintro e W6 ⟨rfl, B6⟩
  go_wp2_with fail
  refine (rfour_nil _).mono ?_
  rintro e W7 ⟨rfl, B7⟩
  go_wp2_with fail
  refine (rnum_nil _).mono ?_
  rintro e W8 ⟨rfl, rfl⟩
  go_wp2_with fail
  refine (out_nil _).mono ?_
  rintro e W8 ⟨rfl, rfl⟩
  go_wp2_with fail
  refine (rbytes_nil _).mono ?_
  rintro e W8 ⟨rfl, rfl⟩
  have B7a : Below w.heap.size w W7 := (B5a.trans (B6.mono B5a.size)).trans (B7.mono (by have := B5a.size; have := B6.size; omega))
  clear B5a B6 B7
  go_wp2_with fail
  refine (rhash_nil _).mono ?_
  rintro e W8 ⟨rfl, B8⟩
  have B8a : Below w.heap.size w W8 := B7a.trans (B8.mono B7a.size)
  have heq : ∀ W, (Op.equalIn 10000 28 (.agg (cellsOf zero32).toArray) (.agg #[.int .u8 0, .int .u8 0, .int .u8 0, .int .u8 0, .int .u8 0, .int .u8 0, .int .u8 0, .int .u8 0, .int .u8 0, .int .u8 0, .int .u8 0, .int .u8 0, .int .u8 0, .int .u8 0, .int .u8 0, .int .u8 0, .int .u8 0, .int .u8 0, .int .u8 0, .int .u8 0, .int .u8 0, .int .u8 0, .int .u8 0, .int .u8 0, .int .u8 0, .int .u8 0, .int .u8 0, .int .u8 0, .int .u8 0, .int .u8 0, .int .u8 0, .int .u8 0])).run Tryd.prog W = .ok true W := fun W => run_equal_hash zero32 zero32 rfl rfl W
  clear B7a B8
  go_wp2_with fail
  refine (left_nil _).mono ?_
  rintro e W9 ⟨rfl, rfl⟩
  go_wp2_with fail
  refine (end_nil _).mono ?_
  rintro e W9 ⟨rfl, rfl⟩
  go_wp2_with fail
  refine (known_any _ (ht.below B8a htl)).mono ?_
  rintro e W9 ⟨rfl, B9⟩
  clear heq
  go_wp2
  go_ret
  exact ⟨rfl, B8a.trans (B9.mono B8a.size)⟩
theorem nothing_walk (f : Fd) (w : World) (hf : f.ok w) (ht : Tab w) :
    Calls Tryd.prog 7 #[.agg f.cells.toArray] w fun e w' => e = .returned (.bool true) ∧ Below w.heap.size w w' := nothing_core f f.cells w rfl hf ht
end Go.Proofs.YtamifgaaalclcaaDoor
