/-
  Joined from: Api, Crashed.
-/
import Derived.Test.YtnkjhooeklodcaaGreatDoorM22
section
/-
  New, Fuse, Used, Read, bytes.Clone, by contracts.
-/
namespace Go.Proofs.YtnkjhooeklodcaaGreatDoor
open Go.RowKit Go.Maps
variable {X : Nm → Prop} {w w' : World} {F : Nat → Prop} {sb : Nat} {mb : Option Nat} {room : Int} {fs : Fls} {lit : Bool} {left : Int}

theorem New_bad (room : Int) (w : World) (h : room < 0 ∨ 1073741824 < room) : Calls Tryz.prog 32 #[.int .i64 room] w fun e w' => e = .returned (.tuple #[.pointer none, .int .i64 1]) ∧ w' = w := by
  by_cases h0 : room < 0
  · go_enter Tryz.func32, Tryz.ntmps32
    go_wp2
    go_ret2
    exact ⟨rfl, rfl⟩
  · have h1 : 1073741824 < room := by omega
    clear h
    go_enter Tryz.func32, Tryz.ntmps32
    go_wp2
    go_ret2
    exact ⟨rfl, rfl⟩
theorem Dk_new (w : World) (room : Int) (h : 0 ≤ room ∧ room ≤ 1073741824) : Dk (w.alloc (.cells #[.int .i64 room, .int .i64 0, .map none, .bool false, .int .i64 0] 88)) (fun k => k = w.heap.size) w.heap.size none room [] false 0 :=
  ⟨Cw.new w [.int .i64 room, .int .i64 0, .map none, .bool false, .int .i64 0] 88, rfl, fun _ => rfl, fun b hb => (by cases hb), fun p hp => (by cases hp), fun p hp => (by cases hp), fun p hp => (by cases hp), h, h.1, by decide, by decide⟩
theorem New_any (room : Int) (w : World) (h : 0 ≤ room ∧ room ≤ 1073741824) :
    Calls Tryz.prog 32 #[.int .i64 room] w fun e w' => e = .returned (.tuple #[.pointer (some ⟨w.heap.size, 0, none⟩), .int .i64 0]) ∧ Dk w' (fun k => k = w.heap.size) w.heap.size none room [] false 0 ∧ Below w.heap.size w w' := by
  have HD := hid_into (Dk_new w room h)
  have h0 : ¬ room < 0 := by omega
  have h1 : ¬ 1073741824 < room := by omega
  clear h
  go_enter Tryz.func32, Tryz.ntmps32
  go_wp2
  go_ret2
  exact ⟨rfl, HD.out, (Below.refl _ _).alloc (Nat.le_refl _) _⟩
theorem clone_any (v : Value) (zs : List Int) (w : World) (hb : Bs w v zs) (hl : zs.length ≤ 140737488355328) :
    Calls Tryz.prog 50 #[v] w fun e w' => ∃ ao cap, e = .returned (.slice ao zs.length cap) ∧ Ow w' w.heap.size (.slice ao zs.length cap) zs ∧ Below w.heap.size w w' := by
  obtain ⟨a0, c0, hv, hm⟩ := hb.len
  subst hv
  have q32 : ∀ (w : World) (a : Option Addr) (n c : Nat), (binOp .eql 38 (.slice a n c) (.slice none 0 0)).run Tryz.prog w = .ok (.bool a.isNone) w := fun w a n c => Lib.run_eql_slice_nil w 38 5 a n c 0 0 Tryz.underlying38
  cases a0 with
  | none =>
    have hz : zs = [] := by
      rcases hb with ⟨h, _⟩ | ⟨_, b, o, c, e, _⟩
      · exact h
      · cases e
    subst hz
    go_enter Tryz.func50, Tryz.ntmps50
    go_wp2_with fail
    go_ret
    exact ⟨none, 0, rfl, World.ownsRow_nil _ _ _ _, Below.refl _ _⟩
  | some a =>
    have hb1 := hb.below (w' := w.alloc (.cells #[] 5)) ((Below.refl _ _).alloc (Nat.le_refl _) _) (Nat.le_refl _)
    have ho : Ow (w.alloc (.cells #[] 5)) w.heap.size (.slice (some ⟨w.heap.size, 0, none⟩) 0 0) [] := Ow_of_block (zs := []) (heap_alloc_new w _) (by simp) (Nat.le_refl _)
    go_enter Tryz.func50, Tryz.ntmps50
    go_wp2_with (at_builtin; refine wpList_append_bs _ rfl (.tmp 5) (.tmp 6) rfl w.heap.size _ [] rfl ho _ zs rfl hb1 (by simpa using hl) (by simp) ?_; intro ao5 cap5 W5 ho5 hg5 hat5; simp only [List.length_nil, Nat.zero_add, List.nil_append] at ho5 ⊢; have B5 : Below w.heap.size w W5 := ((Below.refl _ w).alloc (Nat.le_refl _) _).trans (grown_below hg5 ho (by simp)); clear hg5 hat5)
    go_ret
    exact ⟨ao5, cap5, rfl, ho5, B5⟩
def readE (fs : Fls) (x : Nm) : Int := if (lk fs x).isSome then 0 else 7
theorem tot_at0 (h : Dk w F sb mb room fs lit left) (x : Nm) : (at0 fs x).zs.length ≤ 1073741824 := by
  have h1 := ln_le h.diff x
  rw [ln_at0] at h1
  have := h.fits
  have := h.room0
  omega
set_option maxHeartbeats 800000 in
theorem Read_any (h : Dk w F sb mb room fs lit left) (x : Nm) (hx : x.length ≤ maxLen) :
    Calls Tryz.prog 34 #[.pointer (some ⟨sb, 0, none⟩), encStr x] w fun e w' => ∃ ao cap, e = .returned (.tuple #[.slice ao (at0 fs x).zs.length cap, .int .i64 (none7 fs x)]) ∧ Ow w' w.heap.size (.slice ao (at0 fs x).zs.length cap) (at0 fs x).zs ∧ Below w.heap.size w w' := by
  obtain ⟨c0, c1, c2, c3, c4⟩ := h.cell
  obtain ⟨ao, cap, hf⟩ := at0_form' h x
  have hlk := look_ok h x hx
  rw [Fl.val, hf] at hlk
  have hz67 := zero67
  obtain ⟨r1, _, _, _⟩ := at0_ow h x
  rw [hf] at r1
  have hcl := clone_any _ _ (w.alloc (.cells #[.slice ao (at0 fs x).zs.length cap, .int .i64 ((at0 fs x).l : Int)] 106)) (r1.bs.below (w' := w.alloc (.cells #[.slice ao (at0 fs x).zs.length cap, .int .i64 ((at0 fs x).l : Int)] 106)) ((Below.refl _ _).alloc (Nat.le_refl _) _) (Nat.le_refl _)) (by have := tot_at0 h x; omega)
  have HC := hid_into hcl
  clear hcl
  cases hl : lk fs x with
  | none =>
    have e0 : at0 fs x = ⟨.slice none 0 0, [], 0⟩ := by simp only [at0, hl]
    rw [hl] at hlk
    go_enter Tryz.func34, Tryz.ntmps34
    go_wp2_with fail
    go_ret2
    rw [e0]
    exact ⟨none, 0, by simp [none7, hl], World.ownsRow_nil _ _ _ _, (Below.refl _ _).alloc (Nat.le_refl _) _⟩
  | some f =>
    rw [hl] at hlk
    have HL := hid_into hl
    clear hl
    go_enter Tryz.func34, Tryz.ntmps34
    go_wp2_with fail
    refine HC.out.mono ?_
    rintro e W2 ⟨ao2, cap2, rfl, ho2, B2⟩
    have B3 : Below w.heap.size w W2 := ((Below.refl _ _).alloc (Nat.le_refl _) _).trans (B2.mono (by simp))
    clear B2
    go_wp2_with fail
    go_ret2
    exact ⟨ao2, cap2, by simp [none7, HL.out], ho2.mono (by simp), B3⟩
theorem Read_nil (w : World) (x : Value) : Calls Tryz.prog 34 #[.pointer none, x] w fun e w' => e = .returned (.tuple #[.slice none 0 0, .int .i64 7]) ∧ w' = w := by
  go_enter Tryz.func34, Tryz.ntmps34
  go_wp2
  go_ret2
  exact ⟨rfl, rfl⟩
end Go.Proofs.YtnkjhooeklodcaaGreatDoor
end

section
/-
  What a crash leaves of a file: lastSector, crashed, by contracts.
-/
namespace Go.Proofs.YtnkjhooeklodcaaGreatDoor
open Go.RowKit Go.Maps
variable {w w' : World}

theorem Ow.cell {w : World} {base g m cap : Nat} {ys : List Int} (h : Ow w base (.slice (some ⟨g, 0, none⟩) m cap) ys) (i : Nat) (hi : i < ys.length) : w.cell? ⟨g, i, none⟩ = some (.int .u8 (ys.getD i 0)) := by
  have := World.ownsRow.cells h (g := g) rfl i _ (cellsOf_get' ys i hi)
  simpa [Addr.add_lit] using this
theorem Ow.set {w : World} {base g m cap : Nat} {ys : List Int} (h : Ow w base (.slice (some ⟨g, 0, none⟩) m cap) ys) (i : Nat) (x : Int) :
    Ow (w.setCell ⟨g, i, none⟩ (.int .u8 x)) base (.slice (some ⟨g, 0, none⟩) m cap) (ys.set i x) := by
  obtain ⟨ao, c, he, ⟨rfl, _⟩ | ⟨g', cur, rfl, hb, hl, hg, hn, hc, hs, ht⟩⟩ := h.form
  · simp at he
  · simp only [Value.slice.injEq, Option.some.injEq, Addr.mk.injEq, and_true] at he
    obtain ⟨rfl, rfl, rfl⟩ := he
    refine ⟨by simp [cellsOf], Or.inr ⟨g, cap, cur.setIfInBounds i (.int .u8 x), by simp, hb, ?_, by simpa using hn, hc, by simpa using hs, ?_⟩⟩
    · simp only [World.setCell, Array.getElem?_modify, hg]
      simp
    · simp only [List.length_set, Nat.mul_one, Array.toList_setIfInBounds]
      rw [List.take_set, ht]
      simp [cellsOf, List.map_set]
theorem Ow.frozen {w : World} {base g m cap : Nat} {ys : List Int} (h : Ow w base (.slice (some ⟨g, 0, none⟩) m cap) ys) (i : Nat) : w.frozen? ⟨g, i, none⟩ = false := by
  obtain ⟨ao, c, he, ⟨rfl, _⟩ | ⟨g', cur, rfl, hb, hl, hg, hn, hc, hs, ht⟩⟩ := h.form
  · simp at he
  · simp only [Value.slice.injEq, Option.some.injEq, Addr.mk.injEq, and_true] at he
    obtain ⟨rfl, rfl, rfl⟩ := he
    simp [World.frozen?, hg]
theorem Ow.base_le {w : World} {base : Nat} {v : Value} {zs : List Int} (h : Ow w base v zs) {k : Nat} (hk : v.ownBlock = some k) : base ≤ k := (World.ownsRow.lt h k hk).1
def xb (z t : Int) : Int := bits .xor .u8 z t
def xq (m i : Nat) (t : Int) (ys : List Int) : List Int := ys.mapIdx fun j z => if m ≤ j ∧ j < i then xb z t else z
theorem xq_length (m i : Nat) (t : Int) (ys : List Int) : (xq m i t ys).length = ys.length := by simp [xq]
theorem xq_start (m : Nat) (t : Int) (ys : List Int) : xq m m t ys = ys := by
  apply List.ext_getElem (by simp [xq])
  intro j h1 h2
  simp only [xq, List.getElem_mapIdx]
  rw [if_neg (by omega)]
theorem xq_get (m i : Nat) (t : Int) (ys : List Int) : (xq m i t ys).getD i 0 = ys.getD i 0 := by
  simp only [xq, List.getD, List.getElem?_mapIdx]
  cases ys[i]? <;> simp
theorem xq_set (m i : Nat) (t : Int) (ys : List Int) (hm : m ≤ i) (hi : i < ys.length) : (xq m i t ys).set i (xb (ys.getD i 0) t) = xq m (i + 1) t ys := by
  apply List.ext_getElem (by simp [xq])
  intro j h1 h2
  simp only [xq, List.getElem_set, List.getElem_mapIdx]
  by_cases hj : i = j
  · subst hj
    rw [if_pos rfl, if_pos (by omega)]
    simp [List.getD, hi]
  · rw [if_neg hj]
    by_cases hc : m ≤ j ∧ j < i
    · rw [if_pos hc, if_pos (by omega)]
    · rw [if_neg hc, if_neg (by omega)]
def secN (n : Nat) : Nat := (n - 1) / 32 * 32
def crN (zs : List Int) (l k : Nat) : Nat := l + k % (zs.length - l + 1)
def crM (zs : List Int) (l k : Nat) : Nat := max l (secN (crN zs l k))
def crB (zs : List Int) (l k : Nat) (t : Int) : List Int := xq (crM zs l k) (crN zs l k) t (zs.take (crN zs l k))
theorem crN_le (zs : List Int) (l k : Nat) (hl : l ≤ zs.length) : crN zs l k ≤ zs.length := by
  have := Nat.mod_lt k (show 0 < zs.length - l + 1 by omega)
  unfold crN; omega
theorem secN_le (n : Nat) : secN n ≤ n := by unfold secN; omega
theorem crM_le (zs : List Int) (l k : Nat) : crM zs l k ≤ crN zs l k := by
  have := secN_le (crN zs l k)
  unfold crM
  have : l ≤ crN zs l k := by unfold crN; omega
  omega
theorem crB_length (zs : List Int) (l k : Nat) (t : Int) (hl : l ≤ zs.length) : (crB zs l k t).length = crN zs l k := by
  rw [crB, xq_length, List.length_take]
  have := crN_le zs l k hl
  omega
theorem sector_any (n : Nat) (hn : n ≤ 1073741824) (w : World) : Calls Tryz.prog 85 #[.int .i64 (n : Int)] w fun e w' => e = .returned (.int .i64 (secN n : Int)) ∧ w = w' := by
  have h1 : IntKind.i64.wrap ((n : Int) - 1) = (n : Int) - 1 := by rw [IntKind.wrap_i64]; omega
  have hmx : max ((n : Int) - 1) 0 = ((n - 1 : Nat) : Int) := by omega
  have HE : Hid ((((n - 1 : Nat) : Int)) / 32 * 32 = (secN n : Int)) := by show _ = _; unfold secN; omega
  go_enter Tryz.func85, Tryz.ntmps85
  go_wp2
  go_ret
  exact ⟨congrArg (fun z => Ending.returned (Value.int .i64 z)) HE.out, rfl⟩
theorem Tryz.size67 : (Tryz.prog.info? 106).map (·.size) = some 2 := by kernel_rfl
theorem Tryz.zero67r : (Tryz.prog.info? 106).bind (·.zero) = some (.agg [.slice none 0 0, .int .i64 0].toArray) := by kernel_rfl
set_option maxRecDepth 20000 in
set_option maxHeartbeats 1600000 in
theorem crashed_any (ao : Option Addr) (cap : Nat) (zs : List Int) (l k : Nat) (t : Int) (w : World) (ho : Ow w 0 (.slice ao zs.length cap) zs) (hl : l ≤ zs.length) (hz : zs.length ≤ 1073741824) (hk : k < 9223372036854775808) :
    Calls Tryz.prog 60 #[.agg #[.slice ao zs.length cap, .int .i64 (l : Int)], .int .i64 (k : Int), .int .u8 t] w fun e w' =>
      ∃ ao' cap', e = .returned (.agg #[.slice ao' (crN zs l k) cap', .int .i64 (crN zs l k : Int)]) ∧ Ow w' w.heap.size (.slice ao' (crN zs l k) cap') (crB zs l k t) ∧ Below w.heap.size w w' := by
  have hcn := crN_le zs l k hl
  have hcap := ho.cap_ge rfl
  have hcm := crM_le zs l k
  have hM : crM zs l k = max l (secN (crN zs l k)) := rfl
  have hB : crB zs l k t = xq (crM zs l k) (crN zs l k) t (zs.take (crN zs l k)) := rfl
  have hlen : wrap64 ((l : Int) + (k : Int) % (((zs.length - l : Nat) : Int) + 1)) = (crN zs l k : Int) := by
    have h2 := Int.emod_lt_of_pos (k : Int) (show (0 : Int) < ((zs.length - l : Nat) : Int) + 1 by omega)
    have h3 := Int.emod_nonneg (k : Int) (show ((zs.length - l : Nat) : Int) + 1 ≠ 0 by omega)
    rw [wrap_id _ (by omega) (by omega)]
    unfold crN
    simp
  generalize crM zs l k = m at *
  generalize crB zs l k t = ys at *
  generalize crN zs l k = n at *
  have hmI : max (l : Int) ((secN n : Nat) : Int) = (m : Int) := by omega
  have HB := hid_into hB
  have HM := hid_into hM
  clear hB hM
  have hnc : n ≤ cap := Nat.le_trans hcn hcap
  go_enter Tryz.func60, Tryz.ntmps60
  refine wp_seq (wp_region_lit (wpList_box_row rfl 106 (.tmp 0) rfl [.slice ao zs.length cap, .int .i64 (l : Int)] rfl ?_))
  intro W1 hc1 B1 HS1
  refine wpList_alloc_row rfl 106 rfl [.slice none 0 0, .int .i64 0] Tryz.zero67r ?_
  intro W2 hc2 B2 HS2
  refine wpList_nil ?_
  have hc12 := hc1.below B2 hc1.lt
  have d0 : W2.cell? ⟨w.heap.size, 0, none⟩ = some (.slice ao zs.length cap) := by rw [hc12.cell]; rfl
  have d1 : W2.cell? ⟨w.heap.size, 1, none⟩ = some (.int .i64 (l : Int)) := by rw [hc12.cell]; rfl
  have hsub : IntKind.i64.wrap ((zs.length : Int) - (l : Int)) = ((zs.length - l : Nat) : Int) := by rw [IntKind.wrap_i64]; omega
  have hsub2 : wrap64 ((zs.length : Int) - (l : Int)) = ((zs.length - l : Nat) : Int) := by simp only [wrap64]; omega
  go_wp2_with fail
  have B02 : Below w.heap.size w W2 := B1.trans (B2.mono (by have := HS1.out; omega))
  have HLT : Hid (w.heap.size < W1.heap.size ∧ W1.heap.size < W2.heap.size) := ⟨by have := HS1.out; omega, by have := HS2.out; omega⟩
  have hcut : Bs W2 (.slice ao n cap) (zs.take n) := ((ho.cut rfl n hcn).keep fun k hk => B02.block k (ho.lt (by rw [own_len ao _ n cap]; exact hk)).1).bs
  have htl : (zs.take n).length = n := by simp [hcn]
  have HC := hid_into (fun (q : Nat) => clone_any (.slice ao n cap) (zs.take n) (W2.drewN q) (hcut.keep fun _ _ _ => rfl) (by rw [htl]; omega))
  have HTL := hid_into htl
  have HO := hid_into ho
  have HC2 := hid_into hc2
  clear hcut htl B1 B2 ho
  go_quiet (fail)
  go_wp2_with fail
  refine (HC.out _).mono ?_
  rintro e W4 ⟨ao4, cap4, rfl, ho4, B4⟩
  replace B4 : Below W2.heap.size W2 W4 := ⟨B4.os, B4.tape, B4.output, B4.size, B4.block⟩
  replace ho4 : Ow W4 W2.heap.size (.slice ao4 (zs.take n).length cap4) (zs.take n) := ho4
  rw [HTL.out] at ho4 ⊢
  have hc14 := hc12.below B4 hc12.lt
  have hc24 := hc2.below B4 hc2.lt
  have e1 : W4.cell? ⟨w.heap.size, 1, none⟩ = some (.int .i64 (l : Int)) := by rw [hc14.cell]; rfl
  have B04 : Below w.heap.size w W4 := B02.trans (B4.mono B02.size)
  clear d0 d1 hc12 hc1 hc2 HC hc14
  go_wp2_with fail
  refine wp_region_still_lit (by kernel_rfl) (by kernel_rfl) ?_
  change wpStill _ _ (World.drew _) _ _ _
  repeat still_step
  still_call ((sector_any n (by omega) _).mono fun _ _ h => ⟨h.1, h.2.symm⟩)
  repeat still_step
  refine wpStill_nil ?_
  change Exit.then _ _ _ _ (World.drew _)
  go_wp2_with fail
  have HOW : Hid (Ow W4.drew W2.heap.size (.slice ao4 n cap4) (xq m m t (zs.take n))) := by rw [xq_start]; exact ho4.keep fun _ _ => rfl
  have HB4 : Hid (Below W2.heap.size W2 W4.drew) := B4.drew
  have HCM := hid_into hcm
  have HLT4 : Hid (W1.heap.size < W2.heap.size) := HLT.out.2
  have HB02 := hid_into B02
  clear ho4 B4 B04 hc24 e1 hmI B02 hcm hlen hsub hsub2
  go_loopw [10] (fun iv wx => ∃ i : Nat, m ≤ i ∧ i ≤ n ∧ iv = .int .i64 (i : Int) ∧ Ow wx W2.heap.size (.slice ao4 n cap4) (xq m i t (zs.take n)) ∧ Below W2.heap.size W2 wx) (fun iv _ => n - (intOf iv).toNat)
  case atStart => exact ⟨m, Nat.le_refl _, HCM.out, rfl, HOW.out, HB4.out⟩
  case round =>
    clear HOW HB4
    obtain ⟨i, hmi, hin, rfl, hoi, hBi⟩ := hrel
    by_cases hlt : i < n
    · have hxl : (xq m i t (zs.take n)).length = n := by rw [xq_length]; exact HTL.out
      obtain ⟨a5, c5, he5, hor⟩ := hoi.form
      rcases hor with ⟨_, _, h0⟩ | ⟨g, cur, rfl, hg0, hg1, -⟩
      · rw [h0] at hxl; simp at hxl; omega
      · simp only [Value.slice.injEq] at he5
        obtain ⟨rfl, -, rfl⟩ := he5
        have hc := hoi.cell i (by rw [hxl]; exact hlt)
        rw [xq_get] at hc
        have hfz := hoi.frozen i
        have hset := hoi.set i (xb ((zs.take n).getD i 0) t)
        rw [xq_set m i t (zs.take n) hmi (by rw [HTL.out]; exact hlt)] at hset
        have hBs := hBi.setCell (p := ⟨g, i, none⟩) hg0 (.int .u8 (xb ((zs.take n).getD i 0) t))
        generalize (zs.take n).getD i 0 = z at *
        replace hset := hid_into hset
        replace hBs := hid_into hBs
        clear hoi hBi hxl
        go_wp2_with fail
        go_roundw
        case rel => exact ⟨i + 1, by omega, by omega, by go_num, hset.out, hBs.out⟩
        case measure => simp [intOf]; omega
    · obtain rfl : i = n := by omega
      have hc5 := HC2.out.below hBi HLT4.out
      have HI : Hid ((Tryz.prog.info? 106).map (·.size) = some ([.slice none 0 0, .int .i64 0] : List Value).length) := Tryz.size67
      have HL2 : Hid (([.slice none 0 0, .int .i64 0] : List Value).length = ([.slice ao4 i cap4, .int .i64 (i : Int)] : List Value).length) := rfl
      have H1 : ∀ v ∈ ([.slice ao4 i cap4, .int .i64 (i : Int)] : List Value), v.oneCell' = true := by intro v hv; simp at hv; rcases hv with rfl | rfl <;> rfl
      go_wp2_with (refine wpList_store_rw rfl 106 (.tmp 6) (.tmp 48) rfl W1.heap.size [.slice none 0 0, .int .i64 0] [.slice ao4 i cap4, .int .i64 (i : Int)] 106 rfl rfl hc5 HI HL2 H1 ?_; intro W6 hc6 ON6)
      have hB6 : Below w.heap.size w W6 := (HB02.out.trans (hBi.mono HB02.out.size)).trans (ON6.below (Nat.le_of_lt HLT.out.1))
      refine ret_row rfl rfl rfl hc6 Tryz.underlying106 rfl HI ?_
      refine ⟨ao4, cap4, rfl, ?_, hB6⟩
      rw [HB.out]
      exact (hoi.keep fun k hk => ON6.block k fun e => by have := (hoi.base_le hk); have := HLT4.out; omega).mono (Nat.le_of_lt (Nat.lt_trans HLT.out.1 HLT.out.2))
end Go.Proofs.YtnkjhooeklodcaaGreatDoor
end
