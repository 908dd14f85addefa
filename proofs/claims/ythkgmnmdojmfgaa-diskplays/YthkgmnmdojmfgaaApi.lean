/-
  New, Fuse, Used, Read, bytes.Clone, by contracts.
-/
import Derived.Test.YthkgmnmdojmfgaaFive
namespace Go.Proofs.Ythkgmnmdojmfgaa
open Go.RowKit Go.Maps
variable {X : Nm → Prop} {w w' : World} {F : Nat → Prop} {sb : Nat} {mb : Option Nat} {room : Int} {fs : Fls} {lit : Bool} {left : Int}

theorem New_bad (room : Int) (w : World) (h : room < 0 ∨ 1073741824 < room) : Calls Try.prog 11 #[.int .i64 room] w fun e w' => e = .returned (.tuple #[.pointer none, .int .i64 1]) ∧ w' = w := by
  by_cases h0 : room < 0
  · go_enter Try.func11, Try.ntmps11
    go_wp2
    go_ret2
    exact ⟨rfl, rfl⟩
  · have h1 : 1073741824 < room := by omega
    clear h
    go_enter Try.func11, Try.ntmps11
    go_wp2
    go_ret2
    exact ⟨rfl, rfl⟩
/-- A new disk. -/
theorem Dk_new (w : World) (room : Int) (h : 0 ≤ room ∧ room ≤ 1073741824) : Dk (w.alloc (.cells #[.int .i64 room, .int .i64 0, .map none, .bool false, .int .i64 0] 62)) (fun k => k = w.heap.size) w.heap.size none room [] false 0 :=
  ⟨Cw.new w [.int .i64 room, .int .i64 0, .map none, .bool false, .int .i64 0] 62, rfl, fun _ => rfl, fun b hb => (by cases hb), fun p hp => (by cases hp), fun p hp => (by cases hp), fun p hp => (by cases hp), h, h.1, by decide, by decide⟩
theorem New_any (room : Int) (w : World) (h : 0 ≤ room ∧ room ≤ 1073741824) :
    Calls Try.prog 11 #[.int .i64 room] w fun e w' => e = .returned (.tuple #[.pointer (some ⟨w.heap.size, 0, none⟩), .int .i64 0]) ∧ Dk w' (fun k => k = w.heap.size) w.heap.size none room [] false 0 ∧ Below w.heap.size w w' := by
  have HD := hid_into (Dk_new w room h)
  have h0 : ¬ room < 0 := by omega
  have h1 : ¬ 1073741824 < room := by omega
  clear h
  go_enter Try.func11, Try.ntmps11
  go_wp2
  go_ret2
  exact ⟨rfl, HD.out, (Below.refl _ _).alloc (Nat.le_refl _) _⟩
theorem Used_any (h : Dk w F sb mb room fs lit left) : Calls Try.prog 26 #[.pointer (some ⟨sb, 0, none⟩)] w fun e w' => e = .returned (.int .i64 (tot fs : Int)) ∧ w' = w := by
  obtain ⟨c0, c1, c2, c3, c4⟩ := h.cell
  go_enter Try.func26, Try.ntmps26
  go_wp2
  go_ret
  exact ⟨rfl, rfl⟩
theorem Used_nil (w : World) : Calls Try.prog 26 #[.pointer none] w fun e w' => e = .returned (.int .i64 0) ∧ w' = w := by
  go_enter Try.func26, Try.ntmps26
  go_wp2
  go_ret
  exact ⟨rfl, rfl⟩
/-- bytes.Clone: the same bytes in a row of their own. -/
theorem clone_any (v : Value) (zs : List Int) (w : World) (hb : Bs w v zs) (hl : zs.length ≤ 140737488355328) :
    Calls Try.prog 30 #[v] w fun e w' => ∃ ao cap, e = .returned (.slice ao zs.length cap) ∧ Ow w' w.heap.size (.slice ao zs.length cap) zs ∧ Below w.heap.size w w' := by
  obtain ⟨a0, c0, hv, hm⟩ := hb.len
  subst hv
  have q32 : ∀ (w : World) (a : Option Addr) (n c : Nat), (binOp .eql 32 (.slice a n c) (.slice none 0 0)).run Try.prog w = .ok (.bool a.isNone) w := fun w a n c => Lib.run_eql_slice_nil w 32 5 a n c 0 0 Try.underlying32
  cases a0 with
  | none =>
    have hz : zs = [] := by
      rcases hb with ⟨h, _⟩ | ⟨_, b, o, c, e, _⟩
      · exact h
      · cases e
    subst hz
    go_enter Try.func30, Try.ntmps30
    go_wp2_with fail
    go_ret
    exact ⟨none, 0, rfl, World.ownsRow_nil _ _ _ _, Below.refl _ _⟩
  | some a =>
    have hb1 := hb.below (w' := w.alloc (.cells #[] 5)) ((Below.refl _ _).alloc (Nat.le_refl _) _) (Nat.le_refl _)
    have ho : Ow (w.alloc (.cells #[] 5)) w.heap.size (.slice (some ⟨w.heap.size, 0, none⟩) 0 0) [] := Ow_of_block (zs := []) (heap_alloc_new w _) (by simp) (Nat.le_refl _)
    go_enter Try.func30, Try.ntmps30
    go_wp2_with (at_builtin; refine wpList_append_bs _ rfl (.tmp 5) (.tmp 6) rfl w.heap.size _ [] rfl ho _ zs rfl hb1 (by simpa using hl) (by simp) ?_; intro ao5 cap5 W5 ho5 hg5 hat5; simp only [List.length_nil, Nat.zero_add, List.nil_append] at ho5 ⊢; have B5 : Below w.heap.size w W5 := ((Below.refl _ w).alloc (Nat.le_refl _) _).trans (grown_below hg5 ho (by simp)); clear hg5 hat5)
    go_ret
    exact ⟨ao5, cap5, rfl, ho5, B5⟩
def readE (fs : Fls) (x : Nm) : Int := if (lk fs x).isSome then 0 else 7
theorem tot_at0 (h : Dk w F sb mb room fs lit left) (x : Nm) : (at0 fs x).zs.length ≤ 1073741824 := by
  have h1 := ln_le h.diff x
  rw [ln_at0] at h1
  have := h.fits
  have := h.room0
  omega
set_option maxHeartbeats 800000 in
theorem Read_any (h : Dk w F sb mb room fs lit left) (x : Nm) (hx : x.length ≤ maxLen) :
    Calls Try.prog 20 #[.pointer (some ⟨sb, 0, none⟩), encStr x] w fun e w' => ∃ ao cap, e = .returned (.tuple #[.slice ao (at0 fs x).zs.length cap, .int .i64 (none7 fs x)]) ∧ Ow w' w.heap.size (.slice ao (at0 fs x).zs.length cap) (at0 fs x).zs ∧ Below w.heap.size w w' := by
  obtain ⟨c0, c1, c2, c3, c4⟩ := h.cell
  obtain ⟨ao, cap, hf⟩ := at0_form' h x
  have hlk := look_ok h x hx
  rw [Fl.val, hf] at hlk
  have hz67 := zero67
  obtain ⟨r1, _, _, _⟩ := at0_ow h x
  rw [hf] at r1
  have hcl := clone_any _ _ (w.alloc (.cells #[.slice ao (at0 fs x).zs.length cap, .int .i64 ((at0 fs x).l : Int)] 67)) (r1.bs.below (w' := w.alloc (.cells #[.slice ao (at0 fs x).zs.length cap, .int .i64 ((at0 fs x).l : Int)] 67)) ((Below.refl _ _).alloc (Nat.le_refl _) _) (Nat.le_refl _)) (by have := tot_at0 h x; omega)
  have HC := hid_into hcl
  clear hcl
  cases hl : lk fs x with
  | none =>
    have e0 : at0 fs x = ⟨.slice none 0 0, [], 0⟩ := by simp only [at0, hl]
    rw [hl] at hlk
    go_enter Try.func20, Try.ntmps20
    go_wp2_with fail
    go_ret2
    rw [e0]
    exact ⟨none, 0, by simp [none7, hl], World.ownsRow_nil _ _ _ _, (Below.refl _ _).alloc (Nat.le_refl _) _⟩
  | some f =>
    rw [hl] at hlk
    have HL := hid_into hl
    clear hl
    go_enter Try.func20, Try.ntmps20
    go_wp2_with fail
    refine HC.out.mono ?_
    rintro e W2 ⟨ao2, cap2, rfl, ho2, B2⟩
    have B3 : Below w.heap.size w W2 := ((Below.refl _ _).alloc (Nat.le_refl _) _).trans (B2.mono (by simp))
    clear B2
    go_wp2_with fail
    go_ret2
    exact ⟨ao2, cap2, by simp [none7, HL.out], ho2.mono (by simp), B3⟩
theorem Read_nil (w : World) (x : Value) : Calls Try.prog 20 #[.pointer none, x] w fun e w' => e = .returned (.tuple #[.slice none 0 0, .int .i64 7]) ∧ w' = w := by
  go_enter Try.func20, Try.ntmps20
  go_wp2
  go_ret2
  exact ⟨rfl, rfl⟩
end Go.Proofs.Ythkgmnmdojmfgaa
