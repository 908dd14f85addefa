/-
  DiskPlays: the document's Remove, by contract.
-/
import Derived.Test.YthkgmnmdojmfgaaPlayRem
namespace Go.Proofs.Ythkgmnmdojmfgaa
open Go.RowKit Go.Maps Go.Sort

theorem one_str (w : World) (x : List UInt8) : ∀ i n, ([x] : List (List UInt8))[i]? = some n → (w.alloc (.cells #[encStr x] 9)).cell? ⟨w.heap.size, i, none⟩ = some (encStr n) := by
  intro i n hi
  cases i with
  | zero =>
    have e : x = n := by simpa using hi
    rw [← e, cell_of_row _ _ 0 _ _ _ (heap_alloc_new w _)]; rfl
  | succ i => simp at hi
set_option maxHeartbeats 3200000 in
set_option maxRecDepth 20000 in
theorem rem3_none (base wb : Nat) (v : Value) (room left : Int) (L : List Fl3) (x : List UInt8) (w : World) (h : Rk w base wb v room left L) (hx : (names3 L)[spotN (names3 L) x]? ≠ some x) :
    Calls Try.prog 61 #[.pointer (some ⟨wb, 0, none⟩), encStr x] w fun e w' => e = .returned (.tuple #[]) ∧ Sm w w' := by
  have C2 := spot_any base wb _ room left L x _ h
  rw [decide_eq_false hx] at C2
  generalize spotN (names3 L) x = k at *
  go_enter Try.func61, Try.ntmps61
  go_wp2_with (go_at_call 59; refine C2.mono ?_; rintro e w2 ⟨rfl, hs⟩)
  go_end0
  exact ⟨rfl, hs⟩
set_option maxHeartbeats 3200000 in
set_option maxRecDepth 20000 in
theorem remove3_may (base wb : Nat) (v : Value) (room left : Int) (L : List Fl3) (x : List UInt8) (w : World) (h : Rk w base wb v room left L) (hm : mayE left [x] ≠ 0) (hxl : x.length ≤ 140737488355328) :
    Calls Try.prog 41 #[.pointer (some ⟨wb, 0, none⟩), encStr x] w fun e w' => e = .returned (.int .i64 (mayE left [x])) ∧ Below w.heap.size w w' := by
  have hA : Below w.heap.size w (w.alloc (.cells #[encStr x] 9)) := (Below.refl _ _).alloc (Nat.le_refl _) _
  have hr := h.below hA
  have hxs : ∀ n ∈ [x], n.length ≤ 140737488355328 := by
    intro n hn
    have e : n = x := by simpa using hn
    rw [e]; exact hxl
  have hxc := one_str w x
  have C1 := may_any wb w.heap.size 1 room _ left [x] _ hr.blk (by simp) hxs hxc
  generalize mayE left [x] = er at *
  have hm' : (er != 0) = true := by simpa using hm
  go_enter Try.func41, Try.ntmps41
  go_wp2_with (first | (refine wpList_made_str _ rfl (.tmp 9) rfl x rfl ?_) | (go_at_call 58; refine C1.mono ?_; rintro e w1 ⟨rfl, rfl⟩))
  go_ret
  exact ⟨rfl, hA⟩
set_option maxHeartbeats 3200000 in
set_option maxRecDepth 20000 in
theorem remove3_none (base wb : Nat) (v : Value) (room left : Int) (L : List Fl3) (x : List UInt8) (w : World) (h : Rk w base wb v room left L) (hm : mayE left [x] = 0) (hx : (names3 L)[spotN (names3 L) x]? ≠ some x) (hxl : x.length ≤ 140737488355328) :
    Calls Try.prog 41 #[.pointer (some ⟨wb, 0, none⟩), encStr x] w fun e w' => e = .returned (.int .i64 7) ∧ Below w.heap.size w w' := by
  have hA : Below w.heap.size w (w.alloc (.cells #[encStr x] 9)) := (Below.refl _ _).alloc (Nat.le_refl _) _
  have hr := h.below hA
  have hxs : ∀ n ∈ [x], n.length ≤ 140737488355328 := by
    intro n hn
    have e : n = x := by simpa using hn
    rw [e]; exact hxl
  have hxc := one_str w x
  have C1 := may_any wb w.heap.size 1 room _ left [x] _ hr.blk (by simp) hxs hxc
  rw [hm] at C1
  have C2 := spot_any base wb _ room left L x _ hr
  rw [decide_eq_false hx] at C2
  generalize spotN (names3 L) x = k at *
  go_enter Try.func41, Try.ntmps41
  go_wp2_with (first | (refine wpList_made_str _ rfl (.tmp 9) rfl x rfl ?_) | (go_at_call 58; refine C1.mono ?_; rintro e w1 ⟨rfl, rfl⟩) | (go_at_call 59; refine C2.mono ?_; rintro e w2 ⟨rfl, hs⟩))
  go_ret
  exact ⟨rfl, hA.trans (hs.below _)⟩
set_option maxHeartbeats 3200000 in
set_option maxRecDepth 20000 in
theorem remove3_done (base wb g cap : Nat) (room left : Int) (L : List Fl3) (x : List UInt8) (f : Fl3) (w : World) (h : Rk w base wb (.slice (some ⟨g, 0, none⟩) L.length cap) room left L) (hm : mayE left [x] = 0) (hf : L[spotN (names3 L) x]? = some f) (hx : f.nm = x) (hxl : x.length ≤ 140737488355328) (h0 : -9223372036854775807 ≤ left) (h1 : left ≤ 9223372036854775807) :
    Calls Try.prog 41 #[.pointer (some ⟨wb, 0, none⟩), encStr x] w fun e w' => e = .returned (.int .i64 0) ∧ ∃ v', Rk w' base wb v' room (didL left) (L.eraseIdx (spotN (names3 L) x)) ∧ (∀ q, v'.ownBlock = some q → w.heap.size ≤ q) ∧ Rg w wb (.slice none 0 0) w' := by
  have hA : Below w.heap.size w (w.alloc (.cells #[encStr x] 9)) := (Below.refl _ _).alloc (Nat.le_refl _) _
  have hr := h.below hA
  have hxs : ∀ n ∈ [x], n.length ≤ 140737488355328 := by
    intro n hn
    have e : n = x := by simpa using hn
    rw [e]; exact hxl
  have hxc := one_str w x
  have C1 := may_any wb w.heap.size 1 room _ left [x] _ hr.blk (by simp) hxs hxc
  rw [hm] at C1
  have C2 := spot_any base wb _ room left L x _ hr
  rw [decide_eq_true (show (names3 L)[spotN (names3 L) x]? = some x by simp [names3] at hf ⊢; exact ⟨f, hf, hx⟩)] at C2
  have C3 : ∀ W, Sm (w.alloc (.cells #[encStr x] 9)) W → _ := fun W hs => rem3_some base wb g cap room left L x f W (hr.sm hs) hf hx
  generalize spotN (names3 L) x = k at *
  go_enter Try.func41, Try.ntmps41
  go_wp2_with (first | (refine wpList_made_str _ rfl (.tmp 9) rfl x rfl ?_) | (go_at_call 58; refine C1.mono ?_; rintro e w1 ⟨rfl, rfl⟩) | (go_at_call 59; refine C2.mono ?_; rintro e w2 ⟨rfl, hs⟩) | (go_at_call 61; refine (C3 _ hs).mono ?_; rintro e w3 ⟨rfl, v3, hk3, hq3, hg3⟩; have C4 := did_any wb room _ left _ hk3.blk h0 h1) | (go_at_call 60; refine C4.mono ?_; rintro e w4 ⟨rfl, rfl⟩))
  have hdid := hk3.did
  have hsz : w.heap.size ≤ w2.heap.size := by rw [hs.size]; exact hA.size
  have hrg : Rg w wb (.slice none 0 0) w3 := by
    have hB2 : Below w.heap.size w w2 := hA.trans (hs.below _)
    exact ⟨hg3.os.trans hB2.os, hg3.tape.trans hB2.tape, hg3.output.trans hB2.output, Nat.le_trans hB2.size hg3.size, fun q hq h1 h2 => (hg3.block q (by omega) h1 h2).trans (hB2.block q hq)⟩
  have hrg2 := hrg.did left
  go_ret
  exact ⟨rfl, v3, hdid, fun q hq => Nat.le_trans hsz (hq3 q hq), hrg2⟩
end Go.Proofs.Ythkgmnmdojmfgaa
