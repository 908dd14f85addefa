/-
  DiskPlays: the document's Sync, by contract.
-/
import Derived.Test.YthkgmnmdojmfgaaPlaySet
import Derived.Deep.RegionHeld3
namespace Go.Proofs.Ythkgmnmdojmfgaa
open Go.RowKit Go.Maps Go.Sort

/-- What one of the five leaves beside the disk: all but its block, its row and new memory is as it was. -/
structure Rg (w : World) (wb : Nat) (v : Value) (w' : World) : Prop where
  os : w'.os = w.os
  tape : w'.tape = w.tape
  output : w'.output = w.output
  size : w.heap.size ≤ w'.heap.size
  block : ∀ k, k < w.heap.size → k ≠ wb → v.ownBlock ≠ some k → w'.heap[k]? = w.heap[k]?
theorem Rg.of_below {w w' : World} {wb : Nat} {v : Value} (h : Below w.heap.size w w') : Rg w wb v w' := ⟨h.os, h.tape, h.output, h.size, fun k hk _ _ => h.block k hk⟩
theorem Rg.set {w w' : World} {wb : Nat} {v : Value} (h : Rg w wb v w') (b i : Nat) (u : Value) (hb : b = wb ∨ v.ownBlock = some b) : Rg w wb v (w'.setCell ⟨b, i, none⟩ u) :=
  ⟨h.os, h.tape, h.output, by simpa [World.setCell] using h.size, fun k hk h1 h2 => (Below.heap_setCell _ _ _ _ (fun e => by
    have e' : k = b := e
    rcases hb with hb | hb
    · exact h1 (e'.trans hb)
    · exact h2 (by rw [e']; exact hb))).trans (h.block k hk h1 h2)⟩
theorem Rg.did {w w' : World} {wb : Nat} {v : Value} (h : Rg w wb v w') (left : Int) : Rg w wb v (didW w' wb left) := by
  unfold didW
  split
  · exact h.set wb 2 _ (Or.inl rfl)
  · exact h

theorem Rg.drew {w w' : World} {wb : Nat} {v : Value} (h : Rg w wb v w') : Rg w wb v w'.drew := ⟨h.os, h.tape, h.output, h.size, h.block⟩
theorem Rk.at {w : World} {base wb g n cap : Nat} {room left : Int} {L : List Fl3} (h : Rk w base wb (.slice (some ⟨g, 0, none⟩) n cap) room left L) :
    ∀ i f, L[i]? = some f → w.cell? ⟨g, i * 3, none⟩ = some (encStr f.nm) ∧ w.cell? ⟨g, i * 3 + 1, none⟩ = some f.v ∧ w.cell? ⟨g, i * 3 + 2, none⟩ = some (.int .i64 (f.l : Int)) := by
  rcases h.shape with ⟨h3, _⟩ | ⟨g', c', h3, _, _, h6⟩
  · simp at h3
  · simp only [Value.slice.injEq, Option.some.injEq, Addr.mk.injEq, and_true] at h3
    obtain ⟨rfl, _⟩ := h3
    exact h6

set_option maxHeartbeats 3200000 in
set_option maxRecDepth 20000 in
theorem sync3_done (base wb g cap : Nat) (room left : Int) (L : List Fl3) (x : List UInt8) (f : Fl3) (w : World) (h : Rk w base wb (.slice (some ⟨g, 0, none⟩) L.length cap) room left L) (hm : mayE left [x] = 0) (hf : L[spotN (names3 L) x]? = some f) (hx : f.nm = x) (hxl : x.length ≤ 140737488355328) (h0 : -9223372036854775807 ≤ left) (h1 : left ≤ 9223372036854775807) :
    Calls Try.prog 38 #[.pointer (some ⟨wb, 0, none⟩), encStr x] w fun e w' => e = .returned (.int .i64 0) ∧
      Rk w' base wb (.slice (some ⟨g, 0, none⟩) (L.set (spotN (names3 L) x) { f with l := f.zs.length }).length cap) room (didL left) (L.set (spotN (names3 L) x) { f with l := f.zs.length }) ∧ Rg w wb (.slice (some ⟨g, 0, none⟩) L.length cap) w' := by
  have hA : Below w.heap.size w (w.alloc (.cells #[encStr x] 9)) := (Below.refl _ _).alloc (Nat.le_refl _) _
  have hr := h.below hA
  have hxs : ∀ n ∈ [x], n.length ≤ 140737488355328 := by
    intro n hn
    have e : n = x := by simpa using hn
    rw [e]; exact hxl
  have hxc : ∀ i n, ([x] : List (List UInt8))[i]? = some n → (w.alloc (.cells #[encStr x] 9)).cell? ⟨w.heap.size, i, none⟩ = some (encStr n) := by
    intro i n hi
    cases i with
    | zero =>
      have e : x = n := by simpa using hi
      rw [← e, cell_of_row _ _ 0 _ _ _ (heap_alloc_new w _)]; rfl
    | succ i => simp at hi
  have C1 := may_any wb w.heap.size 1 room _ left [x] _ hr.blk (by simp) hxs hxc
  rw [hm] at C1
  have C2 := spot_any base wb _ room left L x _ hr
  rw [decide_eq_true (show (names3 L)[spotN (names3 L) x]? = some x by simp [names3] at hf ⊢; exact ⟨f, hf, hx⟩)] at C2
  generalize spotN (names3 L) x = k at *
  have hk : k < L.length := (List.getElem?_eq_some_iff.1 hf).1
  have few := h.few
  go_enter Try.func38, Try.ntmps38
  go_wp2_with (first | (refine wpList_made_str _ rfl (.tmp 9) rfl x rfl ?_) | (go_at_call 58; refine C1.mono ?_; rintro e w1 ⟨rfl, rfl⟩) | (go_at_call 59; refine C2.mono ?_; rintro e w2 ⟨rfl, hs⟩))
  have h2 := hr.sm hs
  have hcb := h2.blk.cell 1
  simp at hcb
  obtain ⟨g', c', hsh, hc1, hc2, hcell⟩ : ∃ g' c', (Value.slice (some ⟨g, 0, none⟩) L.length cap) = .slice (some ⟨g', 0, none⟩) L.length c' ∧ L.length ≤ c' ∧ c' ≤ maxLen ∧ ∀ i f, L[i]? = some f → w2.cell? ⟨g', i * 3, none⟩ = some (encStr f.nm) ∧ w2.cell? ⟨g', i * 3 + 1, none⟩ = some f.v ∧ w2.cell? ⟨g', i * 3 + 2, none⟩ = some (.int .i64 (f.l : Int)) := by
    rcases h2.shape with ⟨h3, _⟩ | ⟨g', c', h3, h4, h5, h6⟩
    · simp at h3
    · exact ⟨g', c', h3, h4, h5, h6⟩
  simp only [Value.slice.injEq, Option.some.injEq, Addr.mk.injEq, and_true, true_and] at hsh
  obtain ⟨rfl, rfl⟩ := hsh
  have hcf := (hcell k f hf).2.1
  have hcl := (hcell k f hf).2.2
  obtain ⟨af, cf, ef, _⟩ := ((h2.each f (List.mem_of_getElem? hf)).1).form
  rw [ef] at hcf
  have hfz : w2.frozen? ⟨g, k * 3 + 2, none⟩ = false := by
    rcases h2.row.2 with ⟨h3, _⟩ | ⟨g', c', cur, h3, _, hgg, _⟩
    · simp at h3
    · simp only [Value.slice.injEq, Option.some.injEq, Addr.mk.injEq, and_true, true_and] at h3
      obtain ⟨rfl, _⟩ := h3
      simp [World.frozen?, hgg]
  have f1 : (0 : Int) ≤ (k : Int) := by omega
  have f2 : (k : Int) < (L.length : Int) := by omega
  have hset := h2.setL hf (Nat.le_refl f.zs.length)
  have hrg : Rg w wb (.slice (some ⟨g, 0, none⟩) L.length cap) w2 := Rg.of_below (hA.trans (hs.below _))
  have hd1 := hset.blk.cell 1
  simp at hd1
  have hd2 := (hset.at k { f with l := f.zs.length } (by simp [hk])).2.1
  simp only [ef] at hd2
  clear hcell C1 C2 hxs hxc
  go_region_held3 (fun w' => w'.cell? ⟨wb, 1, none⟩ = some (.slice (some ⟨g, 0, none⟩) L.length cap) ∧ w'.cell? ⟨g, k * 3 + 1, none⟩ = some (.slice af f.zs.length cf)) (exact ⟨by first | assumption | exact hd1, by first | assumption | exact hd2⟩)
    (first | fail)
  have hset2 := hset.sm (Sm.drewN _ 1)
  have C3 := did_any wb room _ left _ hset2.blk h0 h1
  have hrg2 := ((hrg.set g (k * 3 + 2) (.int .i64 (f.zs.length : Int)) (Or.inr (by simp [Value.ownBlock]))).drew).did left
  have hdid := hset2.did
  clear hset hset2 hrg hcb hcf hcl hd1 hd2 hfz
  go_wp2_with fail
  refine C3.mono ?_
  rintro e w4 ⟨rfl, rfl⟩
  go_wp2
  go_ret
  exact ⟨rfl, hdid, hrg2⟩

set_option maxHeartbeats 3200000 in
set_option maxRecDepth 20000 in
theorem sync3_may (base wb : Nat) (v : Value) (room left : Int) (L : List Fl3) (x : List UInt8) (w : World) (h : Rk w base wb v room left L) (hm : mayE left [x] ≠ 0) (hxl : x.length ≤ 140737488355328) :
    Calls Try.prog 38 #[.pointer (some ⟨wb, 0, none⟩), encStr x] w fun e w' => e = .returned (.int .i64 (mayE left [x])) ∧ Below w.heap.size w w' := by
  have hA : Below w.heap.size w (w.alloc (.cells #[encStr x] 9)) := (Below.refl _ _).alloc (Nat.le_refl _) _
  have hr := h.below hA
  have hxs : ∀ n ∈ [x], n.length ≤ 140737488355328 := by
    intro n hn
    have e : n = x := by simpa using hn
    rw [e]; exact hxl
  have hxc : ∀ i n, ([x] : List (List UInt8))[i]? = some n → (w.alloc (.cells #[encStr x] 9)).cell? ⟨w.heap.size, i, none⟩ = some (encStr n) := by
    intro i n hi
    cases i with
    | zero =>
      have e : x = n := by simpa using hi
      rw [← e, cell_of_row _ _ 0 _ _ _ (heap_alloc_new w _)]; rfl
    | succ i => simp at hi
  have C1 := may_any wb w.heap.size 1 room _ left [x] _ hr.blk (by simp) hxs hxc
  generalize mayE left [x] = er at *
  have hm' : (er != 0) = true := by simpa using hm
  go_enter Try.func38, Try.ntmps38
  go_wp2_with (first | (refine wpList_made_str _ rfl (.tmp 9) rfl x rfl ?_) | (go_at_call 58; refine C1.mono ?_; rintro e w1 ⟨rfl, rfl⟩))
  go_ret
  exact ⟨rfl, hA⟩

set_option maxHeartbeats 3200000 in
set_option maxRecDepth 20000 in
theorem sync3_none (base wb : Nat) (v : Value) (room left : Int) (L : List Fl3) (x : List UInt8) (w : World) (h : Rk w base wb v room left L) (hm : mayE left [x] = 0) (hx : (names3 L)[spotN (names3 L) x]? ≠ some x) (hxl : x.length ≤ 140737488355328) :
    Calls Try.prog 38 #[.pointer (some ⟨wb, 0, none⟩), encStr x] w fun e w' => e = .returned (.int .i64 7) ∧ Below w.heap.size w w' := by
  have hA : Below w.heap.size w (w.alloc (.cells #[encStr x] 9)) := (Below.refl _ _).alloc (Nat.le_refl _) _
  have hr := h.below hA
  have hxs : ∀ n ∈ [x], n.length ≤ 140737488355328 := by
    intro n hn
    have e : n = x := by simpa using hn
    rw [e]; exact hxl
  have hxc : ∀ i n, ([x] : List (List UInt8))[i]? = some n → (w.alloc (.cells #[encStr x] 9)).cell? ⟨w.heap.size, i, none⟩ = some (encStr n) := by
    intro i n hi
    cases i with
    | zero =>
      have e : x = n := by simpa using hi
      rw [← e, cell_of_row _ _ 0 _ _ _ (heap_alloc_new w _)]; rfl
    | succ i => simp at hi
  have C1 := may_any wb w.heap.size 1 room _ left [x] _ hr.blk (by simp) hxs hxc
  rw [hm] at C1
  have C2 := spot_any base wb _ room left L x _ hr
  rw [decide_eq_false hx] at C2
  generalize spotN (names3 L) x = k at *
  go_enter Try.func38, Try.ntmps38
  go_wp2_with (first | (refine wpList_made_str _ rfl (.tmp 9) rfl x rfl ?_) | (go_at_call 58; refine C1.mono ?_; rintro e w1 ⟨rfl, rfl⟩) | (go_at_call 59; refine C2.mono ?_; rintro e w2 ⟨rfl, hs⟩))
  go_ret
  exact ⟨rfl, hA.trans (hs.below _)⟩
end Go.Proofs.Ythkgmnmdojmfgaa
