/-
  Joined from: PlayCut, PlayWrt.
-/
import Derived.Test.YtnkjhooeklodcaaGreatDoorM16
section
/-
  DiskPlays: the document's Cut, by contract.
-/
namespace Go.Proofs.YtnkjhooeklodcaaGreatDoor
open Go.RowKit Go.Maps Go.Sort

theorem cells3_setF : ∀ (L : List Fl3) (k : Nat) (f f' : Fl3), L[k]? = some f → f'.nm = f.nm → cells3 (L.set k f') = ((cells3 L).set (k * 3 + 1) f'.v).set (k * 3 + 2) (.int .i64 (f'.l : Int))
  | [], _, _, _, h, _ => by simp at h
  | g :: L, 0, f, f', h, hn => by
    have e : g = f := by simpa using h
    subst e
    simp [cells3, Fl3.cells, hn]
  | g :: L, k + 1, f, f', h, hn => by
    have ih := cells3_setF L k f f' (by simpa using h) hn
    have e1 : cells3 (g :: L) = g.cells ++ cells3 L := by simp [cells3]
    have e2 : cells3 ((g :: L).set (k + 1) f') = g.cells ++ cells3 (L.set k f') := by simp [cells3]
    have h3 : g.cells.length = 3 := rfl
    rw [e1, e2, ih, List.set_append_right _ _ (by rw [h3]; omega), List.set_append_right _ _ (by rw [h3]; omega), h3, show (k + 1) * 3 + 2 - 3 = k * 3 + 2 by omega, show (k + 1) * 3 + 1 - 3 = k * 3 + 1 by omega]
theorem Rk.setBL {w : World} {base wb g cap : Nat} {room left : Int} {L : List Fl3} {k n : Nat} {f : Fl3} {v' : Value} {zs' : List Int} (h : Rk w base wb (.slice (some ⟨g, 0, none⟩) L.length cap) room left L) (hf : L[k]? = some f) (ho : Ow w base v' zs') (hz : ∀ z ∈ zs', 0 ≤ z ∧ z < 256) (hn : n ≤ zs'.length) (hv : ∀ b, v'.ownBlock = some b → b ≠ wb ∧ b ≠ g) :
    Rk ((w.setCell ⟨g, k * 3 + 1, none⟩ v').setCell ⟨g, k * 3 + 2, none⟩ (.int .i64 (n : Int))) base wb (.slice (some ⟨g, 0, none⟩) (L.set k ⟨f.nm, v', zs', n⟩).length cap) room left (L.set k ⟨f.nm, v', zs', n⟩) := by
  have hgw : g ≠ wb := fun e => h.sep (by simp [Value.ownBlock]; exact e)
  refine ⟨?_, ?_, ?_, by simpa using h.few, h.wbb, by simpa [Value.ownBlock] using hgw⟩
  · rw [List.length_set]
    have := h.blk
    unfold Cw at this ⊢
    rw [Below.heap_setCell _ _ _ _ (fun e => hgw e.symm), Below.heap_setCell _ _ _ _ (fun e => hgw e.symm)]
    exact this
  · rw [cells3_setF L k f ⟨f.nm, v', zs', n⟩ hf rfl, List.length_set]
    exact ownsRow_set (ownsRow_set h.row _ _) _ _
  · intro q hq
    have step : ∀ (u : Value) (ys : List Int), Ow w base u ys → u.ownBlock ≠ some g → Ow ((w.setCell ⟨g, k * 3 + 1, none⟩ v').setCell ⟨g, k * 3 + 2, none⟩ (.int .i64 (n : Int))) base u ys := fun u ys h1 hne => ownsRow_other (ownsRow_other h1 g _ _ hne) g _ _ hne
    rcases List.mem_or_eq_of_mem_set hq with hm | rfl
    · obtain ⟨h1, h2, h3, h4⟩ := h.each q hm
      exact ⟨step _ _ h1 (fun e => (h4 g e).2 (by simp [Value.ownBlock])), h2, h3, fun b hb => ⟨(h4 b hb).1, by simpa [Value.ownBlock] using (h4 b hb).2⟩⟩
    · refine ⟨step _ _ ho (fun e => (hv g e).2 rfl), hz, hn, fun b hb => ⟨(hv b hb).1, ?_⟩⟩
      have := (hv b hb).2
      simp [Value.ownBlock]
      exact fun e => this e.symm
theorem Rk.frz {w : World} {base wb g n cap : Nat} {room left : Int} {L : List Fl3} (h : Rk w base wb (.slice (some ⟨g, 0, none⟩) n cap) room left L) (i : Nat) : w.frozen? ⟨g, i, none⟩ = false := by
  rcases h.row.2 with ⟨h3, _⟩ | ⟨g', c', cur, h3, _, hgg, _⟩
  · simp at h3
  · simp only [Value.slice.injEq, Option.some.injEq, Addr.mk.injEq, and_true] at h3
    obtain ⟨rfl, _⟩ := h3
    simp [World.frozen?, hgg]
theorem Rk.caps {w : World} {base wb g n cap : Nat} {room left : Int} {L : List Fl3} (h : Rk w base wb (.slice (some ⟨g, 0, none⟩) n cap) room left L) : L.length ≤ cap ∧ cap ≤ maxLen := by
  rcases h.shape with ⟨h3, _⟩ | ⟨g', c', h3, h4, h5, _⟩
  · simp at h3
  · simp only [Value.slice.injEq] at h3
    obtain ⟨_, _, rfl⟩ := h3
    exact ⟨h4, h5⟩
theorem Rk.glt {w : World} {base wb g n cap : Nat} {room left : Int} {L : List Fl3} (h : Rk w base wb (.slice (some ⟨g, 0, none⟩) n cap) room left L) : g < w.heap.size := by
  rcases h.row.2 with ⟨h3, _⟩ | ⟨g', c', cur, h3, _, hgg, _⟩
  · simp at h3
  · simp only [Value.slice.injEq, Option.some.injEq, Addr.mk.injEq, and_true] at h3
    obtain ⟨rfl, _⟩ := h3
    exact (Array.getElem?_eq_some_iff.1 hgg).1
theorem Bs.take {w : World} {a : Option Addr} {n cap : Nat} {zs : List Int} (h : Bs w (.slice a n cap) zs) (m : Nat) (hm : m ≤ zs.length) : Bs w (.slice a m cap) (zs.take m) := by
  rcases h with ⟨rfl, ao, c, e, h1, h2⟩ | ⟨hz, b, off, c, e, h1, h2, h3⟩
  · simp at hm
    subst hm
    simp only [Value.slice.injEq] at e
    obtain ⟨rfl, _, rfl⟩ := e
    exact Or.inl ⟨rfl, a, cap, rfl, h1, h2⟩
  · simp only [Value.slice.injEq] at e
    obtain ⟨rfl, rfl, rfl⟩ := e
    by_cases h0 : m = 0
    · subst h0
      exact Or.inl ⟨rfl, _, cap, rfl, h2, by intro h; cases h⟩
    · refine Or.inr ⟨fun e => h0 ?_, b, off, cap, by simp [hm], by simp; omega, h2, fun i hi => ?_⟩
      · have := congrArg List.length e
        simp at this
        rcases this with h | h
        · exact h
        · exact absurd h hz
      · have hi' : i < m := by simp at hi; omega
        rw [h3 i (by omega)]
        simp [List.getD, hi']
set_option maxHeartbeats 3200000 in
set_option maxRecDepth 20000 in
theorem cut3_may (base wb : Nat) (v : Value) (room left : Int) (L : List Fl3) (x : List UInt8) (n : Int) (w : World) (h : Rk w base wb v room left L) (hm : mayE left [x] ≠ 0) (hxl : x.length ≤ 140737488355328) :
    Calls Tryz.prog 42 #[.pointer (some ⟨wb, 0, none⟩), encStr x, .int .i64 n] w fun e w' => e = .returned (.int .i64 (mayE left [x])) ∧ Below w.heap.size w w' := by
  have hA : Below w.heap.size w (w.alloc (.cells #[encStr x] 9)) := (Below.refl _ _).alloc (Nat.le_refl _) _
  have hr := h.below hA
  have hxs : ∀ n ∈ [x], n.length ≤ 140737488355328 := by
    intro n hn
    have e : n = x := by simpa using hn
    rw [e]; exact hxl
  have hxc := one_str w x
  have C1 := may_any wb w.heap.size 1 room _ left [x] _ hr.blk (by simp) hxs hxc
  generalize mayE left [x] = er at *
  have hm' : (er != 0) = true := by simpa using hm
  go_enter Tryz.func42, Tryz.ntmps42
  go_wp2_with (first | (refine wpList_made_str _ rfl (.tmp 11) rfl x rfl ?_) | (go_at_call 68; refine C1.mono ?_; rintro e w1 ⟨rfl, rfl⟩))
  go_ret
  exact ⟨rfl, hA⟩
set_option maxHeartbeats 3200000 in
set_option maxRecDepth 20000 in
theorem cut3_none (base wb : Nat) (v : Value) (room left : Int) (L : List Fl3) (x : List UInt8) (n : Int) (w : World) (h : Rk w base wb v room left L) (hm : mayE left [x] = 0) (hx : (names3 L)[spotN (names3 L) x]? ≠ some x) (hxl : x.length ≤ 140737488355328) :
    Calls Tryz.prog 42 #[.pointer (some ⟨wb, 0, none⟩), encStr x, .int .i64 n] w fun e w' => e = .returned (.int .i64 7) ∧ Below w.heap.size w w' := by
  have hA : Below w.heap.size w (w.alloc (.cells #[encStr x] 9)) := (Below.refl _ _).alloc (Nat.le_refl _) _
  have hr := h.below hA
  have hxs : ∀ n ∈ [x], n.length ≤ 140737488355328 := by
    intro n hn
    have e : n = x := by simpa using hn
    rw [e]; exact hxl
  have hxc := one_str w x
  have C1 := may_any wb w.heap.size 1 room _ left [x] _ hr.blk (by simp) hxs hxc
  rw [hm] at C1
  have C2 := spot_any base wb _ room left L x _ hr
  rw [decide_eq_false hx] at C2
  generalize spotN (names3 L) x = k at *
  go_enter Tryz.func42, Tryz.ntmps42
  go_wp2_with (first | (refine wpList_made_str _ rfl (.tmp 11) rfl x rfl ?_) | (go_at_call 68; refine C1.mono ?_; rintro e w1 ⟨rfl, rfl⟩) | (go_at_call 69; refine C2.mono ?_; rintro e w2 ⟨rfl, hs⟩))
  go_ret
  exact ⟨rfl, hA.trans (hs.below _)⟩
set_option maxHeartbeats 3200000 in
set_option maxRecDepth 20000 in
theorem cut3_bad (base wb g cap : Nat) (room left : Int) (L : List Fl3) (x : List UInt8) (n : Int) (f : Fl3) (w : World) (h : Rk w base wb (.slice (some ⟨g, 0, none⟩) L.length cap) room left L) (hm : mayE left [x] = 0) (hf : L[spotN (names3 L) x]? = some f) (hx : f.nm = x) (hxl : x.length ≤ 140737488355328) (hn : n < 0 ∨ (f.zs.length : Int) < n) :
    Calls Tryz.prog 42 #[.pointer (some ⟨wb, 0, none⟩), encStr x, .int .i64 n] w fun e w' => e = .returned (.int .i64 1) ∧ Below w.heap.size w w' := by
  have hA : Below w.heap.size w (w.alloc (.cells #[encStr x] 9)) := (Below.refl _ _).alloc (Nat.le_refl _) _
  have hr := h.below hA
  have hxs : ∀ n ∈ [x], n.length ≤ 140737488355328 := by
    intro n hn
    have e : n = x := by simpa using hn
    rw [e]; exact hxl
  have hxc := one_str w x
  have C1 := may_any wb w.heap.size 1 room _ left [x] _ hr.blk (by simp) hxs hxc
  rw [hm] at C1
  have C2 := spot_any base wb _ room left L x _ hr
  rw [decide_eq_true (show (names3 L)[spotN (names3 L) x]? = some x by simp [names3] at hf ⊢; exact ⟨f, hf, hx⟩)] at C2
  generalize spotN (names3 L) x = k at *
  have hk : k < L.length := (List.getElem?_eq_some_iff.1 hf).1
  have few := h.few
  obtain ⟨af, cf, ef, hform⟩ := ((h.each f (List.mem_of_getElem? hf)).1).form
  go_enter Tryz.func42, Tryz.ntmps42
  have f1 : (0 : Int) ≤ (k : Int) := by omega
  have f2 : (k : Int) < (L.length : Int) := by omega
  by_cases hn0 : n < 0
  · clear hn
    go_wp2_with (first | (refine wpList_made_str _ rfl (.tmp 11) rfl x rfl ?_) | (go_at_call 68; refine C1.mono ?_; rintro e w1 ⟨rfl, rfl⟩) | (go_at_call 69; refine C2.mono ?_; rintro e w2 ⟨rfl, hs⟩))
    go_ret
    exact ⟨rfl, hA.trans (hs.below _)⟩
  · have hn1 : (f.zs.length : Int) < n := by omega
    clear hn
    go_wp2_with (first | (refine wpList_made_str _ rfl (.tmp 11) rfl x rfl ?_) | (go_at_call 68; refine C1.mono ?_; rintro e w1 ⟨rfl, rfl⟩) | (go_at_call 69; refine C2.mono ?_; rintro e w2 ⟨rfl, hs⟩; have h2 := hr.sm hs; have hcb := h2.blk.cell 1; simp at hcb; have hcf := (h2.at k f hf).2.1; rw [ef] at hcf))
    go_ret
    exact ⟨rfl, hA.trans (hs.below _)⟩
set_option maxHeartbeats 3200000 in
set_option maxRecDepth 20000 in
theorem cut3_done (base wb g cap : Nat) (room left : Int) (L : List Fl3) (x : List UInt8) (n : Nat) (f : Fl3) (w : World) (h : Rk w base wb (.slice (some ⟨g, 0, none⟩) L.length cap) room left L) (hm : mayE left [x] = 0) (hf : L[spotN (names3 L) x]? = some f) (hx : f.nm = x) (hxl : x.length ≤ 140737488355328) (hn : n ≤ f.zs.length) (hfz : f.zs.length ≤ 100000000000) (h0 : -9223372036854775807 ≤ left) (h1 : left ≤ 9223372036854775807) :
    Calls Tryz.prog 42 #[.pointer (some ⟨wb, 0, none⟩), encStr x, .int .i64 (n : Int)] w fun e w' => e = .returned (.int .i64 0) ∧ ∃ v',
      Rk w' base wb (.slice (some ⟨g, 0, none⟩) (L.set (spotN (names3 L) x) ⟨f.nm, v', f.zs.take n, min f.l n⟩).length cap) room (didL left) (L.set (spotN (names3 L) x) ⟨f.nm, v', f.zs.take n, min f.l n⟩) ∧ (∀ q, v'.ownBlock = some q → w.heap.size ≤ q) ∧ Rg w wb (.slice (some ⟨g, 0, none⟩) L.length cap) w' := by
  have hA : Below w.heap.size w (w.alloc (.cells #[encStr x] 9)) := (Below.refl _ _).alloc (Nat.le_refl _) _
  have hr := h.below hA
  have hxs : ∀ n ∈ [x], n.length ≤ 140737488355328 := by
    intro n hn
    have e : n = x := by simpa using hn
    rw [e]; exact hxl
  have hxc := one_str w x
  have C1 := may_any wb w.heap.size 1 room _ left [x] _ hr.blk (by simp) hxs hxc
  rw [hm] at C1
  have C2 := spot_any base wb _ room left L x _ hr
  rw [decide_eq_true (show (names3 L)[spotN (names3 L) x]? = some x by simp [names3] at hf ⊢; exact ⟨f, hf, hx⟩)] at C2
  generalize spotN (names3 L) x = k at *
  have hk : k < L.length := (List.getElem?_eq_some_iff.1 hf).1
  have few := h.few
  obtain ⟨af, cf, ef, hform⟩ := ((h.each f (List.mem_of_getElem? hf)).1).form
  go_enter Tryz.func42, Tryz.ntmps42
  have hcap2 : f.zs.length ≤ cf := by
    rcases hform with ⟨_, _, e⟩ | ⟨_, _, _, _, _, _, e, _⟩
    · rw [e]; simp
    · exact e
  have f1 : (0 : Int) ≤ (k : Int) := by omega
  have f2 : (k : Int) < (L.length : Int) := by omega
  have f3 : ¬ ((n : Int) < 0) := by omega
  have f4 : ¬ ((f.zs.length : Int) < (n : Int)) := by omega
  have f5 : (0 : Int) ≤ (n : Int) := by omega
  have f6 : (n : Int) ≤ (cf : Int) := by omega
  clear hform
  go_wp2_with (first | (refine wpList_made_str _ rfl (.tmp 11) rfl x rfl ?_) | (go_at_call 68; refine C1.mono ?_; rintro e w1 ⟨rfl, rfl⟩) | (go_at_call 69; refine C2.mono ?_; rintro e w2 ⟨rfl, hs⟩; have h2 := hr.sm hs; have hcb := h2.blk.cell 1; simp at hcb; have hcf := (h2.at k f hf).2.1; rw [ef] at hcf))
  have hof := (h2.each f (List.mem_of_getElem? hf)).1
  rw [ef] at hof
  have hB : Below w.heap.size w w2 := hA.trans (hs.below _)
  have hg2 := h2.glt
  have hwb2 := h2.lt
  have hsz0 : w.heap.size ≤ w2.heap.size := hB.size
  have hA2 : Below w2.heap.size w2 (w2.alloc (.cells #[] 5)) := (Below.refl _ _).alloc (Nat.le_refl _) _
  have hO0 : Ow (w2.alloc (.cells #[] 5)) w2.heap.size (.slice (some ⟨w2.heap.size, 0, none⟩) 0 0) [] := Ow_of_block (heap_alloc_new w2 _) (by simp) (Nat.le_refl _)
  have hS : w2.drew.cell? ⟨wb, 1, none⟩ = some (.slice (some ⟨g, 0, none⟩) L.length cap) ∧ w2.drew.cell? ⟨g, k * 3 + 1, none⟩ = some (.slice af f.zs.length cf) := ⟨hcb, hcf⟩
  clear C1 C2 hxs hxc
  refine wp_region_L 19 (fun w' => w'.cell? ⟨wb, 1, none⟩ = some (.slice (some ⟨g, 0, none⟩) L.length cap) ∧ w'.cell? ⟨g, k * 3 + 1, none⟩ = some (.slice af f.zs.length cf)) (by kernel_rfl) ?_
  refine' wpL_take 0 40 rfl rfl (by kernel_rfl) (by kernel_rfl) (by kernel_rfl) (by kernel_rfl) (fun _ _ _ h => h) (by rfl) hS ?y40 ?r40
  case y40 => (intro u hSu; obtain ⟨hSu1, hSu2⟩ := hSu; go_simp; try with_reducible rfl)
  simp only [Act.put, List.setIfInBounds_toArray, List.set_cons_zero, List.set_cons_succ]
  refine' wpL_take 1 41 rfl rfl (by kernel_rfl) (by kernel_rfl) (by kernel_rfl) (by kernel_rfl) (fun _ _ _ h => h) (by rfl) hS ?y41 ?r41
  case y41 => (intro u hSu; obtain ⟨hSu1, hSu2⟩ := hSu; go_simp; try with_reducible rfl)
  simp only [Act.put, List.setIfInBounds_toArray, List.set_cons_zero, List.set_cons_succ]
  refine' wpL_take 2 42 rfl rfl (by kernel_rfl) (by kernel_rfl) (by kernel_rfl) (by kernel_rfl) (fun _ _ _ h => h) (by rfl) hS ?y42 ?r42
  case y42 => (intro u hSu; obtain ⟨hSu1, hSu2⟩ := hSu; go_simp; try with_reducible rfl)
  simp only [Act.put, List.setIfInBounds_toArray, List.set_cons_zero, List.set_cons_succ]
  refine' wpL_take 3 43 rfl rfl (by kernel_rfl) (by kernel_rfl) (by kernel_rfl) (by kernel_rfl) (fun _ _ _ h => h) (by rfl) hS ?y43 ?r43
  case y43 => (intro u hSu; obtain ⟨hSu1, hSu2⟩ := hSu; go_simp; try with_reducible rfl)
  simp only [Act.put, List.setIfInBounds_toArray, List.set_cons_zero, List.set_cons_succ]
  refine' wpL_take 4 44 rfl rfl (by kernel_rfl) (by kernel_rfl) (by kernel_rfl) (by kernel_rfl) (fun _ _ _ h => h) (by rfl) hS ?y44 ?r44
  case y44 => (intro u hSu; obtain ⟨hSu1, hSu2⟩ := hSu; go_simp; try with_reducible rfl)
  simp only [Act.put, List.setIfInBounds_toArray, List.set_cons_zero, List.set_cons_succ]
  refine' wpL_take 6 46 rfl rfl (by kernel_rfl) (by kernel_rfl) (by kernel_rfl) (by kernel_rfl) (fun _ _ _ h => h) (by rfl) hS ?y46 ?r46
  case y46 => (intro u hSu; obtain ⟨hSu1, hSu2⟩ := hSu; go_simp; try with_reducible rfl)
  simp only [Act.put, List.setIfInBounds_toArray, List.set_cons_zero, List.set_cons_succ]
  refine' wpL_take 7 47 rfl rfl (by kernel_rfl) (by kernel_rfl) (by kernel_rfl) (by kernel_rfl) (fun _ _ _ h => h) (by rfl) hS ?y47 ?r47
  case y47 => (intro u hSu; obtain ⟨hSu1, hSu2⟩ := hSu; go_simp; try with_reducible rfl)
  simp only [Act.put, List.setIfInBounds_toArray, List.set_cons_zero, List.set_cons_succ]
  refine' wpL_take 8 48 rfl rfl (by kernel_rfl) (by kernel_rfl) (by kernel_rfl) (by kernel_rfl) (fun _ _ _ h => h) (by rfl) hS ?y48 ?r48
  case y48 => (intro u hSu; obtain ⟨hSu1, hSu2⟩ := hSu; go_simp; try with_reducible rfl)
  simp only [Act.put, List.setIfInBounds_toArray, List.set_cons_zero, List.set_cons_succ]
  refine' wpL_take 9 49 rfl rfl (by kernel_rfl) (by kernel_rfl) (by kernel_rfl) (by kernel_rfl) (fun _ _ _ h => h) (by rfl) hS ?y49 ?r49
  case y49 => (intro u hSu; obtain ⟨hSu1, hSu2⟩ := hSu; go_simp; try with_reducible rfl)
  simp only [Act.put, List.setIfInBounds_toArray, List.set_cons_zero, List.set_cons_succ]
  refine' wpL_take 10 50 rfl rfl (by kernel_rfl) (by kernel_rfl) (by kernel_rfl) (by kernel_rfl) (fun _ _ _ h => h) (by rfl) hS ?y50 ?r50
  case y50 => (intro u hSu; obtain ⟨hSu1, hSu2⟩ := hSu; go_simp; try with_reducible rfl)
  simp only [Act.put, List.setIfInBounds_toArray, List.set_cons_zero, List.set_cons_succ]
  refine' wpL_take 11 51 rfl rfl (by kernel_rfl) (by kernel_rfl) (by kernel_rfl) (by kernel_rfl) (fun _ _ _ h => h) (by rfl) hS ?y51 ?r51
  case y51 => (intro u hSu; obtain ⟨hSu1, hSu2⟩ := hSu; go_simp; try with_reducible rfl)
  simp only [Act.put, List.setIfInBounds_toArray, List.set_cons_zero, List.set_cons_succ]
  refine' wpL_take 12 52 rfl rfl (by kernel_rfl) (by kernel_rfl) (by kernel_rfl) (by kernel_rfl) (fun _ _ _ h => h) (by rfl) hS ?y52 ?r52
  case y52 => (intro u hSu; obtain ⟨hSu1, hSu2⟩ := hSu; go_simp; try with_reducible rfl)
  simp only [Act.put, List.setIfInBounds_toArray, List.set_cons_zero, List.set_cons_succ]
  refine' wpL_take 13 53 rfl rfl (by kernel_rfl) (by kernel_rfl) (by kernel_rfl) (by kernel_rfl) (fun _ _ _ h => h) (by rfl) hS ?y53 ?r53
  case y53 => (intro u hSu; obtain ⟨hSu1, hSu2⟩ := hSu; go_simp; try with_reducible rfl)
  simp only [Act.put, List.setIfInBounds_toArray, List.set_cons_zero, List.set_cons_succ]
  refine' wpL_take 14 54 rfl rfl (by kernel_rfl) (by kernel_rfl) (by kernel_rfl) (by kernel_rfl) (fun _ _ _ h => h) (by rfl) hS ?y54 ?r54
  case y54 => (intro u hSu; obtain ⟨hSu1, hSu2⟩ := hSu; go_simp; try with_reducible rfl)
  simp only [Act.put, List.setIfInBounds_toArray, List.set_cons_zero, List.set_cons_succ]
  refine' wpL_take 15 55 rfl rfl (by kernel_rfl) (by kernel_rfl) (by kernel_rfl) (by kernel_rfl) (fun _ _ _ h => h) (by rfl) hS ?y55 ?r55
  case y55 => (intro u hSu; obtain ⟨hSu1, hSu2⟩ := hSu; go_simp; try with_reducible rfl)
  simp only [Act.put, List.setIfInBounds_toArray, List.set_cons_zero, List.set_cons_succ]
  refine wpL_one (i := 5) (by kernel_rfl) rfl (fun K hK => ?_)
  rw [if_pos (by rfl)]
  go_simp
  refine hK.out _ _ (fun _ => ⟨by exact (h2.below hA2).blk.cell 1, by exact ef ▸ ((h2.below hA2).at k f hf).2.1⟩) ?_
  clear hK K
  refine wpL_one (i := 16) (by kernel_rfl) rfl (fun K hK => ?_)
  refine step_append_bs rfl (.tmp 45) (.tmp 55) rfl w2.heap.size (.slice (some ⟨w2.heap.size, 0, none⟩) 0 0) [] rfl (by exact hO0) (.slice af n cf) (f.zs.take n) rfl (by exact (hof.bs.take n hn).below hA2.drew (Nat.le_refl _)) (by simp; omega) (by simp) ?_
  intro ao3 cap3 w3 ho3 hg3 _
  have hB3 : Below w2.heap.size w2 w3 := hA2.drew.trans (grown_below hg3 (by exact hO0) (by simp))
  have h3 := h2.below hB3
  have hc3 := h3.blk.cell 1
  simp at hc3
  have hc3f := (h3.at k f hf).2.1
  have hc3l := (h3.at k f hf).2.2
  rw [ef] at hc3f
  have hfr := h3.frz (k * 3 + 1)
  refine hK.out _ _ (fun _ => ⟨hc3, hc3f⟩) ?_
  change wpL Tryz.prog _ _ _ _ _ _ _ (Act.put _ (some 56) _) _
  simp only [List.nil_append, List.length_nil, Nat.zero_add] at ho3 ⊢
  simp only [Act.put, List.setIfInBounds_toArray, List.set_cons_zero, List.set_cons_succ]
  clear hK K hg3
  have hv3 : ∀ b, (Value.slice ao3 (f.zs.take n).length cap3).ownBlock = some b → w2.heap.size ≤ b := fun b hb => (World.ownsRow.lt ho3 b hb).1
  have ht : (f.zs.take n).length = n := by simp [hn]
  rw [ht] at ho3 hv3 ⊢
  refine wpL_one (i := 17) (by kernel_rfl) rfl (fun K hK => ?_)
  rw [if_pos (by rfl)]
  go_simp
  refine hK.out _ _ (fun _ => ⟨hc3, hc3f⟩) ?_
  clear hK K
  refine wpL_one (i := 18) (by kernel_rfl) rfl (fun K hK => ?_)
  rw [if_pos (by rfl)]
  go_simp
  refine hK.out _ _ (fun _ => ⟨hc3, hc3f⟩) ?_
  clear hK K
  refine wpL_one (i := 19) (by kernel_rfl) rfl (fun K hK => ?_)
  rw [if_pos (by rfl)]
  go_simp
  refine hK.out _ _ (fun e => absurd rfl e) ?_
  clear hK K
  refine wpL_done (by kernel_rfl) ?_ _
  have hmk := h3.setBL (n := min f.l n) hf (ho3.mono (Nat.le_trans h2.wbb (Nat.le_of_lt hwb2))) (fun z hz => (h3.each f (List.mem_of_getElem? hf)).2.1 z (List.mem_of_mem_take hz)) (by rw [ht]; omega) (fun b hb => by have := hv3 b hb; omega)
  have hrg3 : Rg w wb (.slice (some ⟨g, 0, none⟩) L.length cap) w3 := Rg.of_below (hB.trans (hB3.mono hsz0))
  have hgw : g ≠ wb := fun e => h.sep (by simp [Value.ownBlock]; exact e)
  have hS2 : (w3.setCell ⟨g, k * 3 + 1, none⟩ (.slice ao3 n cap3)).drew.cell? ⟨wb, 1, none⟩ = some (.slice (some ⟨g, 0, none⟩) L.length cap) ∧ (w3.setCell ⟨g, k * 3 + 1, none⟩ (.slice ao3 n cap3)).drew.cell? ⟨g, k * 3 + 2, none⟩ = some (.int .i64 (f.l : Int)) := by
    refine ⟨(World.cell?_setCell_other w3 _ _ _ ?_).trans hc3, (World.cell?_setCell_other w3 _ _ _ ?_).trans hc3l⟩
    · intro e
      simp only [Addr.mk.injEq] at e
      exact hgw e.1
    · intro e
      simp only [Addr.mk.injEq] at e
      omega
  have hS : (w3.setCell ⟨g, k * 3 + 1, none⟩ (.slice ao3 n cap3)).drew.cell? ⟨wb, 1, none⟩ = some (.slice (some ⟨g, 0, none⟩) L.length cap) ∧ (w3.setCell ⟨g, k * 3 + 1, none⟩ (.slice ao3 n cap3)).drew.cell? ⟨g, k * 3 + 2, none⟩ = some (.int .i64 (f.l : Int)) := hS2
  have hfr2 : (w3.setCell ⟨g, k * 3 + 1, none⟩ (.slice ao3 n cap3)).frozen? ⟨g, k * 3 + 2, none⟩ = false := by
    exact (World.frozen?_setCell w3 _ _ _).trans (h3.frz (k * 3 + 2))
  have hrg4 := hrg3.set g (k * 3 + 1) (.slice ao3 n cap3) (Or.inr (by simp [Value.ownBlock]))
  generalize hw4 : w3.setCell ⟨g, k * 3 + 1, none⟩ (.slice ao3 n cap3) = w4 at *
  have hS1 := hS.1
  have hS3 := hS.2
  clear hS2 hrg3 hc3 hc3f hc3l hfr hcb hcf hO0 hA2
  go_wp2_with fail
  refine wp_region_L 17 (fun w' => w'.cell? ⟨wb, 1, none⟩ = some (.slice (some ⟨g, 0, none⟩) L.length cap) ∧ w'.cell? ⟨g, k * 3 + 2, none⟩ = some (.int .i64 (f.l : Int))) (by kernel_rfl) ?_
  refine' wpL_take 0 59 rfl rfl (by kernel_rfl) (by kernel_rfl) (by kernel_rfl) (by kernel_rfl) (fun _ _ _ h => h) (by rfl) hS ?y59 ?r59
  case y59 => (intro u hSu; obtain ⟨hSu1, hSu2⟩ := hSu; go_simp; try with_reducible rfl)
  simp only [Act.put, List.setIfInBounds_toArray, List.set_cons_zero, List.set_cons_succ]
  refine' wpL_take 1 60 rfl rfl (by kernel_rfl) (by kernel_rfl) (by kernel_rfl) (by kernel_rfl) (fun _ _ _ h => h) (by rfl) hS ?y60 ?r60
  case y60 => (intro u hSu; obtain ⟨hSu1, hSu2⟩ := hSu; go_simp; try with_reducible rfl)
  simp only [Act.put, List.setIfInBounds_toArray, List.set_cons_zero, List.set_cons_succ]
  refine' wpL_take 2 61 rfl rfl (by kernel_rfl) (by kernel_rfl) (by kernel_rfl) (by kernel_rfl) (fun _ _ _ h => h) (by rfl) hS ?y61 ?r61
  case y61 => (intro u hSu; obtain ⟨hSu1, hSu2⟩ := hSu; go_simp; try with_reducible rfl)
  simp only [Act.put, List.setIfInBounds_toArray, List.set_cons_zero, List.set_cons_succ]
  refine' wpL_take 3 62 rfl rfl (by kernel_rfl) (by kernel_rfl) (by kernel_rfl) (by kernel_rfl) (fun _ _ _ h => h) (by rfl) hS ?y62 ?r62
  case y62 => (intro u hSu; obtain ⟨hSu1, hSu2⟩ := hSu; go_simp; try with_reducible rfl)
  simp only [Act.put, List.setIfInBounds_toArray, List.set_cons_zero, List.set_cons_succ]
  refine' wpL_take 4 63 rfl rfl (by kernel_rfl) (by kernel_rfl) (by kernel_rfl) (by kernel_rfl) (fun _ _ _ h => h) (by rfl) hS ?y63 ?r63
  case y63 => (intro u hSu; obtain ⟨hSu1, hSu2⟩ := hSu; go_simp; try with_reducible rfl)
  simp only [Act.put, List.setIfInBounds_toArray, List.set_cons_zero, List.set_cons_succ]
  refine' wpL_take 5 64 rfl rfl (by kernel_rfl) (by kernel_rfl) (by kernel_rfl) (by kernel_rfl) (fun _ _ _ h => h) (by rfl) hS ?y64 ?r64
  case y64 => (intro u hSu; obtain ⟨hSu1, hSu2⟩ := hSu; go_simp; try with_reducible rfl)
  simp only [Act.put, List.setIfInBounds_toArray, List.set_cons_zero, List.set_cons_succ]
  refine' wpL_take 6 65 rfl rfl (by kernel_rfl) (by kernel_rfl) (by kernel_rfl) (by kernel_rfl) (fun _ _ _ h => h) (by rfl) hS ?y65 ?r65
  case y65 => (intro u hSu; obtain ⟨hSu1, hSu2⟩ := hSu; go_simp; try with_reducible rfl)
  simp only [Act.put, List.setIfInBounds_toArray, List.set_cons_zero, List.set_cons_succ]
  refine' wpL_take 7 66 rfl rfl (by kernel_rfl) (by kernel_rfl) (by kernel_rfl) (by kernel_rfl) (fun _ _ _ h => h) (by rfl) hS ?y66 ?r66
  case y66 => (intro u hSu; obtain ⟨hSu1, hSu2⟩ := hSu; go_simp; try with_reducible rfl)
  simp only [Act.put, List.setIfInBounds_toArray, List.set_cons_zero, List.set_cons_succ]
  refine' wpL_take 8 67 rfl rfl (by kernel_rfl) (by kernel_rfl) (by kernel_rfl) (by kernel_rfl) (fun _ _ _ h => h) (by rfl) hS ?y67 ?r67
  case y67 => (intro u hSu; obtain ⟨hSu1, hSu2⟩ := hSu; go_simp; try with_reducible rfl)
  simp only [Act.put, List.setIfInBounds_toArray, List.set_cons_zero, List.set_cons_succ]
  refine' wpL_take 9 68 rfl rfl (by kernel_rfl) (by kernel_rfl) (by kernel_rfl) (by kernel_rfl) (fun _ _ _ h => h) (by rfl) hS ?y68 ?r68
  case y68 => (intro u hSu; obtain ⟨hSu1, hSu2⟩ := hSu; go_simp; try with_reducible rfl)
  simp only [Act.put, List.setIfInBounds_toArray, List.set_cons_zero, List.set_cons_succ]
  refine' wpL_take 10 69 rfl rfl (by kernel_rfl) (by kernel_rfl) (by kernel_rfl) (by kernel_rfl) (fun _ _ _ h => h) (by rfl) hS ?y69 ?r69
  case y69 => (intro u hSu; obtain ⟨hSu1, hSu2⟩ := hSu; go_simp; try with_reducible rfl)
  simp only [Act.put, List.setIfInBounds_toArray, List.set_cons_zero, List.set_cons_succ]
  refine' wpL_take 11 70 rfl rfl (by kernel_rfl) (by kernel_rfl) (by kernel_rfl) (by kernel_rfl) (fun _ _ _ h => h) (by rfl) hS ?y70 ?r70
  case y70 => (intro u hSu; obtain ⟨hSu1, hSu2⟩ := hSu; go_simp; try with_reducible rfl)
  simp only [Act.put, List.setIfInBounds_toArray, List.set_cons_zero, List.set_cons_succ]
  refine' wpL_take 12 71 rfl rfl (by kernel_rfl) (by kernel_rfl) (by kernel_rfl) (by kernel_rfl) (fun _ _ _ h => h) (by rfl) hS ?y71 ?r71
  case y71 => (intro u hSu; obtain ⟨hSu1, hSu2⟩ := hSu; go_simp; try with_reducible rfl)
  simp only [Act.put, List.setIfInBounds_toArray, List.set_cons_zero, List.set_cons_succ]
  refine' wpL_take 13 72 rfl rfl (by kernel_rfl) (by kernel_rfl) (by kernel_rfl) (by kernel_rfl) (fun _ _ _ h => h) (by rfl) hS ?y72 ?r72
  case y72 => (intro u hSu; obtain ⟨hSu1, hSu2⟩ := hSu; go_simp; try with_reducible rfl)
  simp only [Act.put, List.setIfInBounds_toArray, List.set_cons_zero, List.set_cons_succ]
  refine' wpL_take 14 73 rfl rfl (by kernel_rfl) (by kernel_rfl) (by kernel_rfl) (by kernel_rfl) (fun _ _ _ h => h) (by rfl) hS ?y73 ?r73
  case y73 => (intro u hSu; obtain ⟨hSu1, hSu2⟩ := hSu; go_simp; try with_reducible rfl)
  simp only [Act.put, List.setIfInBounds_toArray, List.set_cons_zero, List.set_cons_succ]
  refine wpL_one (i := 15) (by kernel_rfl) rfl (fun K hK => ?_)
  rw [if_pos (by rfl)]
  go_simp
  refine hK.out _ _ (fun _ => hS) ?_
  clear hK K
  refine wpL_one (i := 16) (by kernel_rfl) rfl (fun K hK => ?_)
  rw [if_pos (by rfl)]
  go_simp
  refine hK.out _ _ (fun _ => hS) ?_
  clear hK K
  refine wpL_one (i := 17) (by kernel_rfl) rfl (fun K hK => ?_)
  rw [if_pos (by rfl)]
  go_simp
  refine hK.out _ _ (fun e => absurd rfl e) ?_
  clear hK K
  refine wpL_done (by kernel_rfl) ?_ _
  have ei : (if n < f.l then (n : Int) else (f.l : Int)) = ((min f.l n : Nat) : Int) := by split <;> omega
  rw [ei]
  have hmk2 := hmk.sm (Sm.drewN _ 1)
  have C3 := did_any wb room _ left _ hmk2.blk h0 h1
  have hrg5 := ((hrg4.set g (k * 3 + 2) (.int .i64 ((min f.l n : Nat) : Int)) (Or.inr (by simp [Value.ownBlock]))).drew).did left
  have hdid := hmk2.did
  have hsz2 : ∀ q, (Value.slice ao3 n cap3).ownBlock = some q → w.heap.size ≤ q := fun q hq => Nat.le_trans hsz0 (hv3 q hq)
  clear hmk hmk2 hrg4 hS hS1 hS3 hfr2 hw4 h3 ho3 hv3 hof h2 hr h ei
  go_wp2_with fail
  refine C3.mono ?_
  rintro e w5 ⟨rfl, rfl⟩
  go_wp2
  go_ret
  exact ⟨rfl, _, hdid, hsz2, hrg5⟩
end Go.Proofs.YtnkjhooeklodcaaGreatDoor
end

section
/-
  DiskPlays: the document's Write: laws for rows of files, what it refuses.
-/
namespace Go.Proofs.YtnkjhooeklodcaaGreatDoor
open Go.RowKit Go.Maps Go.Sort

theorem run_slice_hi3 (w : World) (base : Nat) (v : Value) (L : List Fl3) (hv : O3 w base v L) (k : Nat) (hk : k ≤ L.length) : ∃ u, (Instr.slice 89 v none (some (.int .i64 (k : Int))) none).run Tryz.prog w = .ok u w ∧ B3 w u (L.take k) := by
  obtain ⟨i0, hi, hz0, hz1, hz2⟩ := info_parts Tryz.info71p
  have hsz : ∀ W : World, (sizeOf 110).run Tryz.prog W = .ok 3 W := fun W => by simp [sizeOf, typeInfo, hi, hz1]
  have hb3 := hv.b3
  rcases hv.2 with ⟨rfl, h0⟩ | ⟨g, cap, cur, rfl, _, _, hn, _⟩
  · have hk0 : k = 0 := by omega
    subst hk0
    refine ⟨.slice none 0 0, ?_, Or.inl ⟨rfl, none, 0, rfl, fun _ => rfl⟩⟩
    simp [Instr.slice, run_underlying Tryz.underlying89, Instr.sliceBounds, Instr.sliceBound, asIntOf, hsz]
  · refine ⟨.slice (some ⟨g, 0, none⟩) k cap, ?_, hb3.take k hk⟩
    have h1 : k ≤ cap := by omega
    simp [Instr.slice, run_underlying Tryz.underlying89, Instr.sliceBounds, Instr.sliceBound, asIntOf, hsz, h1, Addr.add_lit]
theorem run_slice_lo3 (w : World) (base : Nat) (v : Value) (L : List Fl3) (hv : O3 w base v L) (k : Nat) (hk : k ≤ L.length) : ∃ u, (Instr.slice 89 v (some (.int .i64 (k : Int))) none none).run Tryz.prog w = .ok u w ∧ B3 w u (L.drop k) := by
  obtain ⟨i0, hi, hz0, hz1, hz2⟩ := info_parts Tryz.info71p
  have hsz : ∀ W : World, (sizeOf 110).run Tryz.prog W = .ok 3 W := fun W => by simp [sizeOf, typeInfo, hi, hz1]
  have hb3 := hv.b3
  rcases hv.2 with ⟨rfl, h0⟩ | ⟨g, cap, cur, rfl, _, _, hn, _⟩
  · have hk0 : k = 0 := by omega
    have hL : L = [] := List.eq_nil_of_length_eq_zero h0
    subst hk0
    subst hL
    refine ⟨.slice none 0 0, ?_, Or.inl ⟨rfl, none, 0, rfl, fun _ => rfl⟩⟩
    simp [Instr.slice, run_underlying Tryz.underlying89, Instr.sliceBounds, Instr.sliceBound, asIntOf, hsz]
  · obtain ⟨off, ho, hr⟩ := slice_lo3 g L.length cap k (k : Int) rfl hk hn
    exact ⟨_, hr w, hb3.drop k hk off _ ho⟩
theorem wpList_slice_hi3 (w : World) {ops : Array Oper} {rest : List Oper} {o : Oper} {a : Act} {Q : Exit → Act → World → Prop} (hgd : o.guard = none) (x hi : Operand) (ho : o.op = .slice 89 x none (some hi) none)
    (base : Nat) (v : Value) (L : List Fl3) (hx : a.eval x = v) (hv : O3 w base v L) (k : Nat) (hh : a.eval hi = .int .i64 (k : Int)) (hk : k ≤ L.length)
    (h : ∀ u, B3 w u (L.take k) → wpList Tryz.prog ops Q rest (a.put o.dst u) w) : wpList Tryz.prog ops Q (o :: rest) a w := by
  obtain ⟨u, hr, hb⟩ := run_slice_hi3 w base v L hv k hk
  refine wpList_plain hgd fun _ hK => ?_
  unfold Oper.wp execOp
  simp only [ho, Option.map_some, Option.map_none, Sem.run_bind, Instr.sliceAt, run_underlying Tryz.underlying89, hx, hh, hr, Result.andThen_ok, Sem.run_pure]
  exact hK _ _ (h u hb)
theorem wpList_slice_lo3 (w : World) {ops : Array Oper} {rest : List Oper} {o : Oper} {a : Act} {Q : Exit → Act → World → Prop} (hgd : o.guard = none) (x lo : Operand) (ho : o.op = .slice 89 x (some lo) none none)
    (base : Nat) (v : Value) (L : List Fl3) (hx : a.eval x = v) (hv : O3 w base v L) (k : Nat) (hh : a.eval lo = .int .i64 (k : Int)) (hk : k ≤ L.length)
    (h : ∀ u, B3 w u (L.drop k) → wpList Tryz.prog ops Q rest (a.put o.dst u) w) : wpList Tryz.prog ops Q (o :: rest) a w := by
  obtain ⟨u, hr, hb⟩ := run_slice_lo3 w base v L hv k hk
  refine wpList_plain hgd fun _ hK => ?_
  unfold Oper.wp execOp
  simp only [ho, Option.map_some, Option.map_none, Sem.run_bind, Instr.sliceAt, run_underlying Tryz.underlying89, hx, hh, hr, Result.andThen_ok, Sem.run_pure]
  exact hK _ _ (h u hb)
theorem mk_row1 (W : World) (s : ByteArray) (ao : Option Addr) (n c : Nat) (l : Int) : (Instr.buildSlice 89 1 #[(0, .agg #[.string s, .slice ao n c, .int .i64 l])]).run Tryz.prog W = .ok (.slice (some ⟨W.heap.size, 0, none⟩) 1 1) (W.alloc (.cells #[.string s, .slice ao n c, .int .i64 l] 110)) := by kernel_rfl
theorem wpList_made_row3 (w : World) {ops : Array Oper} {rest : List Oper} {o : Oper} {a : Act} {Q : Exit → Act → World → Prop} (hgd : o.guard = none) (x : Operand) (ho : o.op = .buildSlice 89 1 #[(0, x)]) (s : List UInt8) (ao : Option Addr) (n c : Nat) (l : Int) (hx : a.eval x = .agg #[encStr s, .slice ao n c, .int .i64 l])
    (h : wpList Tryz.prog ops Q rest (a.put o.dst (.slice (some ⟨w.heap.size, 0, none⟩) 1 1)) (w.alloc (.cells #[encStr s, .slice ao n c, .int .i64 l] 110))) : wpList Tryz.prog ops Q (o :: rest) a w := by
  refine wpList_plain hgd fun _ hK => ?_
  unfold Oper.wp execOp
  simp only [ho, Sem.run_bind, List.map_toArray, List.map_cons, List.map_nil, hx, mk_row1, Result.andThen_ok]
  exact hK _ _ h
theorem made_b3 (w : World) (f : Fl3) (ao : Option Addr) (n c : Nat) (hf : f.v = .slice ao n c) : B3 (w.alloc (.cells #[encStr f.nm, .slice ao n c, .int .i64 (f.l : Int)] 110)) (.slice (some ⟨w.heap.size, 0, none⟩) 1 1) [f] := by
  refine Or.inr ⟨w.heap.size, 0, 1, rfl, fun j u hu => ?_⟩
  rw [cell_of_row _ _ _ _ _ _ (heap_alloc_new w _)]
  simpa [cells3, Fl3.cells, hf] using hu
theorem cells3_setB (L : List Fl3) (k : Nat) (f : Fl3) (v' : Value) (zs' : List Int) (h : L[k]? = some f) : cells3 (L.set k ⟨f.nm, v', zs', f.l⟩) = (cells3 L).set (k * 3 + 1) v' := by
  rw [cells3_setF L k f ⟨f.nm, v', zs', f.l⟩ h rfl]
  have h2 := cells3_get L k 2 f h (by omega)
  simp only [Fl3.cells, List.getElem?_cons_succ, List.getElem?_cons_zero] at h2
  have h3 : ((cells3 L).set (k * 3 + 1) v')[k * 3 + 2]? = some (.int .i64 (f.l : Int)) := by
    rw [List.getElem?_set_ne (by omega)]; exact h2
  obtain ⟨hi, e⟩ := List.getElem?_eq_some_iff.1 h3
  rw [← e, List.set_getElem_self]
theorem Rk.setB {w : World} {base wb g cap : Nat} {room left : Int} {L : List Fl3} {k : Nat} {f : Fl3} {v' : Value} {zs' : List Int} (h : Rk w base wb (.slice (some ⟨g, 0, none⟩) L.length cap) room left L) (hf : L[k]? = some f) (ho : Ow w base v' zs') (hz : ∀ z ∈ zs', 0 ≤ z ∧ z < 256) (hn : f.l ≤ zs'.length) (hv : ∀ b, v'.ownBlock = some b → b ≠ wb ∧ b ≠ g) :
    Rk (w.setCell ⟨g, k * 3 + 1, none⟩ v') base wb (.slice (some ⟨g, 0, none⟩) (L.set k ⟨f.nm, v', zs', f.l⟩).length cap) room left (L.set k ⟨f.nm, v', zs', f.l⟩) := by
  have hgw : g ≠ wb := fun e => h.sep (by simp [Value.ownBlock]; exact e)
  refine ⟨?_, ?_, ?_, by simpa using h.few, h.wbb, by simpa [Value.ownBlock] using hgw⟩
  · rw [List.length_set]
    have := h.blk
    unfold Cw at this ⊢
    rw [Below.heap_setCell _ _ _ _ (fun e => hgw e.symm)]
    exact this
  · rw [cells3_setB L k f v' zs' hf, List.length_set]
    exact ownsRow_set h.row _ _
  · intro q hq
    rcases List.mem_or_eq_of_mem_set hq with hm | rfl
    · obtain ⟨h1, h2, h3, h4⟩ := h.each q hm
      exact ⟨ownsRow_other h1 g _ _ (fun e => (h4 g e).2 (by simp [Value.ownBlock])), h2, h3, fun b hb => ⟨(h4 b hb).1, by simpa [Value.ownBlock] using (h4 b hb).2⟩⟩
    · refine ⟨ownsRow_other ho g _ _ (fun e => (hv g e).2 rfl), hz, hn, fun b hb => ⟨(hv b hb).1, ?_⟩⟩
      have := (hv b hb).2
      simp [Value.ownBlock]
      exact fun e => this e.symm
set_option maxHeartbeats 3200000 in
set_option maxRecDepth 20000 in
theorem write3_may (base wb : Nat) (v : Value) (room left : Int) (L : List Fl3) (x : List UInt8) (ap : Option Addr) (cp : Nat) (ps : List Int) (w : World) (h : Rk w base wb v room left L) (hm : mayE left [x] ≠ 0) (hxl : x.length ≤ 140737488355328) :
    Calls Tryz.prog 30 #[.pointer (some ⟨wb, 0, none⟩), encStr x, .slice ap ps.length cp] w fun e w' => e = .returned (.int .i64 (mayE left [x])) ∧ Below w.heap.size w w' := by
  have hA : Below w.heap.size w (w.alloc (.cells #[encStr x] 9)) := (Below.refl _ _).alloc (Nat.le_refl _) _
  have hr := h.below hA
  have hxs : ∀ n ∈ [x], n.length ≤ 140737488355328 := by
    intro n hn
    have e : n = x := by simpa using hn
    rw [e]; exact hxl
  have hxc := one_str w x
  have C1 := may_any wb w.heap.size 1 room _ left [x] _ hr.blk (by simp) hxs hxc
  generalize mayE left [x] = er at *
  have hm' : (er != 0) = true := by simpa using hm
  go_enter Tryz.func30, Tryz.ntmps30
  go_wp2_with (first | (refine wpList_made_str _ rfl (.tmp 12) rfl x rfl ?_) | (go_at_call 68; refine C1.mono ?_; rintro e w1 ⟨rfl, rfl⟩))
  go_ret
  exact ⟨rfl, hA⟩
set_option maxHeartbeats 3200000 in
set_option maxRecDepth 20000 in
theorem write3_full (base wb : Nat) (v : Value) (room left : Int) (L : List Fl3) (x : List UInt8) (ap : Option Addr) (cp : Nat) (ps : List Int) (w : World) (h : Rk w base wb v room left L) (hm : mayE left [x] = 0) (hxl : x.length ≤ 140737488355328) (hT : tot3 L ≤ 1099511627776) (hp : ps.length ≤ 140737488355328)
    (hfull : room < (tot3 L : Int) + (ps.length : Int) ∨ ((names3 L)[spotN (names3 L) x]? ≠ some x ∧ 4096 ≤ L.length)) :
    Calls Tryz.prog 30 #[.pointer (some ⟨wb, 0, none⟩), encStr x, .slice ap ps.length cp] w fun e w' => e = .returned (.int .i64 6) ∧ Below w.heap.size w w' := by
  have hA : Below w.heap.size w (w.alloc (.cells #[encStr x] 9)) := (Below.refl _ _).alloc (Nat.le_refl _) _
  have hr := h.below hA
  have hxs : ∀ n ∈ [x], n.length ≤ 140737488355328 := by
    intro n hn
    have e : n = x := by simpa using hn
    rw [e]; exact hxl
  have hxc := one_str w x
  have C1 := may_any wb w.heap.size 1 room _ left [x] _ hr.blk (by simp) hxs hxc
  rw [hm] at C1
  have C2 := spot_any base wb _ room left L x _ hr
  have few := h.few
  have CU := fun (W : World) (hW : Rk W base wb v room left L) => used_any base wb v room left L W hW hT
  have hv : ∃ ao cap, v = .slice ao L.length cap := by
    rcases h.shape with ⟨rfl, rfl⟩ | ⟨g, cap, rfl, _⟩
    · exact ⟨none, 0, rfl⟩
    · exact ⟨_, cap, rfl⟩
  obtain ⟨av, cv, rfl⟩ := hv
  have q1 : IntKind.i64.wrap ((tot3 L : Int) + (ps.length : Int)) = (tot3 L : Int) + (ps.length : Int) := by rw [IntKind.wrap_i64]; omega
  by_cases hbig : room < (tot3 L : Int) + (ps.length : Int)
  · clear hfull
    have g1 : decide ((tot3 L : Int) + (ps.length : Int) > room) = true := by rw [decide_eq_true_eq]; omega
    generalize decide ((names3 L)[spotN (names3 L) x]? = some x) = is at C2
    generalize spotN (names3 L) x = k at *
    generalize tot3 L = tt at *
    go_enter Tryz.func30, Tryz.ntmps30
    go_wp2_with (first | (refine wpList_made_str _ rfl (.tmp 12) rfl x rfl ?_) | (go_at_call 68; refine C1.mono ?_; rintro e w1 ⟨rfl, rfl⟩) | (go_at_call 69; refine C2.mono ?_; rintro e w2 ⟨rfl, hs⟩; have h2 := hr.sm hs; have hcb := h2.blk.cell 1; simp at hcb; have hcr := h2.blk.cell 0; simp at hcr))
    go_quiet ((go_at_call 70; refine Calls.quiet_of_same ((CU _ (h2.sm (Sm.drewN _ _))).mono fun _ _ h => ⟨h.1, h.2.symm⟩)))
    go_wp2_with fail
    go_ret
    exact ⟨rfl, hA.trans ((hs.trans (Sm.drewN _ _)).below _)⟩
  · have hfull2 : (names3 L)[spotN (names3 L) x]? ≠ some x ∧ 4096 ≤ L.length := by
      rcases hfull with e | e
      · exact absurd e hbig
      · exact e
    clear hfull
    have g1 : decide ((tot3 L : Int) + (ps.length : Int) > room) = false := by rw [decide_eq_false_iff_not]; omega
    rw [decide_eq_false hfull2.1] at C2
    have g2 : (4096 : Int) ≤ (L.length : Int) := by have := hfull2.2; omega
    clear hfull2
    generalize spotN (names3 L) x = k at *
    generalize tot3 L = tt at *
    go_enter Tryz.func30, Tryz.ntmps30
    go_wp2_with (first | (refine wpList_made_str _ rfl (.tmp 12) rfl x rfl ?_) | (go_at_call 68; refine C1.mono ?_; rintro e w1 ⟨rfl, rfl⟩) | (go_at_call 69; refine C2.mono ?_; rintro e w2 ⟨rfl, hs⟩; have h2 := hr.sm hs; have hcb := h2.blk.cell 1; simp at hcb; have hcr := h2.blk.cell 0; simp at hcr))
    go_quiet ((go_at_call 70; refine Calls.quiet_of_same ((CU _ (h2.sm (Sm.drewN _ _))).mono fun _ _ h => ⟨h.1, h.2.symm⟩)))
    go_wp2_with fail
    go_ret
    exact ⟨rfl, hA.trans ((hs.trans (Sm.drewN _ _)).below _)⟩
end Go.Proofs.YtnkjhooeklodcaaGreatDoor
end
