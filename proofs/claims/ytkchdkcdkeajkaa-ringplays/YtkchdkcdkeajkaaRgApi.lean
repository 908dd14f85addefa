/-
  takes, New, Frames, Get, Newest of a ring, by contracts.
-/
import Derived.Test.YtkchdkcdkeajkaaRgMem
namespace Go.Proofs.Ytkchdkcdkeajkaa
open Go.RowKit
theorem takes_nil (w : World) (x : Int) : Calls Try.prog 18 #[.pointer none, .int .i64 x] w fun e w' => e = .returned (.bool false) ∧ Sm w w' := by
  go_enter Try.func18, Try.ntmps18
  go_wp2_with fail
  go_ret
  exact ⟨rfl, ⟨rfl, rfl, rfl, rfl⟩⟩
def tkB (a : Nat) (L : List Sp) (x : Int) : Bool := decide (L = [] ∨ ((a : Int) ≤ x ∧ x ≤ ((a + L.length : Nat) : Int)))
set_option maxHeartbeats 1000000 in
theorem takes_any {w : World} {rb pb n a : Nat} {L : List Sp} (h : Rg w rb pb n a L) (x : Int) : Calls Try.prog 18 #[.pointer (some ⟨rb, 0, none⟩), .int .i64 x] w fun e w' => e = .returned (.bool (tkB a L x)) ∧ Sm w w' := by
  have c0 := h.r.cell 0
  simp only [List.getElem?_cons_zero] at c0
  have hn : (((n : Int)) == 0) = false := by rw [beq_eq_false_iff_ne]; have := h.n1; omega
  have hn' : ¬ n = 0 := by have := h.n1; omega
  have CE := hid_into (empty_any h)
  have HX : Hid (∀ w', Sm w w' → w'.cell? ⟨rb, 1, none⟩ = some (.int .i64 (a : Int)) ∧ w'.cell? ⟨rb, 2, none⟩ = some (.int .i64 ((a + L.length : Nat) : Int))) := fun w' hs => by
    have hr := hs.cw h.r
    exact ⟨hr.cell 1, hr.cell 2⟩
  by_cases hl : L = []
  · have e1 : tkB a L x = true := by unfold tkB; simp [hl]
    have e2 : decide (L = []) = true := by simp [hl]
    rw [e1]
    rw [e2] at CE
    clear h hl e1 e2 HX
    go_enter Try.func18, Try.ntmps18
    go_wp2_with (go_at_call 19; refine CE.out.mono ?_; rintro e w1 ⟨rfl, hs1⟩)
    go_ret
    exact ⟨rfl, hs1⟩
  · have e2 : decide (L = []) = false := by simp [hl]
    rw [e2] at CE
    by_cases h1 : x < (a : Int)
    · have e1 : tkB a L x = false := by unfold tkB; simp [hl]; omega
      rw [e1]
      have h1' : ¬ (a : Int) ≤ x := by omega
      clear h hl e1 e2
      generalize ((a + L.length : Nat) : Int) = y at *
      generalize (a : Int) = z at *
      go_enter Try.func18, Try.ntmps18
      go_wp2_with (go_at_call 19; refine CE.out.mono ?_; rintro e w1 ⟨rfl, hs1⟩; obtain ⟨c1, c2⟩ := HX.out _ hs1)
      go_ret
      exact ⟨rfl, hs1⟩
    · by_cases h2 : ((a + L.length : Nat) : Int) < x
      · have e1 : tkB a L x = false := by unfold tkB; simp [hl]; omega
        rw [e1]
        have h1' : (a : Int) ≤ x := by omega
        have h2' : ¬ x ≤ ((a + L.length : Nat) : Int) := by omega
        clear h hl e1 e2
        generalize ((a + L.length : Nat) : Int) = y at *
        generalize (a : Int) = z at *
        go_enter Try.func18, Try.ntmps18
        go_wp2_with (go_at_call 19; refine CE.out.mono ?_; rintro e w1 ⟨rfl, hs1⟩; obtain ⟨c1, c2⟩ := HX.out _ hs1)
        go_ret
        exact ⟨by simp [h2], hs1⟩
      · have e1 : tkB a L x = true := by unfold tkB; simp [hl]; omega
        rw [e1]
        have h1' : (a : Int) ≤ x := by omega
        have h2' : x ≤ ((a + L.length : Nat) : Int) := by omega
        clear h hl e1 e2
        generalize ((a + L.length : Nat) : Int) = y at *
        generalize (a : Int) = z at *
        go_enter Try.func18, Try.ntmps18
        go_wp2_with (go_at_call 19; refine CE.out.mono ?_; rintro e w1 ⟨rfl, hs1⟩; obtain ⟨c1, c2⟩ := HX.out _ hs1)
        go_ret
        exact ⟨rfl, hs1⟩
theorem frames_nil (w : World) : Calls Try.prog 11 #[.pointer none] w fun e w' => e = .returned (.tuple #[.int .i64 (-1), .int .i64 (-1)]) ∧ Sm w w' := by
  have CE := hid_into (empty_nil w)
  go_enter Try.func11, Try.ntmps11
  go_wp2_with (go_at_call 19; refine CE.out.mono ?_; rintro e w1 ⟨rfl, hs1⟩)
  go_ret2
  exact ⟨rfl, hs1⟩
set_option maxHeartbeats 1000000 in
theorem frames_any {w : World} {rb pb n a : Nat} {L : List Sp} (h : Rg w rb pb n a L) : Calls Try.prog 11 #[.pointer (some ⟨rb, 0, none⟩)] w fun e w' => e = .returned (.tuple #[.int .i64 (lstF a L), .int .i64 (gstF a L)]) ∧ Sm w w' := by
  have CE := hid_into (empty_any h)
  have HX : Hid (∀ w', Sm w w' → w'.cell? ⟨rb, 1, none⟩ = some (.int .i64 (a : Int)) ∧ w'.cell? ⟨rb, 2, none⟩ = some (.int .i64 ((a + L.length : Nat) : Int))) := fun w' hs => by
    have hr := hs.cw h.r
    exact ⟨hr.cell 1, hr.cell 2⟩
  by_cases hl : L = []
  · have e2 : decide (L = []) = true := by simp [hl]
    rw [e2] at CE
    rw [show lstF a L = -1 from if_pos hl, show gstF a L = -1 from if_pos hl]
    clear h hl e2 HX
    go_enter Try.func11, Try.ntmps11
    go_wp2_with (go_at_call 19; refine CE.out.mono ?_; rintro e w1 ⟨rfl, hs1⟩)
    go_ret2
    exact ⟨rfl, hs1⟩
  · have e2 : decide (L = []) = false := by simp [hl]
    rw [e2] at CE
    rw [show lstF a L = (a : Int) from if_neg hl, show gstF a L = ((a + L.length : Nat) : Int) - 1 from if_neg hl]
    have ht := h.k.top
    obtain ⟨y, hy⟩ : ∃ y : Int, y = ((a + L.length : Nat) : Int) := ⟨_, rfl⟩
    obtain ⟨z, hz⟩ : ∃ z : Int, z = y - 1 := ⟨_, rfl⟩
    have hw : IntKind.i64.wrap (y - 1) = z := by rw [hz]; simp [IntKind.wrap, IntKind.bits, IntKind.signed]; omega
    rw [← hy] at HX ⊢
    rw [← hz]
    clear h hl e2 hy ht hz
    generalize (a : Int) = x at *
    go_enter Try.func11, Try.ntmps11
    go_wp2_with (go_at_call 19; refine CE.out.mono ?_; rintro e w1 ⟨rfl, hs1⟩; obtain ⟨c1, c2⟩ := HX.out _ hs1)
    go_region
    go_wp2_with fail
    go_ret2
    exact ⟨by simp, ⟨hs1.os, hs1.tape, hs1.output, hs1.heap⟩⟩
theorem cellsS_rep (n : Nat) : madeCells zeroS.toArray (n * 20) = (cellsS (List.replicate n noS)).toArray := by
  have hl : (cellsS (List.replicate n noS)).length = n * 20 := by
    rw [cellsS_len (fun s hs => by rw [List.eq_of_mem_replicate hs]; exact noS_wf)]; simp
  have hz : zeroS.length = 20 := rfl
  apply Array.ext
  · simp [madeCells, hl]
  · intro i h1 h2
    have hi : i < n * 20 := by simpa [madeCells] using h1
    have hj : i % 20 < zeroS.length := by rw [hz]; omega
    have hc := cellsS_at (l := List.replicate n noS) (fun s hs => by rw [List.eq_of_mem_replicate hs]; exact noS_wf) (i / 20) noS (by rw [List.getElem?_replicate_of_lt (by omega)]) (i % 20) _ (List.getElem?_eq_getElem hj)
    rw [show i / 20 * 20 + i % 20 = i by omega] at hc
    have h3 := (List.getElem?_eq_some_iff.1 hc).2
    simp only [madeCells, Array.getElem_map, Array.getElem_range, List.getElem_toArray]
    rw [h3]
    simp only [List.size_toArray, hz, List.getElem!_toArray, List.getElem!_eq_getElem?_getD]
    rw [List.getElem?_eq_getElem hj]
    rfl
theorem made22 (n : Nat) (hn : n ≤ 256) (w : World) : (Instr.makeSlice 22 (.int .i64 (n : Int)) (.int .i64 (n : Int))).run Try.prog w = .ok (.slice (some ⟨w.heap.size, 0, none⟩) n n) (w.alloc (.cells (cellsS (List.replicate n noS)).toArray 35)) := by
  obtain ⟨i0, hi, hz0, hz1, hz2⟩ := info_parts Try.info35
  have h := run_make (P := Try.prog) w 22 35 i0 _ Try.underlying22 hi hz0 .i64 .i64 (n : Int) (n : Int) (by omega) (Int.le_refl _) (by rw [hz2]; omega) (by omega)
  rw [hz1] at h
  simp only [Int.toNat_natCast] at h
  rw [h, ← cellsS_rep]
  rfl
theorem new_no (w : World) (n : Int) (h : n < 1 ∨ 256 < n) : Calls Try.prog 6 #[.int .i64 n] w fun e w' => e = .returned (.tuple #[.pointer none, .int .i64 1]) ∧ w' = w := by
  by_cases h1 : n < 1
  · clear h
    go_enter Try.func6, Try.ntmps6
    go_wp2_with fail
    go_ret2
    exact ⟨rfl, rfl⟩
  · have h2 : 256 < n := by omega
    clear h
    go_enter Try.func6, Try.ntmps6
    go_wp2_with fail
    go_ret2
    exact ⟨rfl, rfl⟩
set_option maxHeartbeats 1000000 in
theorem new_any (w : World) (n : Nat) (h1 : 1 ≤ n) (h2 : n ≤ 256) : Calls Try.prog 6 #[.int .i64 (n : Int)] w fun e w' => e = .returned (.tuple #[.pointer (some ⟨w.heap.size + 1, 0, none⟩), .int .i64 0]) ∧ Rg w' (w.heap.size + 1) w.heap.size n 0 [] ∧ Below w.heap.size w w' ∧ w'.heap.size = w.heap.size + 2 := by
  have m := made22 n h2
  have hn1 : ¬ (n : Int) < 1 := by omega
  have hn2 : ¬ 256 < (n : Int) := by omega
  generalize HP : cellsS (List.replicate n noS) = ps at *
  go_enter Try.func6, Try.ntmps6
  go_wp2_with fail
  go_ret2
  have c1 : Cw (w.alloc (.cells ps.toArray 35)) w.heap.size ps 35 := Cw.new _ _ _
  have c2 := Cw.new (w.alloc (.cells ps.toArray 35)) [.slice (some ⟨w.heap.size, 0, none⟩) n n, .int .i64 0, .int .i64 0] 46
  rw [World.size_alloc] at c2
  refine ⟨rfl, ⟨c2, ⟨List.replicate n noS, by rw [HP]; exact c1.alloc _, Pl.nil n⟩, Rk.nil n, by omega, h1, h2⟩, ((Below.refl _ _).alloc (Nat.le_refl _) _).alloc (by rw [World.size_alloc]; omega) _, by rw [World.size_alloc, World.size_alloc]⟩
end Go.Proofs.Ytkchdkcdkeajkaa
