/-
  Joined from: InNew.
-/
import Derived.Test.YtbfldcieibdapabGreatM03
import Derived.Laws.MakeOwn
import Derived.Deep.RegionHeld3
section
/-
  New: a Queue of so many frames.
-/
namespace Go.Proofs.YtbfldcieibdapabGreat.In
open Go.RowKit
theorem rep2 (n : Nat) : madeCells #[Value.int .u16 0, .bool false] (n * 2) = (cellsR (zeros n)).toArray := by
  apply Array.ext
  · simp [madeCells, cellsR_len, zeros]
  · intro i h1 h2
    have hi : i < n * 2 := by simpa [madeCells] using h1
    have hc := cellsR_at (zeros n) (i / 2) (by rw [zeros_len]; omega)
    rw [zeros_at] at hc
    simp only [madeCells, Array.getElem_map, Array.getElem_range, List.getElem_toArray]
    rcases Nat.mod_two_eq_zero_or_one i with e | e
    · rw [show i / 2 * 2 = i by omega] at hc
      have := List.getElem?_eq_some_iff.1 hc.1
      rw [this.2]
      simp [e]
    · rw [show i / 2 * 2 + 1 = i by omega] at hc
      have := List.getElem?_eq_some_iff.1 hc.2
      rw [this.2]
      simp [e]
theorem info70 : (Tryz.prog.info? 110).map (fun i => (i.zero, i.size, i.bytes)) = some (some (.agg #[.int .u16 0, .bool false]), 2, 4) := by kernel_rfl
theorem made52 (n : Nat) (hn : n ≤ 600) (w : World) : (Instr.makeSlice 84 (.int .i64 (n : Int)) (.int .i64 (n : Int))).run Tryz.prog w = .ok (.slice (some ⟨w.heap.size, 0, none⟩) n n) (w.alloc (.cells (cellsR (zeros n)).toArray 110)) := by
  obtain ⟨i0, hi, hz0, hz1, hz2⟩ := info_parts info70
  have h := run_make (P := Tryz.prog) w 84 110 i0 _ Tryz.underlying84 hi hz0 .i64 .i64 (n : Int) (n : Int) (by omega) (Int.le_refl _) (by rw [hz2]; omega) (by omega)
  rw [hz1] at h
  simp only [Int.toNat_natCast] at h
  rw [h, ← rep2]
  rfl
theorem new_no (w : World) (n : Int) (h : n < 1 ∨ 600 < n) : Calls Tryz.prog 19 #[.int .i64 n] w fun e w' => e = .returned (.tuple #[.pointer none, .int .i64 1]) ∧ w' = w := by
  by_cases h1 : n < 1
  · clear h
    go_enter Tryz.func19, Tryz.ntmps19
    go_wp2_with fail
    go_ret2
    exact ⟨rfl, rfl⟩
  · have h2 : 600 < n := by omega
    clear h
    go_enter Tryz.func19, Tryz.ntmps19
    go_wp2_with fail
    go_ret2
    exact ⟨rfl, rfl⟩
/-- Three new blocks. -/
theorem three (w : World) (a b c : List Value) (ta tb tc : TypeId) : ∃ W, W = ((w.alloc (.cells a.toArray ta)).alloc (.cells b.toArray tb)).alloc (.cells c.toArray tc) ∧ Cw W w.heap.size a ta ∧ Cw W (w.heap.size + 1) b tb ∧ Cw W (w.heap.size + 2) c tc ∧ Below w.heap.size w W ∧ W.heap.size = w.heap.size + 3 := by
  have s1 := World.size_alloc w (.cells a.toArray ta)
  have s2 := World.size_alloc (w.alloc (.cells a.toArray ta)) (.cells b.toArray tb)
  have s3 := World.size_alloc ((w.alloc (.cells a.toArray ta)).alloc (.cells b.toArray tb)) (.cells c.toArray tc)
  have h2 := Cw.new (w.alloc (.cells a.toArray ta)) b tb
  have h3 := Cw.new ((w.alloc (.cells a.toArray ta)).alloc (.cells b.toArray tb)) c tc
  rw [s1] at h2
  rw [s2, s1] at h3
  exact ⟨_, rfl, ((Cw.new w a ta).alloc _).alloc _, h2.alloc _, h3, (((Below.refl _ _).alloc (Nat.le_refl _) _).alloc (by omega) _).alloc (by omega) _, by omega⟩
set_option maxHeartbeats 1000000 in
theorem new_any (w : World) (n : Nat) (h1 : 1 ≤ n) (h2 : n ≤ 600) : Calls Tryz.prog 19 #[.int .i64 (n : Int)] w fun e w' => ∃ qb g0 g1, e = .returned (.tuple #[.pointer (some ⟨qb, 0, none⟩), .int .i64 0]) ∧ Qp w' w.heap.size (w.heap.size + 3) qb g0 g1 (zeros n) (zeros n) ∧ Below w.heap.size w w' ∧ w'.heap.size = w.heap.size + 3 := by
  have m := made52 n h2
  have hn1 : ¬ (n : Int) < 1 := by omega
  have hn2 : ¬ 600 < (n : Int) := by omega
  go_enter Tryz.func19, Tryz.ntmps19
  go_wp2_with fail
  go_region
  · go_wp2_with fail
    go_ret2
    obtain ⟨W, hW, c0, c1, c2, hb, hs⟩ := three w (cellsR (zeros n)) (cellsR (zeros n)) [slR w.heap.size n, slR (w.heap.size + 1) n] 110 110 87
    exact ⟨w.heap.size + 2, w.heap.size, w.heap.size + 1, rfl, ⟨by rw [zeros_len]; rw [hW] at c2; exact c2, by rw [hW] at c0; exact c0, by rw [hW] at c1; exact c1, rfl, by rw [zeros_len]; exact h1, by rw [zeros_len]; exact h2, by omega, by omega, by omega, by omega, by omega, by omega⟩, by rw [hW] at hb; exact hb.drew, by rw [hW] at hs; exact hs⟩
  · go_wp2_with fail
    go_ret2
    obtain ⟨W, hW, c0, c1, c2, hb, hs⟩ := three w (cellsR (zeros n)) (cellsR (zeros n)) [slR (w.heap.size + 1) n, slR w.heap.size n] 110 110 87
    exact ⟨w.heap.size + 2, w.heap.size + 1, w.heap.size, rfl, ⟨by rw [zeros_len]; rw [hW] at c2; exact c2, by rw [hW] at c1; exact c1, by rw [hW] at c0; exact c0, rfl, by rw [zeros_len]; exact h1, by rw [zeros_len]; exact h2, by omega, by omega, by omega, by omega, by omega, by omega⟩, by rw [hW] at hb; exact hb.drew, by rw [hW] at hs; exact hs⟩
end Go.Proofs.YtbfldcieibdapabGreat.In
end
