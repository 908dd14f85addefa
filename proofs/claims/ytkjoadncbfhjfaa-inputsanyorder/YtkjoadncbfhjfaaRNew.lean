/-
  The document's Queue (Rq), and New.
-/
import Derived.Test.YtkjoadncbfhjfaaKnown
namespace Go.Proofs.Ytkjoadncbfhjfaa
open Go.RowKit
def cellsI (l : List Pl) : List Value := l.map fun x => .int .u16 x.1
def cellsB (l : List Pl) : List Value := l.map fun x => .bool x.2
theorem cellsI_at {l : List Pl} {i : Nat} (h : i < l.length) : (cellsI l)[i]? = some (.int .u16 (at0 l i).1) := by simp [cellsI, at0_some h]
theorem cellsB_at {l : List Pl} {i : Nat} (h : i < l.length) : (cellsB l)[i]? = some (.bool (at0 l i).2) := by simp [cellsB, at0_some h]
theorem cellsI_set (l : List Pl) (i : Nat) (x : Pl) : (cellsI l).set i (.int .u16 x.1) = cellsI (l.set i x) := by simp [cellsI, List.map_set]
theorem cellsB_set (l : List Pl) (i : Nat) (x : Pl) : (cellsB l).set i (.bool x.2) = cellsB (l.set i x) := by simp [cellsB, List.map_set]
/-- The document's Queue at block rb, its rows in blocks a0, a1 (inputs), b0, b1 (marks), all its blocks in lo .. hi. -/
structure Rq (w : World) (lo hi rb a0 a1 b0 b1 : Nat) (l0 l1 : List Pl) : Prop where
  q : Cw w rb [.int .i64 (l0.length : Int), slR a0 l0.length, slR a1 l0.length, slR b0 l0.length, slR b1 l0.length] 60
  i0 : Cw w a0 (cellsI l0) 31
  i1 : Cw w a1 (cellsI l1) 31
  s0 : Cw w b0 (cellsB l0) 4
  s1 : Cw w b1 (cellsB l1) 4
  len : l1.length = l0.length
  n1 : 1 ≤ l0.length
  n2 : l0.length ≤ 600
  nd : [rb, a0, a1, b0, b1].Nodup
  inn : ∀ k ∈ [rb, a0, a1, b0, b1], lo ≤ k ∧ k < hi
theorem Rq.keep {w w' : World} {lo hi rb a0 a1 b0 b1 : Nat} {l0 l1 : List Pl} (h : Rq w lo hi rb a0 a1 b0 b1 l0 l1) (hk : ∀ k, lo ≤ k → k < hi → w'.heap[k]? = w.heap[k]?) : Rq w' lo hi rb a0 a1 b0 b1 l0 l1 := by
  have f : ∀ k ∈ [rb, a0, a1, b0, b1], w'.heap[k]? = w.heap[k]? := fun k hm => hk k (h.inn k hm).1 (h.inn k hm).2
  exact ⟨h.q.keep (f _ (by simp)), h.i0.keep (f _ (by simp)), h.i1.keep (f _ (by simp)), h.s0.keep (f _ (by simp)), h.s1.keep (f _ (by simp)), h.len, h.n1, h.n2, h.nd, h.inn⟩
theorem info31 : (Try.prog.info? 31).map (fun i => (i.zero, i.size, i.bytes)) = some (some (.int .u16 0), 1, 2) := by kernel_rfl
theorem info4 : (Try.prog.info? 4).map (fun i => (i.zero, i.size, i.bytes)) = some (some (.bool false), 1, 1) := by kernel_rfl
theorem made_rep (v : Value) (n : Nat) : madeCells #[v] n = (List.replicate n v).toArray := by
  apply Array.ext
  · simp [madeCells]
  · intro i h1 h2
    simp [madeCells, Nat.mod_one]
theorem made44 (n : Nat) (hn : n ≤ 600) (w : World) : (Instr.makeSlice 44 (.int .i64 (n : Int)) (.int .i64 (n : Int))).run Try.prog w = .ok (.slice (some ⟨w.heap.size, 0, none⟩) n n) (w.alloc (.cells (cellsI (zeros n)).toArray 31)) := by
  obtain ⟨i0, hi, hz0, hz1, hz2⟩ := info_parts info31
  have h := run_make (P := Try.prog) w 44 31 i0 _ Try.underlying44 hi hz0 .i64 .i64 (n : Int) (n : Int) (by omega) (Int.le_refl _) (by rw [hz2]; omega) (by omega)
  rw [hz1] at h
  simp only [Int.toNat_natCast, Nat.mul_one] at h
  rw [h, show (Value.int .u16 0).cells = #[Value.int .u16 0] from rfl, made_rep]
  simp [cellsI, zeros]
theorem made57 (n : Nat) (hn : n ≤ 600) (w : World) : (Instr.makeSlice 57 (.int .i64 (n : Int)) (.int .i64 (n : Int))).run Try.prog w = .ok (.slice (some ⟨w.heap.size, 0, none⟩) n n) (w.alloc (.cells (cellsB (zeros n)).toArray 4)) := by
  obtain ⟨i0, hi, hz0, hz1, hz2⟩ := info_parts info4
  have h := run_make (P := Try.prog) w 57 4 i0 _ Try.underlying57 hi hz0 .i64 .i64 (n : Int) (n : Int) (by omega) (Int.le_refl _) (by rw [hz2]; omega) (by omega)
  rw [hz1] at h
  simp only [Int.toNat_natCast, Nat.mul_one] at h
  rw [h, show (Value.bool false).cells = #[Value.bool false] from rfl, made_rep]
  simp [cellsB, zeros]
theorem rnew_no (w : World) (n : Int) (h : n < 1 ∨ 600 < n) : Calls Try.prog 9 #[.int .i64 n] w fun e w' => e = .returned (.tuple #[.pointer none, .int .i64 1]) ∧ w' = w := by
  by_cases h1 : n < 1
  · clear h
    go_enter Try.func9, Try.ntmps9
    go_wp2_with fail
    go_ret2
    exact ⟨rfl, rfl⟩
  · have h2 : 600 < n := by omega
    clear h
    go_enter Try.func9, Try.ntmps9
    go_wp2_with fail
    go_ret2
    exact ⟨rfl, rfl⟩
/-- The document's Queue, half made. -/
def Sk (w wr : World) (n k : Nat) : Prop :=
  Below w.heap.size w wr ∧ wr.heap.size = w.heap.size + 1 + k * 2 ∧
  Cw wr w.heap.size [.int .i64 (n : Int), if 0 < k then slR (w.heap.size + 1) n else .slice none 0 0, if 1 < k then slR (w.heap.size + 3) n else .slice none 0 0, if 0 < k then slR (w.heap.size + 2) n else .slice none 0 0, if 1 < k then slR (w.heap.size + 4) n else .slice none 0 0] 60 ∧
  (0 < k → Cw wr (w.heap.size + 1) (cellsI (zeros n)) 31 ∧ Cw wr (w.heap.size + 2) (cellsB (zeros n)) 4) ∧ (1 < k → Cw wr (w.heap.size + 3) (cellsI (zeros n)) 31 ∧ Cw wr (w.heap.size + 4) (cellsB (zeros n)) 4)
/-- A row laid in a new block, and its place written down. -/
theorem laid {w wr : World} {g i : Nat} {cs ds : List Value} {t u : TypeId} {v : Value} (hc : Cw wr g cs t) (hb : Below w.heap.size w wr) (hg : w.heap.size ≤ g) : Cw ((wr.setCell ⟨g, i, none⟩ v).alloc (.cells ds.toArray u)).drew g (cs.set i v) t ∧ Cw ((wr.setCell ⟨g, i, none⟩ v).alloc (.cells ds.toArray u)).drew wr.heap.size ds u ∧ Below w.heap.size w ((wr.setCell ⟨g, i, none⟩ v).alloc (.cells ds.toArray u)).drew ∧ ((wr.setCell ⟨g, i, none⟩ v).alloc (.cells ds.toArray u)).drew.heap.size = wr.heap.size + 1 ∧ (∀ k es x, k ≠ g → Cw wr k es x → Cw ((wr.setCell ⟨g, i, none⟩ v).alloc (.cells ds.toArray u)).drew k es x) := by
  have ho := Only.set g i wr v
  have hn := Cw.new (wr.setCell ⟨g, i, none⟩ v) ds u
  rw [ho.size] at hn
  refine ⟨(hc.set i v).alloc _, hn, ((hb.trans (ho.below hg)).alloc (Nat.le_trans hb.size (by rw [ho.size]; exact Nat.le_refl _)) _).drew, ?_, fun k es x hk h => ((ho.cw h hk).alloc _)⟩
  show (World.alloc _ _).heap.size = _
  rw [World.size_alloc, ho.size]
set_option maxHeartbeats 1000000 in
theorem rnew_any (w : World) (n : Nat) (h1 : 1 ≤ n) (h2 : n ≤ 600) : Calls Try.prog 9 #[.int .i64 (n : Int)] w fun e w' => ∃ rb a0 a1 b0 b1, e = .returned (.tuple #[.pointer (some ⟨rb, 0, none⟩), .int .i64 0]) ∧ Rq w' w.heap.size (w.heap.size + 5) rb a0 a1 b0 b1 (zeros n) (zeros n) ∧ Below w.heap.size w w' ∧ w'.heap.size = w.heap.size + 5 := by
  have m := made44 n h2
  have m' := made57 n h2
  have hn1 : ¬ (n : Int) < 1 := by omega
  have hn2 : ¬ 600 < (n : Int) := by omega
  go_enter Try.func9, Try.ntmps9
  go_wp2_with fail
  go_loopw [5] (fun x wr => ∃ k : Nat, k ≤ 2 ∧ x = .int .i64 (k : Int) ∧ Hid (Sk w wr n k)) (fun x _ => 2 - (intOf x).toNat)
  case atStart =>
    refine ⟨0, by decide, rfl, (Below.refl _ _).alloc (Nat.le_refl _) _, World.size_alloc _ _, Cw.new _ _ _, fun h => absurd h (by decide), fun h => absurd h (by decide)⟩
  case round =>
    obtain ⟨k, hk, rfl, hb, hs, hc, hr0, hr1⟩ := hrel
    obtain rfl | rfl | rfl : k = 0 ∨ k = 1 ∨ k = 2 := by omega
    · simp only [Nat.lt_irrefl, if_false, Nat.not_lt_zero] at hc
      have e1 := hc.cell 1
      have e3 := hc.cell 3
      have z1 := hc.frozen 1
      have z3 := hc.frozen 3
      simp only [List.getElem?_cons_succ, List.getElem?_cons_zero] at e1 e3
      have HC := hid_into hc
      have HB := hid_into hb
      clear hc hb hr0 hr1
      simp only [Nat.zero_mul, Nat.add_zero] at hs
      go_wp2_with fail
      go_region
      obtain ⟨c1, c2, c3, c4, _⟩ := laid (i := 1) (ds := cellsI (zeros n)) (u := 31) (v := .slice (some ⟨w.heap.size + 1, 0, none⟩) n n) HC.out HB.out (Nat.le_refl _)
      rw [hs] at c2 c4
      generalize HW : ((wr.setCell ⟨w.heap.size, 1, none⟩ (.slice (some ⟨w.heap.size + 1, 0, none⟩) n n)).alloc (Obj.cells (cellsI (zeros n)).toArray 31)).drew = W1 at *
      clear HW hs e1 e3 z1 z3 HC HB
      have e3 := c1.cell 3
      have z3 := c1.frozen 3
      simp only [List.set_cons_succ, List.set_cons_zero, List.getElem?_cons_succ, List.getElem?_cons_zero] at e3
      have HC := hid_into c1
      have HB := hid_into c3
      have H2 := hid_into c2
      clear c1 c2 c3
      go_wp2_with fail
      go_region
      go_wp2_with fail
      go_roundw
      case rel =>
        obtain ⟨d1, d2, d3, d4, d5⟩ := laid (i := 3) (ds := cellsB (zeros n)) (u := 4) (v := .slice (some ⟨w.heap.size + 2, 0, none⟩) n n) HC.out HB.out (Nat.le_refl _)
        rw [c4] at d2 d4
        exact ⟨1, by decide, rfl, d3, d4, d1, fun _ => ⟨d5 _ _ _ (by omega) H2.out, d2⟩, fun h => absurd h (by decide)⟩
      case measure => decide
    · obtain ⟨r1, r2⟩ := hr0 (by decide)
      simp only [Nat.lt_irrefl, if_false, Nat.zero_lt_one, if_true] at hc
      have e1 := hc.cell 2
      have e3 := hc.cell 4
      have z1 := hc.frozen 2
      have z3 := hc.frozen 4
      simp only [List.getElem?_cons_succ, List.getElem?_cons_zero] at e1 e3
      have HC := hid_into hc
      have HB := hid_into hb
      have R1 := hid_into r1
      have R2 := hid_into r2
      clear hc hb hr0 hr1 r1 r2
      simp only [Nat.one_mul, Nat.add_assoc, Nat.reduceAdd] at hs
      go_wp2_with fail
      go_region
      obtain ⟨c1, c2, c3, c4, c5⟩ := laid (i := 2) (ds := cellsI (zeros n)) (u := 31) (v := .slice (some ⟨w.heap.size + 3, 0, none⟩) n n) HC.out HB.out (Nat.le_refl _)
      rw [hs] at c2 c4
      have r1 := c5 _ _ _ (by omega) R1.out
      have r2 := c5 _ _ _ (by omega) R2.out
      generalize HW : ((wr.setCell ⟨w.heap.size, 2, none⟩ (.slice (some ⟨w.heap.size + 3, 0, none⟩) n n)).alloc (Obj.cells (cellsI (zeros n)).toArray 31)).drew = W1 at *
      clear HW hs e1 e3 z1 z3 HC HB R1 R2 c5
      have e3 := c1.cell 4
      have z3 := c1.frozen 4
      simp only [List.set_cons_succ, List.set_cons_zero, List.getElem?_cons_succ, List.getElem?_cons_zero] at e3
      have HC := hid_into c1
      have HB := hid_into c3
      have H2 := hid_into c2
      have R1 := hid_into r1
      have R2 := hid_into r2
      clear c1 c2 c3 r1 r2
      go_wp2_with fail
      go_region
      go_wp2_with fail
      go_roundw
      case rel =>
        obtain ⟨d1, d2, d3, d4, d5⟩ := laid (i := 4) (ds := cellsB (zeros n)) (u := 4) (v := .slice (some ⟨w.heap.size + 4, 0, none⟩) n n) HC.out HB.out (Nat.le_refl _)
        rw [c4] at d2 d4
        exact ⟨2, by decide, rfl, d3, d4, d1, fun _ => ⟨d5 _ _ _ (by omega) R1.out, d5 _ _ _ (by omega) R2.out⟩, fun _ => ⟨d5 _ _ _ (by omega) H2.out, d2⟩⟩
      case measure => decide
    · have HC := hid_into hc
      have HB := hid_into hb
      obtain ⟨r1, r2⟩ := hr0 (by decide)
      obtain ⟨r3, r4⟩ := hr1 (by decide)
      have HS := hid_into hs
      clear hc hb hr0 hr1 hs
      go_wp2_with fail
      go_ret2
      refine ⟨w.heap.size, w.heap.size + 1, w.heap.size + 3, w.heap.size + 2, w.heap.size + 4, rfl, ⟨?_, r1, r3, r2, r4, rfl, by rw [zeros_len]; exact h1, by rw [zeros_len]; exact h2, ?_, ?_⟩, HB.out, HS.out⟩
      · rw [zeros_len]
        exact HC.out
      · simp
      · intro k hk
        simp at hk
        omega
end Go.Proofs.Ytkjoadncbfhjfaa
