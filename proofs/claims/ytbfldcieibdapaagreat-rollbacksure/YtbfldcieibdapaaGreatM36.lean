/-
  Joined from: InRNew, InRQueue, InRGet, InRKnown.
-/
import Derived.Test.YtbfldcieibdapaaGreatM10
section
/-
  The document's Queue (Rq), and New.
-/
namespace Go.Proofs.YtbfldcieibdapaaGreat.In
open Go.RowKit
def cellsI (l : List Pl) : List Value := l.map fun x => .int .u16 x.1
def cellsB (l : List Pl) : List Value := l.map fun x => .bool x.2
theorem cellsI_at {l : List Pl} {i : Nat} (h : i < l.length) : (cellsI l)[i]? = some (.int .u16 (at0 l i).1) := by simp [cellsI, at0_some h]
theorem cellsB_at {l : List Pl} {i : Nat} (h : i < l.length) : (cellsB l)[i]? = some (.bool (at0 l i).2) := by simp [cellsB, at0_some h]
theorem cellsI_set (l : List Pl) (i : Nat) (x : Pl) : (cellsI l).set i (.int .u16 x.1) = cellsI (l.set i x) := by simp [cellsI, List.map_set]
theorem cellsB_set (l : List Pl) (i : Nat) (x : Pl) : (cellsB l).set i (.bool x.2) = cellsB (l.set i x) := by simp [cellsB, List.map_set]
/-- The document's Queue at block rb, its rows in blocks a0, a1 (inputs), b0, b1 (marks), all its blocks in lo .. hi. -/
structure Rq (w : World) (lo hi rb a0 a1 b0 b1 : Nat) (l0 l1 : List Pl) : Prop where
  q : Cw w rb [.int .i64 (l0.length : Int), slR a0 l0.length, slR a1 l0.length, slR b0 l0.length, slR b1 l0.length] 116
  i0 : Cw w a0 (cellsI l0) 36
  i1 : Cw w a1 (cellsI l1) 36
  s0 : Cw w b0 (cellsB l0) 4
  s1 : Cw w b1 (cellsB l1) 4
  len : l1.length = l0.length
  n1 : 1 ≤ l0.length
  n2 : l0.length ≤ 600
  nd : [rb, a0, a1, b0, b1].Nodup
  inn : ∀ k ∈ [rb, a0, a1, b0, b1], lo ≤ k ∧ k < hi
theorem Rq.keep {w w' : World} {lo hi rb a0 a1 b0 b1 : Nat} {l0 l1 : List Pl} (h : Rq w lo hi rb a0 a1 b0 b1 l0 l1) (hk : ∀ k, lo ≤ k → k < hi → w'.heap[k]? = w.heap[k]?) : Rq w' lo hi rb a0 a1 b0 b1 l0 l1 := by
  have f : ∀ k ∈ [rb, a0, a1, b0, b1], w'.heap[k]? = w.heap[k]? := fun k hm => hk k (h.inn k hm).1 (h.inn k hm).2
  exact ⟨h.q.keep (f _ (by simp)), h.i0.keep (f _ (by simp)), h.i1.keep (f _ (by simp)), h.s0.keep (f _ (by simp)), h.s1.keep (f _ (by simp)), h.len, h.n1, h.n2, h.nd, h.inn⟩
theorem info31 : (Tryz.prog.info? 36).map (fun i => (i.zero, i.size, i.bytes)) = some (some (.int .u16 0), 1, 2) := by kernel_rfl
theorem info4 : (Tryz.prog.info? 4).map (fun i => (i.zero, i.size, i.bytes)) = some (some (.bool false), 1, 1) := by kernel_rfl
theorem made_rep (v : Value) (n : Nat) : madeCells #[v] n = (List.replicate n v).toArray := by
  apply Array.ext
  · simp [madeCells]
  · intro i h1 h2
    simp [madeCells, Nat.mod_one]
theorem made44 (n : Nat) (hn : n ≤ 600) (w : World) : (Instr.makeSlice 55 (.int .i64 (n : Int)) (.int .i64 (n : Int))).run Tryz.prog w = .ok (.slice (some ⟨w.heap.size, 0, none⟩) n n) (w.alloc (.cells (cellsI (zeros n)).toArray 36)) := by
  obtain ⟨i0, hi, hz0, hz1, hz2⟩ := info_parts info31
  have h := run_make (P := Tryz.prog) w 55 36 i0 _ Tryz.underlying55 hi hz0 .i64 .i64 (n : Int) (n : Int) (by omega) (Int.le_refl _) (by rw [hz2]; omega) (by omega)
  rw [hz1] at h
  simp only [Int.toNat_natCast, Nat.mul_one] at h
  rw [h, show (Value.int .u16 0).cells = #[Value.int .u16 0] from rfl, made_rep]
  simp [cellsI, zeros]
theorem made57 (n : Nat) (hn : n ≤ 600) (w : World) : (Instr.makeSlice 58 (.int .i64 (n : Int)) (.int .i64 (n : Int))).run Tryz.prog w = .ok (.slice (some ⟨w.heap.size, 0, none⟩) n n) (w.alloc (.cells (cellsB (zeros n)).toArray 4)) := by
  obtain ⟨i0, hi, hz0, hz1, hz2⟩ := info_parts info4
  have h := run_make (P := Tryz.prog) w 58 4 i0 _ Tryz.underlying58 hi hz0 .i64 .i64 (n : Int) (n : Int) (by omega) (Int.le_refl _) (by rw [hz2]; omega) (by omega)
  rw [hz1] at h
  simp only [Int.toNat_natCast, Nat.mul_one] at h
  rw [h, show (Value.bool false).cells = #[Value.bool false] from rfl, made_rep]
  simp [cellsB, zeros]
theorem rnew_no (w : World) (n : Int) (h : n < 1 ∨ 600 < n) : Calls Tryz.prog 33 #[.int .i64 n] w fun e w' => e = .returned (.tuple #[.pointer none, .int .i64 1]) ∧ w' = w := by
  by_cases h1 : n < 1
  · clear h
    go_enter Tryz.func33, Tryz.ntmps33
    go_wp2_with fail
    go_ret2
    exact ⟨rfl, rfl⟩
  · have h2 : 600 < n := by omega
    clear h
    go_enter Tryz.func33, Tryz.ntmps33
    go_wp2_with fail
    go_ret2
    exact ⟨rfl, rfl⟩
/-- The document's Queue, half made. -/
def Sk (w wr : World) (n k : Nat) : Prop :=
  Below w.heap.size w wr ∧ wr.heap.size = w.heap.size + 1 + k * 2 ∧
  Cw wr w.heap.size [.int .i64 (n : Int), if 0 < k then slR (w.heap.size + 1) n else .slice none 0 0, if 1 < k then slR (w.heap.size + 3) n else .slice none 0 0, if 0 < k then slR (w.heap.size + 2) n else .slice none 0 0, if 1 < k then slR (w.heap.size + 4) n else .slice none 0 0] 116 ∧
  (0 < k → Cw wr (w.heap.size + 1) (cellsI (zeros n)) 36 ∧ Cw wr (w.heap.size + 2) (cellsB (zeros n)) 4) ∧ (1 < k → Cw wr (w.heap.size + 3) (cellsI (zeros n)) 36 ∧ Cw wr (w.heap.size + 4) (cellsB (zeros n)) 4)
/-- A row laid in a new block, and its place written down. -/
theorem laid {w wr : World} {g i : Nat} {cs ds : List Value} {t u : TypeId} {v : Value} (hc : Cw wr g cs t) (hb : Below w.heap.size w wr) (hg : w.heap.size ≤ g) : Cw ((wr.setCell ⟨g, i, none⟩ v).alloc (.cells ds.toArray u)).drew g (cs.set i v) t ∧ Cw ((wr.setCell ⟨g, i, none⟩ v).alloc (.cells ds.toArray u)).drew wr.heap.size ds u ∧ Below w.heap.size w ((wr.setCell ⟨g, i, none⟩ v).alloc (.cells ds.toArray u)).drew ∧ ((wr.setCell ⟨g, i, none⟩ v).alloc (.cells ds.toArray u)).drew.heap.size = wr.heap.size + 1 ∧ (∀ k es x, k ≠ g → Cw wr k es x → Cw ((wr.setCell ⟨g, i, none⟩ v).alloc (.cells ds.toArray u)).drew k es x) := by
  have ho := Only.set g i wr v
  have hn := Cw.new (wr.setCell ⟨g, i, none⟩ v) ds u
  rw [ho.size] at hn
  refine ⟨(hc.set i v).alloc _, hn, ((hb.trans (ho.below hg)).alloc (Nat.le_trans hb.size (by rw [ho.size]; exact Nat.le_refl _)) _).drew, ?_, fun k es x hk h => ((ho.cw h hk).alloc _)⟩
  show (World.alloc _ _).heap.size = _
  rw [World.size_alloc, ho.size]
set_option maxHeartbeats 1000000 in
theorem rnew_any (w : World) (n : Nat) (h1 : 1 ≤ n) (h2 : n ≤ 600) : Calls Tryz.prog 33 #[.int .i64 (n : Int)] w fun e w' => ∃ rb a0 a1 b0 b1, e = .returned (.tuple #[.pointer (some ⟨rb, 0, none⟩), .int .i64 0]) ∧ Rq w' w.heap.size (w.heap.size + 5) rb a0 a1 b0 b1 (zeros n) (zeros n) ∧ Below w.heap.size w w' ∧ w'.heap.size = w.heap.size + 5 := by
  have m := made44 n h2
  have m' := made57 n h2
  have hn1 : ¬ (n : Int) < 1 := by omega
  have hn2 : ¬ 600 < (n : Int) := by omega
  go_enter Tryz.func33, Tryz.ntmps33
  go_wp2_with fail
  go_loopw [5] (fun x wr => ∃ k : Nat, k ≤ 2 ∧ x = .int .i64 (k : Int) ∧ Hid (Sk w wr n k)) (fun x _ => 2 - (intOf x).toNat)
  case atStart =>
    refine ⟨0, by decide, rfl, (Below.refl _ _).alloc (Nat.le_refl _) _, World.size_alloc _ _, Cw.new _ _ _, fun h => absurd h (by decide), fun h => absurd h (by decide)⟩
  case round =>
    obtain ⟨k, hk, rfl, hb, hs, hc, hr0, hr1⟩ := hrel
    obtain rfl | rfl | rfl : k = 0 ∨ k = 1 ∨ k = 2 := by omega
    · simp only [Nat.lt_irrefl, if_false, Nat.not_lt_zero] at hc
      have e1 := hc.cell 1
      have e3 := hc.cell 3
      have z1 := hc.frozen 1
      have z3 := hc.frozen 3
      simp only [List.getElem?_cons_succ, List.getElem?_cons_zero] at e1 e3
      have HC := hid_into hc
      have HB := hid_into hb
      clear hc hb hr0 hr1
      simp only [Nat.zero_mul, Nat.add_zero] at hs
      go_wp2_with fail
      go_region
      obtain ⟨c1, c2, c3, c4, _⟩ := laid (i := 1) (ds := cellsI (zeros n)) (u := 36) (v := .slice (some ⟨w.heap.size + 1, 0, none⟩) n n) HC.out HB.out (Nat.le_refl _)
      rw [hs] at c2 c4
      generalize HW : ((wr.setCell ⟨w.heap.size, 1, none⟩ (.slice (some ⟨w.heap.size + 1, 0, none⟩) n n)).alloc (Obj.cells (cellsI (zeros n)).toArray 36)).drew = W1 at *
      clear HW hs e1 e3 z1 z3 HC HB
      have e3 := c1.cell 3
      have z3 := c1.frozen 3
      simp only [List.set_cons_succ, List.set_cons_zero, List.getElem?_cons_succ, List.getElem?_cons_zero] at e3
      have HC := hid_into c1
      have HB := hid_into c3
      have H2 := hid_into c2
      clear c1 c2 c3
      go_wp2_with fail
      go_region
      go_wp2_with fail
      go_roundw
      case rel =>
        obtain ⟨d1, d2, d3, d4, d5⟩ := laid (i := 3) (ds := cellsB (zeros n)) (u := 4) (v := .slice (some ⟨w.heap.size + 2, 0, none⟩) n n) HC.out HB.out (Nat.le_refl _)
        rw [c4] at d2 d4
        exact ⟨1, by decide, rfl, d3, d4, d1, fun _ => ⟨d5 _ _ _ (by omega) H2.out, d2⟩, fun h => absurd h (by decide)⟩
      case measure => decide
    · obtain ⟨r1, r2⟩ := hr0 (by decide)
      simp only [Nat.lt_irrefl, if_false, Nat.zero_lt_one, if_true] at hc
      have e1 := hc.cell 2
      have e3 := hc.cell 4
      have z1 := hc.frozen 2
      have z3 := hc.frozen 4
      simp only [List.getElem?_cons_succ, List.getElem?_cons_zero] at e1 e3
      have HC := hid_into hc
      have HB := hid_into hb
      have R1 := hid_into r1
      have R2 := hid_into r2
      clear hc hb hr0 hr1 r1 r2
      simp only [Nat.one_mul, Nat.add_assoc, Nat.reduceAdd] at hs
      go_wp2_with fail
      go_region
      obtain ⟨c1, c2, c3, c4, c5⟩ := laid (i := 2) (ds := cellsI (zeros n)) (u := 36) (v := .slice (some ⟨w.heap.size + 3, 0, none⟩) n n) HC.out HB.out (Nat.le_refl _)
      rw [hs] at c2 c4
      have r1 := c5 _ _ _ (by omega) R1.out
      have r2 := c5 _ _ _ (by omega) R2.out
      generalize HW : ((wr.setCell ⟨w.heap.size, 2, none⟩ (.slice (some ⟨w.heap.size + 3, 0, none⟩) n n)).alloc (Obj.cells (cellsI (zeros n)).toArray 36)).drew = W1 at *
      clear HW hs e1 e3 z1 z3 HC HB R1 R2 c5
      have e3 := c1.cell 4
      have z3 := c1.frozen 4
      simp only [List.set_cons_succ, List.set_cons_zero, List.getElem?_cons_succ, List.getElem?_cons_zero] at e3
      have HC := hid_into c1
      have HB := hid_into c3
      have H2 := hid_into c2
      have R1 := hid_into r1
      have R2 := hid_into r2
      clear c1 c2 c3 r1 r2
      go_wp2_with fail
      go_region
      go_wp2_with fail
      go_roundw
      case rel =>
        obtain ⟨d1, d2, d3, d4, d5⟩ := laid (i := 4) (ds := cellsB (zeros n)) (u := 4) (v := .slice (some ⟨w.heap.size + 4, 0, none⟩) n n) HC.out HB.out (Nat.le_refl _)
        rw [c4] at d2 d4
        exact ⟨2, by decide, rfl, d3, d4, d1, fun _ => ⟨d5 _ _ _ (by omega) R1.out, d5 _ _ _ (by omega) R2.out⟩, fun _ => ⟨d5 _ _ _ (by omega) H2.out, d2⟩⟩
      case measure => decide
    · have HC := hid_into hc
      have HB := hid_into hb
      obtain ⟨r1, r2⟩ := hr0 (by decide)
      obtain ⟨r3, r4⟩ := hr1 (by decide)
      have HS := hid_into hs
      clear hc hb hr0 hr1 hs
      go_wp2_with fail
      go_ret2
      refine ⟨w.heap.size, w.heap.size + 1, w.heap.size + 3, w.heap.size + 2, w.heap.size + 4, rfl, ⟨?_, r1, r3, r2, r4, rfl, by rw [zeros_len]; exact h1, by rw [zeros_len]; exact h2, ?_, ?_⟩, HB.out, HS.out⟩
      · rw [zeros_len]
        exact HC.out
      · simp
      · intro k hk
        simp at hk
        omega
end Go.Proofs.YtbfldcieibdapaaGreat.In
end

section
/-
  The document's Put, Get, Known, Both, by contracts.
-/
namespace Go.Proofs.YtbfldcieibdapaaGreat.In
open Go.RowKit
variable {w w' : World} {lo hi rb a0 a1 b0 b1 : Nat} {l0 l1 : List Pl}
theorem none_p (b : Addr) (w : World) (p f : Int) (h : p < 0 ∨ 1 < p) : Calls Tryz.prog 61 #[.pointer (some b), .int .i64 p, .int .i64 f] w fun e w' => e = .returned (.bool true) ∧ w' = w := by
  by_cases h1 : p < 0
  · clear h
    go_enter Tryz.func61, Tryz.ntmps61
    go_wp2_with fail
    go_ret
    exact ⟨rfl, rfl⟩
  · have h2 : 1 < p := by omega
    clear h
    go_enter Tryz.func61, Tryz.ntmps61
    go_wp2_with fail
    go_ret
    exact ⟨rfl, rfl⟩
theorem none_any (h : Rq w lo hi rb a0 a1 b0 b1 l0 l1) (p f : Int) (hp : 0 ≤ p) (hp2 : p ≤ 1) : Calls Tryz.prog 61 #[.pointer (some ⟨rb, 0, none⟩), .int .i64 p, .int .i64 f] w fun e w' => e = .returned (.bool (decide (f < 0 ∨ (l0.length : Int) ≤ f))) ∧ w' = w := by
  have c := h.q.cell 0
  simp only [List.getElem?_cons_zero] at c
  generalize l0.length = n at *
  clear h
  by_cases h3 : f < 0
  · rw [decide_eq_true (Or.inl h3)]
    go_enter Tryz.func61, Tryz.ntmps61
    go_wp2_with fail
    go_ret
    exact ⟨rfl, rfl⟩
  · by_cases h4 : (n : Int) ≤ f
    · rw [decide_eq_true (Or.inr h4)]
      go_enter Tryz.func61, Tryz.ntmps61
      go_wp2_with fail
      go_ret
      exact ⟨rfl, rfl⟩
    · rw [decide_eq_false (by omega)]
      have q1 : decide (p < 0) = false := by simp; omega
      have q2 : decide (1 < p) = false := by simp; omega
      have q3 : decide ((n : Int) ≤ f) = false := by simp; omega
      clear h4
      go_enter Tryz.func61, Tryz.ntmps61
      go_wp2_with fail
      go_ret
      exact ⟨rfl, rfl⟩
theorem rput_no (b : Addr) (w : World) (p f x : Int) (h : p < 0 ∨ 1 < p) : Calls Tryz.prog 39 #[.pointer (some b), .int .i64 p, .int .i64 f, .int .u16 x] w fun e w' => e = .returned (.int .i64 1) ∧ w' = w := by
  have HP := hid_into h
  clear h
  go_enter Tryz.func39, Tryz.ntmps39
  go_wp2_with (go_at_call 61; refine (none_p _ _ _ _ HP.out).mono ?_; rintro e w1 ⟨rfl, rfl⟩)
  go_ret
  exact ⟨rfl, rfl⟩
theorem rput_out' (h : Rq w lo hi rb a0 a1 b0 b1 l0 l1) (p f x : Int) (hp : 0 ≤ p) (hp2 : p ≤ 1) (hf : f < 0 ∨ (l0.length : Int) ≤ f) : Calls Tryz.prog 39 #[.pointer (some ⟨rb, 0, none⟩), .int .i64 p, .int .i64 f, .int .u16 x] w fun e w' => e = .returned (.int .i64 1) ∧ w' = w := by
  have C := none_any h p f hp hp2
  rw [decide_eq_true hf] at C
  have HC := hid_into C
  clear C hf h
  go_enter Tryz.func39, Tryz.ntmps39
  go_wp2_with (go_at_call 61; refine HC.out.mono ?_; rintro e w1 ⟨rfl, rfl⟩)
  go_ret
  exact ⟨rfl, rfl⟩
/-- What stands beside one player's rows. -/
theorem Rq.set0 (h : Rq w lo hi rb a0 a1 b0 b1 l0 l1) {k : Nat} (x : Int) : Rq ((w.setCell ⟨b0, k, none⟩ (.bool true)).setCell ⟨a0, k, none⟩ (.int .u16 x)) lo hi rb a0 a1 b0 b1 (l0.set k (x, true)) l1 := by
  have hn := h.nd
  simp only [List.nodup_cons, List.mem_cons, List.not_mem_nil, or_false, not_or] at hn
  obtain ⟨⟨n1, n2, n3, n4⟩, ⟨n5, n6, n7⟩, ⟨n8, n9⟩, n10, _⟩ := hn
  have o1 := Only.set b0 k w (.bool true)
  have o2 := Only.set a0 k (w.setCell ⟨b0, k, none⟩ (.bool true)) (.int .u16 x)
  refine ⟨?_, ?_, o2.cw (o1.cw h.i1 (by omega)) (by omega), ?_, o2.cw (o1.cw h.s1 (by omega)) (by omega), by rw [List.length_set]; exact h.len, by rw [List.length_set]; exact h.n1, by rw [List.length_set]; exact h.n2, h.nd, h.inn⟩
  · rw [List.length_set]; exact o2.cw (o1.cw h.q (by omega)) (by omega)
  · rw [← cellsI_set]; exact (o1.cw h.i0 (by omega)).set k _
  · rw [← cellsB_set]; exact o2.cw (h.s0.set k _) (by omega)
theorem Rq.set1 (h : Rq w lo hi rb a0 a1 b0 b1 l0 l1) {k : Nat} (x : Int) : Rq ((w.setCell ⟨b1, k, none⟩ (.bool true)).setCell ⟨a1, k, none⟩ (.int .u16 x)) lo hi rb a0 a1 b0 b1 l0 (l1.set k (x, true)) := by
  have hn := h.nd
  simp only [List.nodup_cons, List.mem_cons, List.not_mem_nil, or_false, not_or] at hn
  obtain ⟨⟨n1, n2, n3, n4⟩, ⟨n5, n6, n7⟩, ⟨n8, n9⟩, n10, _⟩ := hn
  have o1 := Only.set b1 k w (.bool true)
  have o2 := Only.set a1 k (w.setCell ⟨b1, k, none⟩ (.bool true)) (.int .u16 x)
  refine ⟨o2.cw (o1.cw h.q (by omega)) (by omega), o2.cw (o1.cw h.i0 (by omega)) (by omega), ?_, o2.cw (o1.cw h.s0 (by omega)) (by omega), ?_, by rw [List.length_set]; exact h.len, h.n1, h.n2, h.nd, h.inn⟩
  · rw [← cellsI_set]; exact (o1.cw h.i1 (by omega)).set k _
  · rw [← cellsB_set]; exact o2.cw (h.s1.set k _) (by omega)
/-- What the document's Put leaves. -/
structure RPutP (w w' : World) (lo hi rb a0 a1 b0 b1 : Nat) (l0 l1 : List Pl) (p f x : Int) : Prop where
  q : Rq w' lo hi rb a0 a1 b0 b1 (if p = 0 then putL l0 f x else l0) (if p = 1 then putL l1 f x else l1)
  og : Og (fun k => lo ≤ k ∧ k < hi) w w'

theorem rput_0 (h : Rq w lo hi rb a0 a1 b0 b1 l0 l1) (k : Nat) (x : Int) (hk : k < l0.length) : Calls Tryz.prog 39 #[.pointer (some ⟨rb, 0, none⟩), .int .i64 0, .int .i64 (k : Int), .int .u16 x] w fun e w' => e = .returned (.int .i64 (putE l0 k x)) ∧ RPutP w w' lo hi rb a0 a1 b0 b1 l0 l1 0 k x := by
  have C := none_any h 0 (k : Int) (by decide) (by decide)
  have hk0 : k < l0.length := by have := h.len; omega
  rw [decide_eq_false (by omega)] at C
  have HC := hid_into C
  clear C
  have hp : putE l0 k x = if (at0 l0 k).2 = true then (if (at0 l0 k).1 = x then 8 else 18) else 0 := by
    unfold putE
    rw [if_neg (by omega), Int.toNat_natCast]
  have hpl : putL l0 k x = if putE l0 k x = 0 then l0.set k (x, true) else l0 := by simp [putL]
  have ci := h.q.cell 1
  have cs := h.q.cell 3
  simp only [List.getElem?_cons_succ, List.getElem?_cons_zero, slR] at ci cs
  have di : w.cell? ⟨a0, k, none⟩ = some (.int .u16 (at0 l0 k).1) := (h.i0.cell _).trans (cellsI_at hk)
  have ds : w.cell? ⟨b0, k, none⟩ = some (.bool (at0 l0 k).2) := (h.s0.cell _).trans (cellsB_at hk)
  have zi := h.i0.frozen k
  have zs := h.s0.frozen k
  have hn := h.nd
  simp only [List.nodup_cons, List.mem_cons, List.not_mem_nil, or_false, not_or] at hn
  obtain ⟨⟨n1, n2, n3, n4⟩, ⟨n5, n6, n7⟩, ⟨n8, n9⟩, n10, _⟩ := hn
  have m1 : ¬ rb = b0 := by omega
  have m2 : ¬ a0 = b0 := by omega
  have m3 : ¬ b0 = a0 := by omega
  clear n1 n2 n3 n4 n5 n6 n7 n8 n9 n10
  have HS := hid_into (h.set0 (k := k) x)
  have HQ := hid_into h
  have hb : (lo ≤ a0 ∧ a0 < hi) ∧ (lo ≤ b0 ∧ b0 < hi) := ⟨h.inn _ (by simp), h.inn _ (by simp)⟩
  clear h
  have HPL := hid_into hpl
  rw [hp]
  have HP := hid_into hp
  clear hp hpl
  have hkn : (k : Int) < (l0.length : Int) := by omega
  generalize l0.length = n at *
  have HA : ∃ A, A = at0 l0 k := ⟨_, rfl⟩
  obtain ⟨⟨y, b⟩, hA⟩ := HA
  rw [← hA] at di ds
  rw [← hA]
  have HP2 := HP.out
  rw [← hA] at HP2
  simp only at di ds HP2
  replace HP2 := hid_into HP2
  clear HP hA hk hk0
  cases b with
  | false =>
    simp only [Bool.false_eq_true, if_false]
    go_enter Tryz.func39, Tryz.ntmps39
    go_wp2_with (go_at_call 61; refine HC.out.mono ?_; rintro e w1 ⟨rfl, hw1⟩; replace hw1 := hw1.symm; subst hw1)
    go_ret
    refine ⟨rfl, ?_, (Og.of (Only.set _ _ _ _) hb.2).trans (Og.of (Only.set _ _ _ _) hb.1)⟩
    have e1 := HP2.out
    simp only [Bool.false_eq_true, if_false] at e1
    rw [if_pos rfl, if_neg (by decide), HPL.out, e1, if_pos rfl]
    exact HS.out
  | true =>
    by_cases e : y = x
    · subst e
      simp only [if_true]
      go_enter Tryz.func39, Tryz.ntmps39
      go_wp2_with (go_at_call 61; refine HC.out.mono ?_; rintro e w1 ⟨rfl, hw1⟩; replace hw1 := hw1.symm; subst hw1)
      go_ret
      refine ⟨rfl, ?_, Og.refl _ _⟩
      have e1 := HP2.out
      simp only [if_true] at e1
      rw [if_pos rfl, if_neg (by decide), HPL.out, e1, if_neg (by decide)]
      exact HQ.out
    · simp only [if_true, if_neg e]
      go_enter Tryz.func39, Tryz.ntmps39
      go_wp2_with (go_at_call 61; refine HC.out.mono ?_; rintro e w1 ⟨rfl, hw1⟩; replace hw1 := hw1.symm; subst hw1)
      go_ret
      refine ⟨rfl, ?_, Og.refl _ _⟩
      have e1 := HP2.out
      simp only [if_true, if_neg e] at e1
      rw [if_pos rfl, if_neg (by decide), HPL.out, e1, if_neg (by decide)]
      exact HQ.out

theorem rput_1 (h : Rq w lo hi rb a0 a1 b0 b1 l0 l1) (k : Nat) (x : Int) (hk : k < l1.length) : Calls Tryz.prog 39 #[.pointer (some ⟨rb, 0, none⟩), .int .i64 1, .int .i64 (k : Int), .int .u16 x] w fun e w' => e = .returned (.int .i64 (putE l1 k x)) ∧ RPutP w w' lo hi rb a0 a1 b0 b1 l0 l1 1 k x := by
  have C := none_any h 1 (k : Int) (by decide) (by decide)
  have hk0 : k < l0.length := by have := h.len; omega
  rw [decide_eq_false (by omega)] at C
  have HC := hid_into C
  clear C
  have hp : putE l1 k x = if (at0 l1 k).2 = true then (if (at0 l1 k).1 = x then 8 else 18) else 0 := by
    unfold putE
    rw [if_neg (by omega), Int.toNat_natCast]
  have hpl : putL l1 k x = if putE l1 k x = 0 then l1.set k (x, true) else l1 := by simp [putL]
  have ci := h.q.cell 2
  have cs := h.q.cell 4
  simp only [List.getElem?_cons_succ, List.getElem?_cons_zero, slR] at ci cs
  have di : w.cell? ⟨a1, k, none⟩ = some (.int .u16 (at0 l1 k).1) := (h.i1.cell _).trans (cellsI_at hk)
  have ds : w.cell? ⟨b1, k, none⟩ = some (.bool (at0 l1 k).2) := (h.s1.cell _).trans (cellsB_at hk)
  have zi := h.i1.frozen k
  have zs := h.s1.frozen k
  have hn := h.nd
  simp only [List.nodup_cons, List.mem_cons, List.not_mem_nil, or_false, not_or] at hn
  obtain ⟨⟨n1, n2, n3, n4⟩, ⟨n5, n6, n7⟩, ⟨n8, n9⟩, n10, _⟩ := hn
  have m1 : ¬ rb = b1 := by omega
  have m2 : ¬ a1 = b1 := by omega
  have m3 : ¬ b1 = a1 := by omega
  clear n1 n2 n3 n4 n5 n6 n7 n8 n9 n10
  have HS := hid_into (h.set1 (k := k) x)
  have HQ := hid_into h
  have hb : (lo ≤ a1 ∧ a1 < hi) ∧ (lo ≤ b1 ∧ b1 < hi) := ⟨h.inn _ (by simp), h.inn _ (by simp)⟩
  clear h
  have HPL := hid_into hpl
  rw [hp]
  have HP := hid_into hp
  clear hp hpl
  have hkn : (k : Int) < (l0.length : Int) := by omega
  generalize l0.length = n at *
  have HA : ∃ A, A = at0 l1 k := ⟨_, rfl⟩
  obtain ⟨⟨y, b⟩, hA⟩ := HA
  rw [← hA] at di ds
  rw [← hA]
  have HP2 := HP.out
  rw [← hA] at HP2
  simp only at di ds HP2
  replace HP2 := hid_into HP2
  clear HP hA hk hk0
  cases b with
  | false =>
    simp only [Bool.false_eq_true, if_false]
    go_enter Tryz.func39, Tryz.ntmps39
    go_wp2_with (go_at_call 61; refine HC.out.mono ?_; rintro e w1 ⟨rfl, hw1⟩; replace hw1 := hw1.symm; subst hw1)
    go_ret
    refine ⟨rfl, ?_, (Og.of (Only.set _ _ _ _) hb.2).trans (Og.of (Only.set _ _ _ _) hb.1)⟩
    have e1 := HP2.out
    simp only [Bool.false_eq_true, if_false] at e1
    rw [if_neg (by decide), if_pos rfl, HPL.out, e1, if_pos rfl]
    exact HS.out
  | true =>
    by_cases e : y = x
    · subst e
      simp only [if_true]
      go_enter Tryz.func39, Tryz.ntmps39
      go_wp2_with (go_at_call 61; refine HC.out.mono ?_; rintro e w1 ⟨rfl, hw1⟩; replace hw1 := hw1.symm; subst hw1)
      go_ret
      refine ⟨rfl, ?_, Og.refl _ _⟩
      have e1 := HP2.out
      simp only [if_true] at e1
      rw [if_neg (by decide), if_pos rfl, HPL.out, e1, if_neg (by decide)]
      exact HQ.out
    · simp only [if_true, if_neg e]
      go_enter Tryz.func39, Tryz.ntmps39
      go_wp2_with (go_at_call 61; refine HC.out.mono ?_; rintro e w1 ⟨rfl, hw1⟩; replace hw1 := hw1.symm; subst hw1)
      go_ret
      refine ⟨rfl, ?_, Og.refl _ _⟩
      have e1 := HP2.out
      simp only [if_true, if_neg e] at e1
      rw [if_neg (by decide), if_pos rfl, HPL.out, e1, if_neg (by decide)]
      exact HQ.out

theorem rput_anyR (h : Rq w lo hi rb a0 a1 b0 b1 l0 l1) (p f x : Int) : Calls Tryz.prog 39 #[.pointer (some ⟨rb, 0, none⟩), .int .i64 p, .int .i64 f, .int .u16 x] w fun e w' => e = .returned (.int .i64 (putE (sel p l0 l1) f x)) ∧ RPutP w w' lo hi rb a0 a1 b0 b1 l0 l1 p f x := by
  by_cases hp : p < 0 ∨ 1 < p
  · rw [sel_no hp, putE_nil]
    refine (rput_no _ w p f x hp).mono ?_
    rintro e w1 ⟨rfl, rfl⟩
    exact ⟨rfl, by rw [if_neg (by omega), if_neg (by omega)]; exact h, Og.refl _ _⟩
  · have hs : (sel p l0 l1).length = l0.length := by
      obtain rfl | rfl : p = 0 ∨ p = 1 := by omega
      · rfl
      · exact h.len
    by_cases hf : f < 0 ∨ (l0.length : Int) ≤ f
    · have h1 : ∀ l : List Pl, l.length = l0.length → putE l f x = 1 := by
        intro l hl
        unfold putE
        rw [hl, if_pos hf]
      have h2 : ∀ l : List Pl, l.length = l0.length → putL l f x = l := by
        intro l hl
        unfold putL
        rw [h1 l hl, if_neg (by decide)]
      rw [h1 _ hs]
      refine (rput_out' h p f x (by omega) (by omega) hf).mono ?_
      rintro e w1 ⟨rfl, rfl⟩
      refine ⟨rfl, ?_, Og.refl _ _⟩
      rw [h2 l0 rfl, h2 l1 h.len, ite_self, ite_self]
      exact h
    · obtain ⟨k, rfl⟩ : ∃ k : Nat, f = (k : Int) := ⟨f.toNat, by omega⟩
      obtain rfl | rfl : p = 0 ∨ p = 1 := by omega
      · exact rput_0 h k x (by omega)
      · exact rput_1 h k x (by have := h.len; omega)
end Go.Proofs.YtbfldcieibdapaaGreat.In
end

section
/-
  The document's Get.
-/
namespace Go.Proofs.YtbfldcieibdapaaGreat.In
open Go.RowKit
variable {w w' : World} {lo hi rb a0 a1 b0 b1 : Nat} {l0 l1 : List Pl}
set_option maxHeartbeats 1000000 in
theorem rgetR_0 (h : Rq w lo hi rb a0 a1 b0 b1 l0 l1) (f : Nat) : Calls Tryz.prog 43 #[.pointer (some ⟨rb, 0, none⟩), .int .i64 0, .int .i64 (f : Int)] w fun e w' => e = .returned (.tuple #[.int .u16 (getP l0 f).1, .bool (getP l0 f).2]) ∧ w' = w := by
  have hL : l0.length = l0.length := rfl
  have c0 := h.q.cell 0
  have ci := h.q.cell 1
  have cs := h.q.cell 3
  simp only [List.getElem?_cons_succ, List.getElem?_cons_zero, slR] at c0 ci cs
  have DI : Hid (∀ k, k < l0.length → w.cell? ⟨a0, k, none⟩ = some (.int .u16 (at0 l0 k).1)) := fun k hk => (h.i0.cell _).trans (cellsI_at (by rw [hL]; exact hk))
  have DS : Hid (∀ k, k < l0.length → w.cell? ⟨b0, k, none⟩ = some (.bool (at0 l0 k).2)) := fun k hk => (h.s0.cell _).trans (cellsB_at (by rw [hL]; exact hk))
  have hn2 := h.n2
  have HG : getP l0 f = getA f (down l0 (min (f + 1) l0.length)) := by
    unfold getP
    rw [if_neg (by omega), Int.toNat_natCast, hL]
  clear h hL
  generalize l0.length = n at *
  rw [HG]
  clear HG
  have hn3 : (n : Int) ≤ 600 := by omega
  by_cases hlt : f < n
  · have hlt2 : (f : Int) < (n : Int) := by omega
    have d1 := DS.out f hlt
    have d0 := DI.out f hlt
    rw [show min (f + 1) n = f + 1 by omega, down]
    generalize hA : at0 l0 f = A at *
    obtain ⟨y, b⟩ := A
    simp only at d0 d1 ⊢
    cases b with
    | true =>
      simp only [if_true, getA, decide_true]
      go_enter Tryz.func43, Tryz.ntmps43
      go_wp2_with fail
      go_ret2
      exact ⟨rfl, rfl⟩
    | false =>
      simp only [Bool.false_eq_true, if_false]
      generalize hR : getA f (down l0 f) = R
      have HR := hid_into hR
      have HA := hid_into hA
      clear hR hA d0
      go_enter Tryz.func43, Tryz.ntmps43
      go_wp2_with fail
      go_loopw [8] (fun x wr => ∃ k : Nat, k ≤ f ∧ x = .int .i64 ((k : Int) - 1) ∧ Hid (getA f (down l0 k) = R) ∧ w = wr) (fun x _ => (intOf x + 1).toNat)
      case atStart => exact ⟨f, Nat.le_refl _, by go_num, HR, rfl⟩
      case round =>
        clear HR
        obtain ⟨k, hk, rfl, HR, rfl⟩ := hrel
        cases k with
        | zero =>
          have h := HR.out
          simp only [down, getA] at h
          subst h
          go_wp2_with fail
          go_ret2
          exact ⟨rfl, rfl⟩
        | succ j =>
          have hj : j < n := by omega
          rw [show ((j + 1 : Nat) : Int) - 1 = (j : Int) by omega]
          have d0 := DI.out j hj
          have d2 := DS.out j hj
          have hj2 : (j : Int) < (n : Int) := by omega
          have h := HR.out
          simp only [down] at h
          cases hb : (at0 l0 j).2 with
          | true =>
            rw [hb] at d2
            rw [if_pos hb] at h
            simp only [getA] at h
            rw [decide_eq_false (show ¬ ((j : Int) = (f : Int)) by omega)] at h
            subst h
            clear hb HR
            go_wp2_with fail
            go_ret2
            exact ⟨rfl, rfl⟩
          | false =>
            rw [hb] at d2
            rw [if_neg (by simp [hb])] at h
            have HR2 := hid_into h
            clear hb HR h
            go_wp2_with fail
            go_roundw
            case rel => exact ⟨j, by omega, by go_num, HR2, trivial⟩
            case measure => simp [intOf]
  · have hlt2 : ¬ (f : Int) < (n : Int) := by omega
    rw [show min (f + 1) n = n by omega]
    generalize hR : getA f (down l0 n) = R
    have HR := hid_into hR
    clear hR
    by_cases hgt : (n : Int) < (f : Int)
    · go_enter Tryz.func43, Tryz.ntmps43
      go_wp2_with fail
      go_loopw [8] (fun x wr => ∃ k : Nat, k ≤ n ∧ x = .int .i64 ((k : Int) - 1) ∧ Hid (getA f (down l0 k) = R) ∧ w = wr) (fun x _ => (intOf x + 1).toNat)
      case atStart => exact ⟨n, Nat.le_refl _, by go_num, HR, rfl⟩
      case round =>
        clear HR
        obtain ⟨k, hk, rfl, HR, rfl⟩ := hrel
        cases k with
        | zero =>
          have h := HR.out
          simp only [down, getA] at h
          subst h
          go_wp2_with fail
          go_ret2
          exact ⟨rfl, rfl⟩
        | succ j =>
          have hj : j < n := by omega
          rw [show ((j + 1 : Nat) : Int) - 1 = (j : Int) by omega]
          have d0 := DI.out j hj
          have d2 := DS.out j hj
          have hj2 : (j : Int) < (n : Int) := by omega
          have h := HR.out
          simp only [down] at h
          cases hb : (at0 l0 j).2 with
          | true =>
            rw [hb] at d2
            rw [if_pos hb] at h
            simp only [getA] at h
            rw [decide_eq_false (show ¬ ((j : Int) = (f : Int)) by omega)] at h
            subst h
            clear hb HR
            go_wp2_with fail
            go_ret2
            exact ⟨rfl, rfl⟩
          | false =>
            rw [hb] at d2
            rw [if_neg (by simp [hb])] at h
            have HR2 := hid_into h
            clear hb HR h
            go_wp2_with fail
            go_roundw
            case rel => exact ⟨j, by omega, by go_num, HR2, trivial⟩
            case measure => simp [intOf]
    · have hgt2 : f = n := by omega
      clear hlt2 hgt hlt
      subst hgt2
      go_enter Tryz.func43, Tryz.ntmps43
      go_wp2_with fail
      go_loopw [8] (fun x wr => ∃ k : Nat, k ≤ f ∧ x = .int .i64 ((k : Int) - 1) ∧ Hid (getA f (down l0 k) = R) ∧ w = wr) (fun x _ => (intOf x + 1).toNat)
      case atStart => exact ⟨f, Nat.le_refl _, by go_num, HR, rfl⟩
      case round =>
        clear HR
        obtain ⟨k, hk, rfl, HR, rfl⟩ := hrel
        cases k with
        | zero =>
          have h := HR.out
          simp only [down, getA] at h
          subst h
          go_wp2_with fail
          go_ret2
          exact ⟨rfl, rfl⟩
        | succ j =>
          have hj : j < f := by omega
          rw [show ((j + 1 : Nat) : Int) - 1 = (j : Int) by omega]
          have d0 := DI.out j hj
          have d2 := DS.out j hj
          have hj2 : (j : Int) < (f : Int) := by omega
          have h := HR.out
          simp only [down] at h
          cases hb : (at0 l0 j).2 with
          | true =>
            rw [hb] at d2
            rw [if_pos hb] at h
            simp only [getA] at h
            rw [decide_eq_false (show ¬ ((j : Int) = (f : Int)) by omega)] at h
            subst h
            clear hb HR
            go_wp2_with fail
            go_ret2
            exact ⟨rfl, rfl⟩
          | false =>
            rw [hb] at d2
            rw [if_neg (by simp [hb])] at h
            have HR2 := hid_into h
            clear hb HR h
            go_wp2_with fail
            go_roundw
            case rel => exact ⟨j, by omega, by go_num, HR2, trivial⟩
            case measure => simp [intOf]

set_option maxHeartbeats 1000000 in
theorem rgetR_1 (h : Rq w lo hi rb a0 a1 b0 b1 l0 l1) (f : Nat) : Calls Tryz.prog 43 #[.pointer (some ⟨rb, 0, none⟩), .int .i64 1, .int .i64 (f : Int)] w fun e w' => e = .returned (.tuple #[.int .u16 (getP l1 f).1, .bool (getP l1 f).2]) ∧ w' = w := by
  have hL : l1.length = l0.length := h.len
  have c0 := h.q.cell 0
  have ci := h.q.cell 2
  have cs := h.q.cell 4
  simp only [List.getElem?_cons_succ, List.getElem?_cons_zero, slR] at c0 ci cs
  have DI : Hid (∀ k, k < l0.length → w.cell? ⟨a1, k, none⟩ = some (.int .u16 (at0 l1 k).1)) := fun k hk => (h.i1.cell _).trans (cellsI_at (by rw [hL]; exact hk))
  have DS : Hid (∀ k, k < l0.length → w.cell? ⟨b1, k, none⟩ = some (.bool (at0 l1 k).2)) := fun k hk => (h.s1.cell _).trans (cellsB_at (by rw [hL]; exact hk))
  have hn2 := h.n2
  have HG : getP l1 f = getA f (down l1 (min (f + 1) l0.length)) := by
    unfold getP
    rw [if_neg (by omega), Int.toNat_natCast, hL]
  clear h hL
  generalize l0.length = n at *
  rw [HG]
  clear HG
  have hn3 : (n : Int) ≤ 600 := by omega
  by_cases hlt : f < n
  · have hlt2 : (f : Int) < (n : Int) := by omega
    have d1 := DS.out f hlt
    have d0 := DI.out f hlt
    rw [show min (f + 1) n = f + 1 by omega, down]
    generalize hA : at0 l1 f = A at *
    obtain ⟨y, b⟩ := A
    simp only at d0 d1 ⊢
    cases b with
    | true =>
      simp only [if_true, getA, decide_true]
      go_enter Tryz.func43, Tryz.ntmps43
      go_wp2_with fail
      go_ret2
      exact ⟨rfl, rfl⟩
    | false =>
      simp only [Bool.false_eq_true, if_false]
      generalize hR : getA f (down l1 f) = R
      have HR := hid_into hR
      have HA := hid_into hA
      clear hR hA d0
      go_enter Tryz.func43, Tryz.ntmps43
      go_wp2_with fail
      go_loopw [8] (fun x wr => ∃ k : Nat, k ≤ f ∧ x = .int .i64 ((k : Int) - 1) ∧ Hid (getA f (down l1 k) = R) ∧ w = wr) (fun x _ => (intOf x + 1).toNat)
      case atStart => exact ⟨f, Nat.le_refl _, by go_num, HR, rfl⟩
      case round =>
        clear HR
        obtain ⟨k, hk, rfl, HR, rfl⟩ := hrel
        cases k with
        | zero =>
          have h := HR.out
          simp only [down, getA] at h
          subst h
          go_wp2_with fail
          go_ret2
          exact ⟨rfl, rfl⟩
        | succ j =>
          have hj : j < n := by omega
          rw [show ((j + 1 : Nat) : Int) - 1 = (j : Int) by omega]
          have d0 := DI.out j hj
          have d2 := DS.out j hj
          have hj2 : (j : Int) < (n : Int) := by omega
          have h := HR.out
          simp only [down] at h
          cases hb : (at0 l1 j).2 with
          | true =>
            rw [hb] at d2
            rw [if_pos hb] at h
            simp only [getA] at h
            rw [decide_eq_false (show ¬ ((j : Int) = (f : Int)) by omega)] at h
            subst h
            clear hb HR
            go_wp2_with fail
            go_ret2
            exact ⟨rfl, rfl⟩
          | false =>
            rw [hb] at d2
            rw [if_neg (by simp [hb])] at h
            have HR2 := hid_into h
            clear hb HR h
            go_wp2_with fail
            go_roundw
            case rel => exact ⟨j, by omega, by go_num, HR2, trivial⟩
            case measure => simp [intOf]
  · have hlt2 : ¬ (f : Int) < (n : Int) := by omega
    rw [show min (f + 1) n = n by omega]
    generalize hR : getA f (down l1 n) = R
    have HR := hid_into hR
    clear hR
    by_cases hgt : (n : Int) < (f : Int)
    · go_enter Tryz.func43, Tryz.ntmps43
      go_wp2_with fail
      go_loopw [8] (fun x wr => ∃ k : Nat, k ≤ n ∧ x = .int .i64 ((k : Int) - 1) ∧ Hid (getA f (down l1 k) = R) ∧ w = wr) (fun x _ => (intOf x + 1).toNat)
      case atStart => exact ⟨n, Nat.le_refl _, by go_num, HR, rfl⟩
      case round =>
        clear HR
        obtain ⟨k, hk, rfl, HR, rfl⟩ := hrel
        cases k with
        | zero =>
          have h := HR.out
          simp only [down, getA] at h
          subst h
          go_wp2_with fail
          go_ret2
          exact ⟨rfl, rfl⟩
        | succ j =>
          have hj : j < n := by omega
          rw [show ((j + 1 : Nat) : Int) - 1 = (j : Int) by omega]
          have d0 := DI.out j hj
          have d2 := DS.out j hj
          have hj2 : (j : Int) < (n : Int) := by omega
          have h := HR.out
          simp only [down] at h
          cases hb : (at0 l1 j).2 with
          | true =>
            rw [hb] at d2
            rw [if_pos hb] at h
            simp only [getA] at h
            rw [decide_eq_false (show ¬ ((j : Int) = (f : Int)) by omega)] at h
            subst h
            clear hb HR
            go_wp2_with fail
            go_ret2
            exact ⟨rfl, rfl⟩
          | false =>
            rw [hb] at d2
            rw [if_neg (by simp [hb])] at h
            have HR2 := hid_into h
            clear hb HR h
            go_wp2_with fail
            go_roundw
            case rel => exact ⟨j, by omega, by go_num, HR2, trivial⟩
            case measure => simp [intOf]
    · have hgt2 : f = n := by omega
      clear hlt2 hgt hlt
      subst hgt2
      go_enter Tryz.func43, Tryz.ntmps43
      go_wp2_with fail
      go_loopw [8] (fun x wr => ∃ k : Nat, k ≤ f ∧ x = .int .i64 ((k : Int) - 1) ∧ Hid (getA f (down l1 k) = R) ∧ w = wr) (fun x _ => (intOf x + 1).toNat)
      case atStart => exact ⟨f, Nat.le_refl _, by go_num, HR, rfl⟩
      case round =>
        clear HR
        obtain ⟨k, hk, rfl, HR, rfl⟩ := hrel
        cases k with
        | zero =>
          have h := HR.out
          simp only [down, getA] at h
          subst h
          go_wp2_with fail
          go_ret2
          exact ⟨rfl, rfl⟩
        | succ j =>
          have hj : j < f := by omega
          rw [show ((j + 1 : Nat) : Int) - 1 = (j : Int) by omega]
          have d0 := DI.out j hj
          have d2 := DS.out j hj
          have hj2 : (j : Int) < (f : Int) := by omega
          have h := HR.out
          simp only [down] at h
          cases hb : (at0 l1 j).2 with
          | true =>
            rw [hb] at d2
            rw [if_pos hb] at h
            simp only [getA] at h
            rw [decide_eq_false (show ¬ ((j : Int) = (f : Int)) by omega)] at h
            subst h
            clear hb HR
            go_wp2_with fail
            go_ret2
            exact ⟨rfl, rfl⟩
          | false =>
            rw [hb] at d2
            rw [if_neg (by simp [hb])] at h
            have HR2 := hid_into h
            clear hb HR h
            go_wp2_with fail
            go_roundw
            case rel => exact ⟨j, by omega, by go_num, HR2, trivial⟩
            case measure => simp [intOf]
end Go.Proofs.YtbfldcieibdapaaGreat.In
end

section
/-
  The document's Get whatever is asked, Known, Both.
-/
namespace Go.Proofs.YtbfldcieibdapaaGreat.In
open Go.RowKit
variable {w w' : World} {lo hi rb a0 a1 b0 b1 : Nat} {l0 l1 : List Pl}
theorem rget_no (b : Addr) (w : World) (p f : Int) (h : p < 0 ∨ 1 < p ∨ f < 0) : Calls Tryz.prog 43 #[.pointer (some b), .int .i64 p, .int .i64 f] w fun e w' => e = .returned (.tuple #[.int .u16 0, .bool false]) ∧ w' = w := by
  by_cases h1 : p < 0
  · clear h
    go_enter Tryz.func43, Tryz.ntmps43
    go_wp2_with fail
    go_ret2
    exact ⟨rfl, rfl⟩
  · by_cases h2 : 1 < p
    · clear h
      go_enter Tryz.func43, Tryz.ntmps43
      go_wp2_with fail
      go_ret2
      exact ⟨rfl, rfl⟩
    · have h3 : f < 0 := by omega
      clear h
      go_enter Tryz.func43, Tryz.ntmps43
      go_wp2_with fail
      go_ret2
      exact ⟨rfl, rfl⟩
theorem rget_anyR (h : Rq w lo hi rb a0 a1 b0 b1 l0 l1) (p f : Int) : Calls Tryz.prog 43 #[.pointer (some ⟨rb, 0, none⟩), .int .i64 p, .int .i64 f] w fun e w' => e = .returned (.tuple #[.int .u16 (getP (sel p l0 l1) f).1, .bool (getP (sel p l0 l1) f).2]) ∧ w' = w := by
  by_cases hp : p < 0 ∨ 1 < p
  · rw [sel_no hp, getP_nil]
    exact rget_no _ w p f (by omega)
  · by_cases hf : f < 0
    · rw [show ∀ l, getP l f = (0, false) from fun l => by simp [getP, hf]]
      exact rget_no _ w p f (by omega)
    · obtain ⟨k, rfl⟩ : ∃ k : Nat, f = (k : Int) := ⟨f.toNat, by omega⟩
      obtain rfl | rfl : p = 0 ∨ p = 1 := by omega
      · exact rgetR_0 h k
      · exact rgetR_1 h k
theorem rknown_no (b : Addr) (w : World) (p : Int) (h : p < 0 ∨ 1 < p) : Calls Tryz.prog 50 #[.pointer (some b), .int .i64 p] w fun e w' => e = .returned (.int .i64 0) ∧ w' = w := by
  by_cases h1 : p < 0
  · clear h
    go_enter Tryz.func50, Tryz.ntmps50
    go_wp2_with fail
    go_ret
    exact ⟨rfl, rfl⟩
  · have h2 : 1 < p := by omega
    clear h
    go_enter Tryz.func50, Tryz.ntmps50
    go_wp2_with fail
    go_ret
    exact ⟨rfl, rfl⟩
set_option maxHeartbeats 1000000 in
theorem rknownR_0 (h : Rq w lo hi rb a0 a1 b0 b1 l0 l1) : Calls Tryz.prog 50 #[.pointer (some ⟨rb, 0, none⟩), .int .i64 0] w fun e w' => e = .returned (.int .i64 (kn l0 : Int)) ∧ w' = w := by
  have hL : l0.length = l0.length := rfl
  have c0 := h.q.cell 0
  have cs := h.q.cell 3
  simp only [List.getElem?_cons_succ, List.getElem?_cons_zero, slR] at c0 cs
  have DS : Hid (∀ k, k < l0.length → w.cell? ⟨b0, k, none⟩ = some (.bool (at0 l0 k).2)) := fun k hk => (h.s0.cell _).trans (cellsB_at (by rw [hL]; exact hk))
  have hn2 := h.n2
  have HN : Hid (kn l0 ≤ l0.length) := by have := kn_le l0; show _ ≤ _; omega
  have HST : Hid (kn l0 < l0.length → (at0 l0 (kn l0)).2 = false) := fun hlt => kn_stop l0 (by omega)
  clear h hL
  generalize l0.length = n at *
  have hn3 : (n : Int) ≤ 600 := by omega
  go_enter Tryz.func50, Tryz.ntmps50
  go_wp2_with fail
  go_loopw [5] (fun x wr => ∃ k : Nat, Hid (k ≤ kn l0) ∧ x = .int .i64 (k : Int) ∧ w = wr) (fun x _ => n - (intOf x).toNat)
  case atStart => exact ⟨0, hid_into (Nat.zero_le _), rfl, rfl⟩
  case round =>
    obtain ⟨k, hk, rfl, rfl⟩ := hrel
    by_cases hlt : k < n
    · have d1 := DS.out k hlt
      have hlt2 : (k : Int) < (n : Int) := by omega
      cases hb : (at0 l0 k).2 with
      | true =>
        rw [hb] at d1
        have hk2 : Hid (k + 1 ≤ kn l0) := by
          show _ ≤ _
          have h1 := hk.out
          rcases Nat.lt_or_ge k (kn l0) with h2 | h2
          · exact h2
          · have h3 : k = kn l0 := by omega
            have h4 := HST.out (by omega)
            rw [← h3, hb] at h4; cases h4
        clear hb
        go_wp2_with fail
        go_roundw
        case rel => exact ⟨k + 1, hk2, by go_num, trivial⟩
        case measure => simp [intOf]; omega
      | false =>
        rw [hb] at d1
        have hk2 : Hid (kn l0 = k) := by
          show _ = _
          have h1 := hk.out
          rcases Nat.lt_or_ge k (kn l0) with h2 | h2
          · rw [kn_mark l0 k h2] at hb; cases hb
          · omega
        clear hb
        go_wp2_with fail
        go_ret
        rw [hk2.out]
        exact ⟨rfl, rfl⟩
    · have hk2 : Hid (kn l0 = k) := by
        show _ = _
        have h1 := hk.out
        have h2 := HN.out
        omega
      have hlt2 : ¬ (k : Int) < (n : Int) := by omega
      go_wp2_with fail
      go_ret
      rw [hk2.out]
      exact ⟨rfl, rfl⟩
set_option maxHeartbeats 1000000 in
theorem rknownR_1 (h : Rq w lo hi rb a0 a1 b0 b1 l0 l1) : Calls Tryz.prog 50 #[.pointer (some ⟨rb, 0, none⟩), .int .i64 1] w fun e w' => e = .returned (.int .i64 (kn l1 : Int)) ∧ w' = w := by
  have hL : l1.length = l0.length := h.len
  have c0 := h.q.cell 0
  have cs := h.q.cell 4
  simp only [List.getElem?_cons_succ, List.getElem?_cons_zero, slR] at c0 cs
  have DS : Hid (∀ k, k < l0.length → w.cell? ⟨b1, k, none⟩ = some (.bool (at0 l1 k).2)) := fun k hk => (h.s1.cell _).trans (cellsB_at (by rw [hL]; exact hk))
  have hn2 := h.n2
  have HN : Hid (kn l1 ≤ l0.length) := by have := kn_le l1; show _ ≤ _; omega
  have HST : Hid (kn l1 < l0.length → (at0 l1 (kn l1)).2 = false) := fun hlt => kn_stop l1 (by omega)
  clear h hL
  generalize l0.length = n at *
  have hn3 : (n : Int) ≤ 600 := by omega
  go_enter Tryz.func50, Tryz.ntmps50
  go_wp2_with fail
  go_loopw [5] (fun x wr => ∃ k : Nat, Hid (k ≤ kn l1) ∧ x = .int .i64 (k : Int) ∧ w = wr) (fun x _ => n - (intOf x).toNat)
  case atStart => exact ⟨0, hid_into (Nat.zero_le _), rfl, rfl⟩
  case round =>
    obtain ⟨k, hk, rfl, rfl⟩ := hrel
    by_cases hlt : k < n
    · have d1 := DS.out k hlt
      have hlt2 : (k : Int) < (n : Int) := by omega
      cases hb : (at0 l1 k).2 with
      | true =>
        rw [hb] at d1
        have hk2 : Hid (k + 1 ≤ kn l1) := by
          show _ ≤ _
          have h1 := hk.out
          rcases Nat.lt_or_ge k (kn l1) with h2 | h2
          · exact h2
          · have h3 : k = kn l1 := by omega
            have h4 := HST.out (by omega)
            rw [← h3, hb] at h4; cases h4
        clear hb
        go_wp2_with fail
        go_roundw
        case rel => exact ⟨k + 1, hk2, by go_num, trivial⟩
        case measure => simp [intOf]; omega
      | false =>
        rw [hb] at d1
        have hk2 : Hid (kn l1 = k) := by
          show _ = _
          have h1 := hk.out
          rcases Nat.lt_or_ge k (kn l1) with h2 | h2
          · rw [kn_mark l1 k h2] at hb; cases hb
          · omega
        clear hb
        go_wp2_with fail
        go_ret
        rw [hk2.out]
        exact ⟨rfl, rfl⟩
    · have hk2 : Hid (kn l1 = k) := by
        show _ = _
        have h1 := hk.out
        have h2 := HN.out
        omega
      have hlt2 : ¬ (k : Int) < (n : Int) := by omega
      go_wp2_with fail
      go_ret
      rw [hk2.out]
      exact ⟨rfl, rfl⟩
theorem rknown_anyR (h : Rq w lo hi rb a0 a1 b0 b1 l0 l1) (p : Int) : Calls Tryz.prog 50 #[.pointer (some ⟨rb, 0, none⟩), .int .i64 p] w fun e w' => e = .returned (.int .i64 (kn (sel p l0 l1) : Int)) ∧ w' = w := by
  by_cases hp : p < 0 ∨ 1 < p
  · rw [sel_no hp]
    exact rknown_no _ w p hp
  · obtain rfl | rfl : p = 0 ∨ p = 1 := by omega
    · exact rknownR_0 h
    · exact rknownR_1 h
theorem rBoth_any (h : Rq w lo hi rb a0 a1 b0 b1 l0 l1) : Calls Tryz.prog 48 #[.pointer (some ⟨rb, 0, none⟩)] w fun e w' => e = .returned (.int .i64 ((min (kn l0) (kn l1) : Nat) : Int)) ∧ w' = w := by
  have C0 := hid_into (rknownR_0 h)
  have C1 := hid_into (rknownR_1 h)
  clear h
  generalize kn l0 = A at *
  generalize kn l1 = C at *
  by_cases e : (C : Int) < (A : Int)
  · rw [Nat.min_eq_right (by omega)]
    go_enter Tryz.func48, Tryz.ntmps48
    go_wp2_with (first
      | (go_at_call_of 50 (Value.int .i64 0); refine C0.out.mono ?_; rintro e w1 ⟨rfl, hw1⟩; replace hw1 := hw1.symm; subst hw1)
      | (go_at_call 50; refine C1.out.mono ?_; rintro e w1 ⟨rfl, hw1⟩; replace hw1 := hw1.symm; subst hw1)
      | (go_at_call 50; refine C0.out.mono ?_; rintro e w1 ⟨rfl, hw1⟩; replace hw1 := hw1.symm; subst hw1))
    go_ret
    exact ⟨rfl, rfl⟩
  · rw [Nat.min_eq_left (by omega)]
    go_enter Tryz.func48, Tryz.ntmps48
    go_wp2_with (first
      | (go_at_call_of 50 (Value.int .i64 0); refine C0.out.mono ?_; rintro e w1 ⟨rfl, hw1⟩; replace hw1 := hw1.symm; subst hw1)
      | (go_at_call 50; refine C1.out.mono ?_; rintro e w1 ⟨rfl, hw1⟩; replace hw1 := hw1.symm; subst hw1)
      | (go_at_call 50; refine C0.out.mono ?_; rintro e w1 ⟨rfl, hw1⟩; replace hw1 := hw1.symm; subst hw1))
    go_ret
    exact ⟨rfl, rfl⟩
end Go.Proofs.YtbfldcieibdapaaGreat.In
end
