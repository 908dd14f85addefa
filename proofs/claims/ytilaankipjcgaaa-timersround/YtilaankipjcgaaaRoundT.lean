/-
  TimersRound: the timers and the counts, side by side.
-/
import Derived.Test.YtilaankipjcgaaaRoundMath
namespace Go.Proofs.Ytilaankipjcgaaa
open Go.RowKit Go.Maps
theorem made_rep (v : Value) (n : Nat) : madeCells #[v] n = (List.replicate n v).toArray := by
  apply Array.ext
  · simp [madeCells]
  · intro i h1 h2
    simp [madeCells, Nat.mod_one]
theorem make_ints (n : Nat) (hn : n ≤ 1000) (w : World) : (Instr.makeSlice 35 (.int .i64 (n : Int)) (.int .i64 (n : Int))).run Try.prog w = .ok (.slice (some ⟨w.heap.size, 0, none⟩) n n) (w.alloc (.cells ((List.replicate n (0 : Int)).map (Value.int .i64)).toArray 3)) := by
  obtain ⟨i0, hi, hz0, hz1, hz2⟩ := info_parts Try.info3
  have h := run_make (P := Try.prog) w 35 3 i0 (.int .i64 0) Try.underlying35 hi hz0 .i64 .i64 (n : Int) (n : Int) (by omega) (Int.le_refl _) (by rw [hz2]; omega) (by omega)
  rw [hz1] at h
  simp only [Int.toNat_natCast, Nat.mul_one] at h
  rw [h, show (Value.int .i64 0).cells = #[Value.int .i64 0] from rfl, made_rep]
  simp
/-- The timers and the counts, side by side. -/
structure Rn (w wr : World) (sb : Nat) (s : List Pr) (cb : Nat) (cs : List Int) (F : Nat → Prop) : Prop where
  t : Tm wr F sb s
  tl : ∀ k, F k → w.heap.size ≤ k ∧ k < wr.heap.size
  c : Cw wr cb (cs.map (Value.int .i64)) 3
  cf : ¬ F cb
  cl : w.heap.size ≤ cb
  b : Below w.heap.size w wr
variable {w wr w2 : World} {sb cb : Nat} {s s' : List Pr} {cs : List Int} {F : Nat → Prop}
theorem Rn.set (h : Rn w wr sb s cb cs F) (ht : Tm w2 (Pl F wr.heap.size) sb s') (hg : Grows F wr w2) : Rn w w2 sb s' cb cs (fun k => Pl F wr.heap.size k ∧ k < w2.heap.size) where
  t := ht.more fun k hk hl => ⟨hk, hl⟩
  tl := fun k hk => ⟨by rcases hk.1 with e | e; exact (h.tl k e).1; exact Nat.le_trans h.b.size e, hk.2⟩
  c := h.c.keep (hg.block cb h.c.lt h.cf)
  cf := fun hk => by
    rcases hk.1 with e | e
    · exact h.cf e
    · have := h.c.lt; omega
  cl := h.cl
  b := h.b.trans (hg.below h.b.size fun k hk => (h.tl k hk).1)
theorem Rn.other (h : Rn w wr sb s cb cs F) (hb : Below wr.heap.size wr w2) : Rn w w2 sb s cb cs F :=
  ⟨h.t.keep fun k _ hk => hb.block k hk, fun k hk => ⟨(h.tl k hk).1, Nat.lt_of_lt_of_le (h.tl k hk).2 hb.size⟩, h.c.below hb h.c.lt, h.cf, h.cl, h.b.trans (hb.mono h.b.size)⟩
theorem Rn.due (h : Rn w wr sb s cb cs F) (ht : Tm w2 F sb s') (hg : Grows F wr w2) : Rn w w2 sb s' cb cs F where
  t := ht
  tl := fun k hk => ⟨(h.tl k hk).1, Nat.lt_of_lt_of_le (h.tl k hk).2 hg.size⟩
  c := h.c.keep (hg.block cb h.c.lt h.cf)
  cf := h.cf
  cl := h.cl
  b := h.b.trans (hg.below h.b.size fun k hk => (h.tl k hk).1)
theorem Rn.count (h : Rn w wr sb s cb cs F) (i : Nat) (c : Int) : Rn w (wr.setCell ⟨cb, i, none⟩ (.int .i64 c)) sb s cb (cs.set i c) F where
  t := h.t.keep fun k hf hk => Below.heap_setCell _ _ _ _ fun e => h.cf (by have : k = cb := e; rw [← this]; exact hf)
  tl := fun k hk => ⟨(h.tl k hk).1, by simp [World.setCell]; exact (h.tl k hk).2⟩
  c := by
    have := h.c.set i (.int .i64 c)
    rw [List.map_set]
    exact this
  cf := h.cf
  cl := h.cl
  b := h.b.setCell h.cl _
theorem Rn.cell (h : Rn w wr sb s cb cs F) {i : Nat} (hi : i < cs.length) : wr.cell? ⟨cb, i, none⟩ = some (.int .i64 (cs.getD i 0)) := by
  rw [h.c.cell]; simp [List.getD, hi]
/-- A row of numbers beside them. -/
structure Lr (w wr : World) (cb : Nat) (F : Nat → Prop) (v : Value) (ds : List Int) : Prop where
  row : Ir wr v ds
  f : ∀ k, v.ownBlock = some k → w.heap.size ≤ k ∧ ¬ F k ∧ k ≠ cb
theorem Lr.set {v : Value} {ds : List Int} (h : Lr w wr cb F v ds) (hg : Grows F wr w2) : Lr w w2 cb (fun k => Pl F wr.heap.size k ∧ k < w2.heap.size) v ds :=
  ⟨h.row.keep fun k hk => hg.block k (h.row.lt hk) (h.f k hk).2.1, fun k hk => ⟨(h.f k hk).1, fun e => by
    rcases e.1 with e | e
    · exact (h.f k hk).2.1 e
    · have := h.row.lt hk; omega, (h.f k hk).2.2⟩⟩
theorem Lr.count {v : Value} {ds : List Int} (h : Lr w wr cb F v ds) (i : Nat) (c : Value) : Lr w (wr.setCell ⟨cb, i, none⟩ c) cb F v ds :=
  ⟨h.row.keep fun k hk => Below.heap_setCell _ _ _ _ (h.f k hk).2.2, h.f⟩
theorem Lr.other {v : Value} {ds : List Int} (h : Lr w wr cb F v ds) (hb : Below wr.heap.size wr w2) : Lr w w2 cb F v ds :=
  ⟨h.row.keep fun k hk => hb.block k (h.row.lt hk), h.f⟩
theorem Lr.cells {v : Value} {ds : List Int} (h : Lr w wr cb F v ds) {ao : Option Addr} {n cap : Nat} (hv : v = .slice ao n cap) (hl : 0 < ds.length) : ∃ g, ao = some ⟨g, 0, none⟩ ∧ ∀ i, i < ds.length → wr.cell? ⟨g, i, none⟩ = some (.int .i64 (ds.getD i 0)) := by
  rcases h.row.2 with ⟨_, h2⟩ | ⟨g, cap, cur, h1, h2, h3⟩
  · omega
  · rw [hv] at h1
    simp only [Value.slice.injEq] at h1
    refine ⟨g, h1.1, fun i hi => ?_⟩
    have := World.ownsRow.cells h.row (g := g) (by rw [hv, h1.1]; rfl) i (.int .i64 (ds.getD i 0)) (by simp [hi, List.getD])
    simpa [Addr.add_lit] using this
end Go.Proofs.Ytilaankipjcgaaa
