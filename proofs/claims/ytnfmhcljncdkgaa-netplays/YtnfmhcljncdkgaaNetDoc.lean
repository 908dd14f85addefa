/-
  The document's Net in memory (Dp); own, by contract.
-/
import Derived.Test.YtnfmhcljncdkgaaNetGive
import Derived.Test.YtnfmhcljncdkgaaPlayHelp
namespace Go.Proofs.Ytnfmhcljncdkgaa
open Go.RowKit
/-- A message of the document's: what it says, and the slice of its bytes. -/
structure De where
  m : Mg
  ao : Option Addr
  n : Nat
  c : Nat
def De.v (e : De) : Value := .slice e.ao e.n e.c
def deC (e : De) : List Value := [.int .i64 e.m.fr, .int .i64 e.m.to, .slice e.ao e.n e.c]
theorem KD : Ax.Kd Try.prog 31 25 3 deC where
  ty := Try.underlying31
  len := fun _ => rfl
  one := fun s u hu => by simp only [deC, List.mem_cons, List.not_mem_nil, or_false] at hu; rcases hu with rfl | rfl | rfl <;> rfl
  pos := by decide
  inf := ⟨.agg #[.int .i64 0, .int .i64 0, .slice none 0 0], 40, by kernel_rfl, rfl, by decide⟩
abbrev Rd (w : World) (base : Nat) (v : Value) (E : List De) : Prop := Ax.Ro w base 25 3 deC v E
def msD (E : List De) : List Mg := E.map De.m
/-- The document's Net at block rb, its row u. -/
structure Dp (w : World) (B rb : Nat) (u : Value) (E : List De) : Prop where
  q : Cw w rb [u] 33
  r : Rd w B u E
  b : B ≤ rb
  ne : u.ownBlock ≠ some rb
  d : ∀ e ∈ E, Bs w e.v e.m.d ∧ ∀ k, e.v.ownBlock = some k → B ≤ k ∧ k < w.heap.size ∧ k ≠ rb ∧ u.ownBlock ≠ some k
  le : E.length ≤ 1024
/-- Its blocks. -/
def Df (rb : Nat) (u : Value) (E : List De) : Nat → Prop := fun k => Nf rb u k ∨ ∃ e ∈ E, e.v.ownBlock = some k
section
variable {w w' : World} {B rb : Nat} {u : Value} {E : List De}
theorem Dp.lo (h : Dp w B rb u E) : ∀ k, Df rb u E k → B ≤ k := fun k hk => by
  rcases hk with (rfl | hk) | ⟨e, he, hk⟩
  · exact h.b
  · exact (h.r.lt k hk).1
  · exact ((h.d e he).2 k hk).1
theorem Dp.hi (h : Dp w B rb u E) : ∀ k, Df rb u E k → k < w.heap.size := fun k hk => by
  rcases hk with (rfl | hk) | ⟨e, he, hk⟩
  · exact h.q.lt
  · exact (h.r.lt k hk).2
  · exact ((h.d e he).2 k hk).2.1
theorem Dp.keep (h : Dp w B rb u E) (hk : ∀ k, Df rb u E k → w'.heap[k]? = w.heap[k]?) (hs : w.heap.size ≤ w'.heap.size) : Dp w' B rb u E :=
  ⟨h.q.keep (hk rb (Or.inl (Or.inl rfl))), h.r.keep fun k h1 _ _ => hk k (Or.inl (Or.inr h1)), h.b, h.ne, fun e he => ⟨(h.d e he).1.keep fun k h1 _ => hk k (Or.inr ⟨e, he, h1⟩), fun k h1 => by
    obtain ⟨h2, h3, h4⟩ := (h.d e he).2 k h1
    exact ⟨h2, Nat.lt_of_lt_of_le h3 hs, h4⟩⟩, h.le⟩
theorem Dp.below (h : Dp w B rb u E) (hb : Below w.heap.size w w') : Dp w' B rb u E := h.keep (fun k hk => hb.block k (h.hi k hk)) hb.size
theorem Dp.slot (h : Dp w B rb u E) : w.cell? ⟨rb, 0, none⟩ = some u := by rw [h.q.cell]; rfl
/-- What a call leaves of the document's Net. -/
structure Dx (w w' : World) (B rb : Nat) (u u' : Value) (E E' : List De) : Prop where
  n : Dp w' B rb u' E'
  g : Gr (Nf rb u) w w'
  o : ∀ k, u'.ownBlock = some k → u.ownBlock = some k ∨ w.heap.size ≤ k
  od : ∀ e ∈ E', e ∈ E ∨ ∀ k, e.v.ownBlock = some k → w.heap.size ≤ k
theorem Dx.same (h : Dp w B rb u E) : Dx w w B rb u u E E := ⟨h, Gr.refl _ _, fun _ hk => Or.inl hk, fun _ he => Or.inl he⟩
theorem Dx.below {u' : Value} {E' : List De} (h0 : Dp w B rb u E) (hB : B ≤ w.heap.size) (h : Dx w w' B rb u u' E E') : Below B w w' := h.g.below hB fun k hk => h0.lo k (Or.inl hk)
theorem Dx.pre {w1 : World} {u' : Value} {E' : List De} (h : Dx w1 w' B rb u u' E E') (hb : Below w.heap.size w w1) : Dx w w' B rb u u' E E' :=
  ⟨h.n, ⟨h.g.os.trans hb.os, h.g.tape.trans hb.tape, h.g.output.trans hb.output, Nat.le_trans hb.size h.g.size, fun k hk hf => (h.g.block k (Nat.lt_of_lt_of_le hk hb.size) hf).trans (hb.block k hk)⟩, fun k hk => by rcases h.o k hk with h1 | h1; exact Or.inl h1; exact Or.inr (Nat.le_trans hb.size h1), fun e he => by rcases h.od e he with h1 | h1; exact Or.inl h1; exact Or.inr fun k hk => Nat.le_trans hb.size (h1 k hk)⟩
theorem Dx.post {w1 : World} {u' : Value} {E' : List De} (h : Dx w w1 B rb u u' E E') (hb : Below w1.heap.size w1 w') : Dx w w' B rb u u' E E' :=
  ⟨h.n.below hb, h.g.trans (Gr.of_below hb (fun _ => False) fun k h1 h2 => by omega) (fun _ h => h.elim), h.o, h.od⟩
theorem Dx.aside {w1 : World} {b : Nat} {u' : Value} {E' : List De} (h : Dx w w1 B rb u u' E E') (ho : Only b w1 w') (hb : w.heap.size ≤ b) (hn : ¬ Df rb u' E' b) : Dx w w' B rb u u' E E' :=
  ⟨h.n.keep (fun k hk => ho.block k fun e => hn (e ▸ hk)) (by rw [ho.size]; exact Nat.le_refl _), ⟨ho.os.trans h.g.os, ho.tape.trans h.g.tape, ho.output.trans h.g.output, by rw [ho.size]; exact h.g.size, fun k hk hf => (ho.block k (by omega)).trans (h.g.block k hk hf)⟩, h.o, h.od⟩
theorem Dx.then {w1 : World} {u1 u' : Value} {E1 E' : List De} (h : Dx w w1 B rb u u1 E E1) (k : Dx w1 w' B rb u1 u' E1 E') : Dx w w' B rb u u' E E' :=
  ⟨k.n, h.g.trans k.g fun j hj => by
      rcases hj with rfl | hj
      · exact Or.inl (Or.inl rfl)
      · rcases h.o j hj with h1 | h1
        · exact Or.inl (Or.inr h1)
        · exact Or.inr h1, fun j hj => by
      rcases k.o j hj with h1 | h1
      · exact h.o j h1
      · exact Or.inr (Nat.le_trans h.g.size h1), fun e he => by
      rcases k.od e he with h1 | h1
      · exact h.od e h1
      · exact Or.inr fun j hj => Nat.le_trans h.g.size (h1 j hj)⟩
/-- A store into the Net's own cell. -/
theorem Dp.store {u' : Value} {E' : List De} (h : Dp w B rb u E) (hg : Gr (fun k => u.ownBlock = some k) w w') (hr : Rd w' B u' E') (ho : ∀ k, u'.ownBlock = some k → u.ownBlock = some k ∨ w.heap.size ≤ k) (hl : E'.length ≤ 1024)
    (hd : ∀ e ∈ E', e ∈ E ∨ (Bs w' e.v e.m.d ∧ ∀ k, e.v.ownBlock = some k → B ≤ k ∧ k < w'.heap.size ∧ k ≠ rb ∧ u'.ownBlock ≠ some k)) : Dp (w'.setCell ⟨rb, 0, none⟩ u') B rb u' E' ∧ Gr (Nf rb u) w (w'.setCell ⟨rb, 0, none⟩ u') := by
  have hne : u'.ownBlock ≠ some rb := fun e => by
    rcases ho rb e with h1 | h1
    · exact h.ne h1
    · have := h.q.lt; omega
  have hsz : (w'.setCell ⟨rb, 0, none⟩ u').heap.size = w'.heap.size := by simp [World.setCell]
  have hrl := h.q.lt
  have hkeep : ∀ k, k ≠ rb → (w'.setCell ⟨rb, 0, none⟩ u').heap[k]? = w'.heap[k]? := fun k hk => Below.heap_setCell _ _ _ _ hk
  refine ⟨⟨?_, ?_, h.b, hne, fun e he => ?_, hl⟩, ?_⟩
  · exact (hg.cw h.q h.ne).set 0 u'
  · exact hr.keep fun k hk _ _ => hkeep k fun e => hne (by rw [hk]; exact congrArg some e)
  · rcases hd e he with h1 | ⟨h1, h2⟩
    · obtain ⟨hb, hk⟩ := h.d e h1
      refine ⟨(hg.bs hb fun k hk2 => (hk k hk2).2.2.2).keep fun k hk2 _ => hkeep k (hk k hk2).2.2.1, fun k hk2 => ?_⟩
      obtain ⟨a1, a2, a3, a4⟩ := hk k hk2
      refine ⟨a1, by rw [hsz]; exact Nat.lt_of_lt_of_le a2 hg.size, a3, fun e2 => ?_⟩
      rcases ho k e2 with h3 | h3
      · exact a4 h3
      · omega
    · refine ⟨h1.keep fun k hk2 _ => hkeep k (h2 k hk2).2.2.1, fun k hk2 => ?_⟩
      obtain ⟨a1, a2, a3, a4⟩ := h2 k hk2
      exact ⟨a1, by rw [hsz]; exact a2, a3, a4⟩
  · exact (hg.mono fun k hk => Or.inr hk).trans (Gr.setCell _ _ _ (F := fun k => k = rb) rfl) fun k hk => Or.inl (Or.inl hk)
end
set_option maxRecDepth 20000 in
set_option maxHeartbeats 2000000 in
theorem own_any {w : World} {s : Value} {zs : List Int} (a b : Int) (hs : Bs w s zs) (hz : zs.length ≤ 100000000000000) :
    Calls Try.prog 28 #[.agg #[.int .i64 a, .int .i64 b, s]] w fun e w' => ∃ ao c, e = .returned (.agg #[.int .i64 a, .int .i64 b, .slice ao zs.length c]) ∧ Bs w' (.slice ao zs.length c) zs ∧ Below w.heap.size w w' ∧ (∀ k, (Value.slice ao zs.length c).ownBlock = some k → w.heap.size ≤ k ∧ k < w'.heap.size) := by
  have HS := hid_into hs
  obtain ⟨ao, cap, rfl, hm⟩ := hs.len
  clear hs
  go_enter Try.func28, Try.ntmps28
  go_wp2_with (first
    | (refine wpList_box_row rfl 25 (.tmp 0) rfl [.int .i64 a, .int .i64 b, .slice ao zs.length cap] (by rfl) ?_; intro w1 bx hb1 hs1)
    | (have := bx; refine wpList_alloc_row rfl 25 rfl [.int .i64 0, .int .i64 0, .slice none 0 0] zero25 ?_; intro w2 c2 hb2 hs2; have hb20 := hb1.trans (hb2.mono hb1.size); have bx2 := Below.cw_of hb2 bx; have bx3 := bx2.alloc (.cells #[] 5); have c3 := c2.alloc (.cells #[] 5); have e2 := bx3.cell 2; simp only [List.getElem?_cons_zero, List.getElem?_cons_succ] at e2; have hown0 : Ow (w2.alloc (.cells #[] 5)) w2.heap.size (.slice (some ⟨w2.heap.size, 0, none⟩) 0 0) [] := Ow_of_block (heap_alloc_new w2 _) (by simp) (Nat.le_refl _); have hb30 : Below w.heap.size w (w2.alloc (.cells #[] 5)) := hb20.alloc hb20.size _; have hbs3 := HS.out.below hb30 (Nat.le_refl _))
    | (at_builtin; refine wpList_append_bs _ rfl (.tmp 3) (.tmp 5) rfl w2.heap.size (.slice (some ⟨w2.heap.size, 0, none⟩) 0 0) [] rfl hown0 (.slice ao zs.length cap) zs rfl hbs3 (by simp; omega) (by simp) ?_; intro ao4 cap4 w4 hown4 hgrow4 hat4; have ze : ([] : List Int).length + zs.length = zs.length := by simp
       rw [ze, List.nil_append] at hown4; have z1 := hs1.out; have z2 := hs2.out; have za : (w2.alloc (.cells #[] 5)).heap.size = w2.heap.size + 1 := World.size_alloc _ _; have bx4 := bx3.keep (hgrow4.block w.heap.size (by omega) (by simp [Value.ownBlock]; omega)); have c4 := c3.keep (hgrow4.block w1.heap.size (by omega) (by simp [Value.ownBlock]; omega)); have hz4 := hgrow4.size; have hb40 : Below w.heap.size w w4 := Ax.grown_below hgrow4 hb30 hb30.size (fun k hk => by simp [Value.ownBlock] at hk; omega); have k2 := bx4.cell 2; have f2 := bx4.frozen 2; simp only [List.getElem?_cons_zero, List.getElem?_cons_succ] at k2; have bx5 := bx4.set 2 (.slice ao4 zs.length cap4); have c5 := c4.keep (w' := w4.setCell ⟨w.heap.size, 2, none⟩ (.slice ao4 zs.length cap4)) (Below.heap_setCell _ _ _ _ (by show w1.heap.size ≠ w.heap.size; omega)); clear hgrow4 hat4 bx4 c4 bx3 c3 bx2 hown0 z1 z2 za hz4 ze)
    | (have := bx5; refine wpList_load_rw rfl 25 (.tmp 1) rfl w.heap.size _ _ _ (by rfl) bx5 Try.underlying25 rfl size25 ?_; clear bx5)
    | (have := c5; refine wpList_store_rw rfl 25 (.tmp 2) (.tmp 8) rfl w1.heap.size _ [.int .i64 a, .int .i64 b, .slice ao4 zs.length cap4] _ (by rfl) (by rfl) c5 size25 rfl (msC_one _ _ _ _ _) ?_; intro w6 c6 ho6)
    | fail)
  have z1 := hs1.out
  have z2 := hs2.out
  have hlo : ∀ k, (Value.slice ao4 zs.length cap4).ownBlock = some k → w2.heap.size ≤ k ∧ k < w4.heap.size := fun k hk => World.ownsRow.lt hown4 k hk
  have hsz5 : (w4.setCell ⟨w.heap.size, 2, none⟩ (.slice ao4 zs.length cap4)).heap.size = w4.heap.size := by simp [World.setCell]
  have hb50 : Below w.heap.size w (w4.setCell ⟨w.heap.size, 2, none⟩ (.slice ao4 zs.length cap4)) := hb40.trans ((Only.set w.heap.size 2 w4 _).below (Nat.le_refl _))
  refine ret_row rfl (by rfl) rfl c6 Try.underlying25 rfl size25 ⟨ao4, cap4, rfl, ?_, ho6.belowTo hb50 hb1.size, fun k hk => ?_⟩
  · refine hown4.bs.keep fun k hk _ => ?_
    have := (hlo k hk).1
    rw [ho6.block k (by omega)]
    exact Below.heap_setCell _ _ _ _ (by show k ≠ w.heap.size; omega)
  · obtain ⟨h1, h2⟩ := hlo k hk
    exact ⟨by omega, by rw [ho6.size, hsz5]; exact h2⟩
end Go.Proofs.Ytnfmhcljncdkgaa
