/-
  The laws' own rows of places that are left, and of marks: appended to, one taken out, made, marked.
-/
import Derived.Test.YtbfldcieibdapaaGreatRbTwo
import Derived.Test.YtbfldcieibdapaaGreatStepIn
import Derived.Test.YtbfldcieibdapaaGreatOwnG
namespace Go.Proofs.YtbfldcieibdapaaGreat
open Go.RowKit
theorem info3 : (Tryz.prog.info? 3).map (fun i => (i.zero, i.size, i.bytes)) = some (some (.int .i64 0), 1, 8) := by kernel_rfl
theorem info4 : (Tryz.prog.info? 4).map (fun i => (i.zero, i.size, i.bytes)) = some (some (.bool false), 1, 1) := by kernel_rfl
theorem kdI : Ax.Kd Tryz.prog 56 3 1 St.i64c := by
  refine ⟨Tryz.underlying56, fun _ => rfl, fun s u hu => ?_, by decide, _, _, info3, rfl, by decide⟩
  simp only [St.i64c, List.mem_cons, List.not_mem_nil, or_false] at hu
  rw [hu]; rfl
abbrev Ro1 (w : World) (B : Nat) (v : Value) (l : List Int) : Prop := Ax.Ro w B 3 1 St.i64c v l
/-- One more place. -/
theorem left1 {wr : World} {B : Nat} {v : Value} {l : List Int} (z : Int) (hp : Ro1 wr B v l) (hl : l.length ≤ 1000) (hB : B ≤ wr.heap.size) : ∃ v' w', (∀ ty, (Builtin.append_ #[56, 56] ty #[v, .slice (some ⟨wr.heap.size, 0, none⟩) 1 1]).run Tryz.prog (wr.alloc (.cells #[.int .i64 z] 3)) = .ok v' w') ∧ Ro1 w' B v' (l ++ [z]) ∧ Below B wr w' := by
  have hn : Ro1 (wr.alloc (.cells #[.int .i64 z] 3)) B v l := hp.keep fun k _ _ hk => Below.heap_alloc _ _ _ hk
  have hc := Cw.new wr (St.i64c z) 3
  have hB2 : B ≤ (wr.alloc (.cells #[.int .i64 z] 3)).heap.size := by rw [World.size_alloc]; omega
  obtain ⟨v', w2, hr, h2, h3, h4⟩ := hn.app kdI ⟨wr.heap.size, 0, none⟩ 1 [z] (fun j u hu => by rw [Addr.add_lit, Nat.zero_add]; exact (hc.cell j).trans (by simpa using hu)) (by simp; omega) hB2
  exact ⟨v', w2, hr, h2, Ax.grown_below h3 ((Below.refl _ _).alloc hB _) hB2 fun k hk => (hp.lt k hk).1⟩
/-- All but one, laid anew. -/
theorem releft {W9 wc : World} {B g cv : Nat} {A C : List Int} {t : Int} (h : Ro1 wc B (.slice (some ⟨g, 0, none⟩) (A ++ t :: C).length cv) (A ++ t :: C)) (hk : W9.heap[g]? = wc.heap[g]?) (hl : (A ++ t :: C).length ≤ 1000) (o2 : Nat) (ho2 : o2 = (A.length + 1) ∨ C = []) :
    ∃ v1 w1 v2 w2, (∀ ty, (Builtin.append_ #[56, 56] ty #[.slice (some ⟨W9.heap.size, 0, none⟩) 0 0, .slice (some ⟨g, 0, none⟩) A.length cv]).run Tryz.prog (W9.alloc (.cells #[] 3)).drew = .ok v1 w1) ∧
      (∀ ty, (Builtin.append_ #[56, 56] ty #[v1, .slice (some ⟨g, o2, none⟩) C.length (cv - (A.length + 1))]).run Tryz.prog w1 = .ok v2 w2) ∧ Ro1 w2 W9.heap.size v2 (A ++ C) ∧ Below W9.heap.size W9 w2 := by
  obtain ⟨g', cap', hv, hg1, hg2, _, _, hcell⟩ := h.spot (by simp)
  simp only [Value.slice.injEq, Option.some.injEq, Addr.mk.injEq, and_true, true_and] at hv
  obtain ⟨rfl, rfl⟩ := hv
  have hgl : g < W9.heap.size := by
    rcases Nat.lt_or_ge g W9.heap.size with h1 | h1
    · exact h1
    · rw [Array.getElem?_eq_none h1] at hk
      rw [Array.getElem?_eq_getElem hg2] at hk
      cases hk
  have hc9 : ∀ j u, ((A ++ t :: C).flatMap St.i64c)[j]? = some u → W9.cell? ⟨g, j, none⟩ = some u := fun j u hu => (World.cell?_of_block (a := ⟨g, j, none⟩) hk).trans (hcell j u hu)
  have hlA : (A.flatMap St.i64c).length = A.length * 1 := Ax.fm_len kdI.len A
  simp only [List.length_append, List.length_cons] at hl
  have e : (A ++ t :: C).flatMap St.i64c = A.flatMap St.i64c ++ (St.i64c t ++ C.flatMap St.i64c) := by simp
  rw [e] at hc9
  have hcA : ∀ j u, (A.flatMap St.i64c)[j]? = some u → W9.cell? ⟨g, j, none⟩ = some u := fun j u hu => hc9 j u (by rw [List.getElem?_append_left (List.getElem?_eq_some_iff.1 hu).1]; exact hu)
  have hcC : ∀ j u, (C.flatMap St.i64c)[j]? = some u → W9.cell? ⟨g, (A.length + 1) + j, none⟩ = some u := fun j u hu => hc9 _ u (by
    rw [List.getElem?_append_right (by omega), List.getElem?_append_right (by rw [kdI.len]; omega), hlA, kdI.len, show (A.length + 1) + j - A.length * 1 - 1 = j by omega]; exact hu)
  have hr0 : Ro1 (W9.alloc (.cells #[] 3)).drew W9.heap.size (.slice (some ⟨W9.heap.size, 0, none⟩) 0 0) [] := ⟨rfl, .inr ⟨W9.heap.size, 0, #[], rfl, Nat.le_refl _, heap_alloc_new W9 _, Nat.le_refl _, by unfold maxLen; omega, rfl, by simp⟩⟩
  have sz0 : (W9.alloc (.cells #[] 3)).drew.heap.size = W9.heap.size + 1 := World.size_alloc _ _
  have b0 : Below W9.heap.size W9 (W9.alloc (.cells #[] 3)).drew := ((Below.refl _ _).alloc (Nat.le_refl _) _).drew
  have c0 : ∀ a, a.block = g → (W9.alloc (.cells #[] 3)).drew.cell? a = W9.cell? a := fun a ha => World.cell?_of_block (by rw [ha]; exact Below.heap_alloc _ _ _ hgl)
  obtain ⟨v1, w1, r1, o1, g1, _⟩ := hr0.app kdI ⟨g, 0, none⟩ cv A (fun j u hu => by rw [Addr.add_lit, Nat.zero_add, c0 _ rfl]; exact hcA j u hu) (by simp; omega) (by rw [sz0]; omega)
  rw [List.nil_append] at o1
  have b1 : Below W9.heap.size W9 w1 := Ax.grown_below g1 b0 (by rw [sz0]; omega) fun k hk => by
    have : W9.heap.size = k := by simpa [Value.ownBlock] using hk
    omega
  have c1 : ∀ a, a.block = g → w1.cell? a = W9.cell? a := fun a ha => World.cell?_of_block (by rw [ha]; exact b1.block g hgl)
  have hB1 : W9.heap.size ≤ w1.heap.size := b1.size
  obtain ⟨v2, w2, r2, o2', g2, _⟩ := o1.app kdI ⟨g, o2, none⟩ (cv - (A.length + 1)) C (fun j u hu => by
    rcases ho2 with rfl | rfl
    · rw [Addr.add_lit, c1 _ rfl]; exact hcC j u hu
    · simp at hu) (by omega) hB1
  exact ⟨v1, w1, v2, w2, r1, r2, o2', Ax.grown_below g2 b1 hB1 fun k hk => (o1.lt k hk).1⟩
theorem cut_at {L : List Int} {K : Nat} (h : K < L.length) : ∃ A t B, L = A ++ t :: B ∧ A.length = K := by
  refine ⟨L.take K, L[K], L.drop (K + 1), ?_, by rw [List.length_take]; omega⟩
  rw [← List.drop_eq_getElem_cons h, List.take_append_drop]
section
variable {ops : Array Oper} {rest : List Oper} {o : Oper} {a : Act} {w : World} {Q : Exit → Act → World → Prop}
theorem wpList_make_t (hg : o.guard = none) (l c : Operand) (ho : o.op = .makeSlice 58 l c) (n : Nat) (hl : a.eval l = .int .i64 (n : Int)) (hc : a.eval c = .int .i64 (n : Int)) (hn : n ≤ 1000)
    (h : ∀ W, Cw W w.heap.size ((List.replicate n false).map Value.bool) 4 → Below w.heap.size w W → Hid (W.heap.size = w.heap.size + 1) → wpList Tryz.prog ops Q rest (a.put o.dst (.slice (some ⟨w.heap.size, 0, none⟩) n n)) W) : wpList Tryz.prog ops Q (o :: rest) a w := by
  refine wpList_plain hg fun _ hK => ?_
  obtain ⟨i0, hi, hz0, hz1, hz2⟩ := info_parts info4
  have hrun := run_make (P := Tryz.prog) w 58 4 i0 _ Tryz.underlying58 hi hz0 .i64 .i64 (n : Int) (n : Int) (by omega) (Int.le_refl _) (by rw [hz2]; omega) (by omega)
  rw [hz1] at hrun
  simp only [Int.toNat_natCast] at hrun
  unfold Oper.wp execOp
  simp only [ho, hl, hc, hrun, Sem.run_bind, Sem.run_pure, Result.andThen_ok]
  refine hK _ _ ?_
  refine h _ ?_ ((Below.refl _ _).alloc (Nat.le_refl _) _) (World.size_alloc _ _)
  have := Cw.new w ((List.replicate n false).map Value.bool) 4
  have e : madeCells (Value.bool false).cells (n * 1) = ((List.replicate n false).map Value.bool).toArray := by
    apply Array.ext
    · simp [madeCells]
    · intro i h1 h2
      simp [madeCells, Value.cells, Nat.mod_one]
  rw [e]
  exact this
end
end Go.Proofs.YtbfldcieibdapaaGreat
