/-
  Rows of bytes: such as came in, or can be read (Rs); a row of them of the call's own (Osl), and append to it.
-/
import Derived.Test.YteinhklopnlgbaaDoorFrameR
namespace Go.Proofs.YteinhklopnlgbaaDoor
open Go.RowKit

/-- A row: its slice, its bytes. -/
abbrev Rw2 := Value × List Int
/-- What is known of a row that can be read. -/
def RwOk (w : World) (r : Rw2) : Prop := Bs w r.1 r.2 ∧ Byt r.2 ∧ r.2.length ≤ 140737488355328
/-- The slice v reads as the rows rs. -/
def Rs (w : World) (v : Value) (rs : List Rw2) : Prop :=
  ∃ ao cap, v = .slice ao rs.length cap ∧ rs.length ≤ 140737488355328 ∧ (∀ r ∈ rs, RwOk w r) ∧
    (rs ≠ [] → ∃ b off, ao = some ⟨b, off, none⟩ ∧ ∀ i r, rs[i]? = some r → w.cell? ⟨b, off + i, none⟩ = some r.1)
theorem RwOk.below {w w' : World} {r : Rw2} (h : RwOk w r) (hb : Below w.heap.size w w') : RwOk w' r := ⟨h.1.below hb (Nat.le_refl _), h.2⟩
theorem Rs.below {w w' : World} {v : Value} {rs : List Rw2} (h : Rs w v rs) (hb : Below w.heap.size w w') : Rs w' v rs := by
  obtain ⟨ao, cap, hv, hl, hr, hc⟩ := h
  refine ⟨ao, cap, hv, hl, fun r hm => (hr r hm).below hb, fun hne => ?_⟩
  obtain ⟨b, off, e, hcell⟩ := hc hne
  refine ⟨b, off, e, fun i r hi => ?_⟩
  have h1 := hcell i r hi
  rw [World.cell?_of_block (w := w) (hb.block b (World.block_lt_of_cell? w _ h1))]
  exact h1
theorem Rs.form {w : World} {v : Value} {rs : List Rw2} (h : Rs w v rs) : ∃ ao cap, v = .slice ao rs.length cap ∧ rs.length ≤ 140737488355328 ∧ True := by
  obtain ⟨ao, cap, hv, hl, _⟩ := h
  exact ⟨ao, cap, hv, hl, trivial⟩
/-- The i-th row, as a round reads it. -/
theorem Rs.get {w : World} {rs : List Rw2} {ao : Option Addr} {cap : Nat} (h : Rs w (.slice ao rs.length cap) rs) {i : Nat} (hi : i < rs.length) :
    ∃ b off ap cp zs, ao = some ⟨b, off, none⟩ ∧ rs[i]? = some (.slice ap zs.length cp, zs) ∧ w.cell? ⟨b, off + i, none⟩ = some (.slice ap zs.length cp) ∧ Bs w (.slice ap zs.length cp) zs ∧ Byt zs ∧ zs.length ≤ 140737488355328 := by
  obtain ⟨ao', cap', hv, hl, hr, hc⟩ := h
  simp only [Value.slice.injEq] at hv
  obtain ⟨rfl, _, rfl⟩ := hv
  obtain ⟨b, off, e, hcell⟩ := hc (fun e => by rw [e] at hi; simp at hi)
  have hg : rs[i]? = some rs[i] := List.getElem?_eq_getElem hi
  obtain ⟨hb, hby, hlen⟩ := hr _ (List.getElem_mem hi)
  obtain ⟨ap, cp, hsv, _⟩ := hb.len
  generalize rs[i] = r at *
  obtain ⟨v, zs⟩ := r
  simp only at hsv hb hby hlen
  subst hsv
  exact ⟨b, off, ap, cp, zs, e, hg, hcell i _ hg, hb, hby, hlen⟩
/-- The bytes of rows. -/
def bytesOf2 (rs : List Rw2) : List (List Int) := rs.map (·.2)
theorem bytesOf2_len (rs : List Rw2) : (bytesOf2 rs).length = rs.length := by simp [bytesOf2]
theorem bytesOf2_append (a b : List Rw2) : bytesOf2 (a ++ b) = bytesOf2 a ++ bytesOf2 b := by simp [bytesOf2]
theorem bytesOf2_take (a : List Rw2) (n : Nat) : bytesOf2 (a.take n) = (bytesOf2 a).take n := by simp [bytesOf2, List.map_take]
/-- The first n rows. -/
theorem Rs.take {w : World} {b off len cap : Nat} {rs : List Rw2} (h : Rs w (.slice (some ⟨b, off, none⟩) len cap) rs) (n : Nat) (hn : n ≤ rs.length) : Rs w (.slice (some ⟨b, off, none⟩) n cap) (rs.take n) := by
  obtain ⟨ao', cap', hv, hl, hr, hc⟩ := h
  simp only [Value.slice.injEq] at hv
  obtain ⟨rfl, _, rfl⟩ := hv
  have ln : (rs.take n).length = n := by simp; omega
  refine ⟨_, cap, by rw [ln], by omega, fun r hm => hr r (List.mem_of_mem_take hm), fun hne => ?_⟩
  obtain ⟨b', off', e, hcell⟩ := hc (fun e => hne (by rw [e]; simp))
  refine ⟨b', off', e, fun i r hi => hcell i r ?_⟩
  have hlt := (List.getElem?_eq_some_iff.1 hi).1
  rw [List.getElem?_take_of_lt (by omega)] at hi
  exact hi

theorem Tryd.info22 : (Tryd.prog.info? 22).map (fun i => (i.zero, i.size, i.bytes)) = some (some (.slice none 0 0), 1, 24) := by kernel_rfl
def slOf (rs : List Rw2) : List Value := rs.map (·.1)
theorem ownsRow_keep {w w' : World} {base : Nat} {t : TypeId} {sz : Nat} {v : Value} {n : Nat} {cs : List Value} (h : w.ownsRow base t sz v n cs) (hk : ∀ k, v.ownBlock = some k → k < w.heap.size → w'.heap[k]? = w.heap[k]?) : w'.ownsRow base t sz v n cs := by
  refine ⟨h.1, ?_⟩
  rcases h.2 with h2 | ⟨g, cap, cur, rfl, hb, hg, rest⟩
  · exact Or.inl h2
  · exact Or.inr ⟨g, cap, cur, rfl, hb, by rw [hk g rfl (Array.getElem?_eq_some_iff.1 hg).1]; exact hg, rest⟩
/-- The slice v has a row of its own, from block base on, of rows that are the call's own. -/
structure Osl (w : World) (base : Nat) (v : Value) (rs : List Rw2) : Prop where
  row : w.ownsRow base 22 1 v rs.length (slOf rs)
  each : ∀ r ∈ rs, Ow w base r.1 r.2 ∧ Byt r.2 ∧ r.2.length ≤ 140737488355328 ∧ ∀ k, r.1.ownBlock = some k → v.ownBlock ≠ some k
theorem Osl.nil (w : World) (base : Nat) : Osl w base (.slice none 0 0) [] := ⟨World.ownsRow_nil _ _ _ _, fun r h => by cases h⟩
theorem Osl.below {w w' : World} {base : Nat} {v : Value} {rs : List Rw2} (h : Osl w base v rs) (hb : Below w.heap.size w w') : Osl w' base v rs :=
  ⟨ownsRow_keep h.row fun k _ hk => hb.block k hk, fun r hr => ⟨(h.each r hr).1.keep fun k _ hk => hb.block k hk, (h.each r hr).2⟩⟩
theorem Osl.form {w : World} {base : Nat} {v : Value} {rs : List Rw2} (h : Osl w base v rs) : ∃ ao cap, v = .slice ao rs.length cap := by
  rcases h.row.2 with ⟨rfl, h2⟩ | ⟨g, cap, cur, rfl, _⟩
  · exact ⟨none, 0, by rw [h2]⟩
  · exact ⟨_, cap, rfl⟩
theorem Osl.rs {w : World} {base : Nat} {v : Value} {rs : List Rw2} (h : Osl w base v rs) (hl : rs.length ≤ 140737488355328) : Rs w v rs := by
  obtain ⟨ao, cap, hv⟩ := h.form
  refine ⟨ao, cap, hv, hl, fun r hr => ⟨(h.each r hr).1.bs, (h.each r hr).2.1, (h.each r hr).2.2.1⟩, fun hne => ?_⟩
  subst hv
  rcases h.row.2 with ⟨_, h2⟩ | ⟨g, cap', cur, he, hb, hg, hn, hc, hs, ht⟩
  · exact absurd (List.eq_nil_of_length_eq_zero h2) hne
  · simp only [Value.slice.injEq] at he
    obtain ⟨rfl, _, rfl⟩ := he
    refine ⟨g, 0, rfl, fun i r hi => ?_⟩
    have hlt := (List.getElem?_eq_some_iff.1 hi).1
    rw [cell_of_row w g (0 + i) _ _ _ hg, Nat.zero_add, ← Array.getElem?_toList]
    have h3 : (cur.toList.take (rs.length * 1))[i]? = some r.1 := by rw [ht]; simp [slOf, hi]
    rw [List.getElem?_take_of_lt (by omega)] at h3
    exact h3
theorem Osl.from {w : World} {base : Nat} {v : Value} {rs : List Rw2} (h : Osl w base v rs) : ∀ k, v.ownBlock = some k → base ≤ k := fun k hk => (World.ownsRow.lt h.row k hk).1
theorem Osl.lt {w : World} {base : Nat} {v : Value} {rs : List Rw2} (h : Osl w base v rs) : ∀ k, v.ownBlock = some k → k < w.heap.size := fun k hk => (World.ownsRow.lt h.row k hk).2
theorem Ow.lt {w : World} {base : Nat} {v : Value} {zs : List Int} (h : Ow w base v zs) : ∀ k, v.ownBlock = some k → k < w.heap.size := fun k hk => (World.ownsRow.lt h k hk).2

theorem wpList_append_row (w : World) {ops : Array Oper} {rest : List Oper} {o : Oper} {a : Act} {Q : Exit → Act → World → Prop} (hgd : o.guard = none) (s x : Operand)
    (ho : o.op = .call { callee := .builtin .append, args := #[s, x], argTypes := #[35, 35] })
    (base : Nat) (v : Value) (rs : List Rw2) (hs : a.eval s = v) (hown : Osl w base v rs) (B : Nat) (ap : Option Addr) (cp : Nat) (zs : List Int) (hx : a.eval x = .slice (some ⟨B, 0, none⟩) 1 1) (hb : w.cell? ⟨B, 0, none⟩ = some (.slice ap zs.length cp))
    (hr : Ow w base (.slice ap zs.length cp) zs) (hy : Byt zs) (hl : zs.length ≤ 140737488355328) (hsep : ∀ k, (Value.slice ap zs.length cp).ownBlock = some k → v.ownBlock ≠ some k)
    (h63 : rs.length ≤ 1000000000) (hbase : base ≤ w.heap.size)
    (h : ∀ ao cap w', Osl w' base (.slice ao (rs.length + 1) cap) (rs ++ [(.slice ap zs.length cp, zs)]) → w.grownBy w' v.ownBlock →
      wpList Tryd.prog ops Q rest (a.put o.dst (.slice ao (rs.length + 1) cap)) w') : wpList Tryd.prog ops Q (o :: rest) a w := by
  obtain ⟨i0, hi, hz0, hz1, hz2⟩ := info_parts Tryd.info22
  obtain ⟨v', w', hrun, h2, h3, _, h5⟩ := run_append_own_at (P := Tryd.prog) w base 35 o.type 22 i0 (.slice none 0 0) 1 24 Tryd.underlying35 hi hz0 hz1 hz2 rfl (by decide) v rs.length (slOf rs) hown.row ⟨B, 0, none⟩ 1 1 [.slice ap zs.length cp] rfl
    (by intro j u hu
        cases j with
        | zero => rw [Addr.add_lit]; simp at hu; subst hu; exact hb
        | succ j => simp at hu) (by intro u hu; simp at hu; subst hu; rfl) (by unfold maxLen; omega) (by omega) hbase
  have h2' : w'.ownsRow base 22 1 v' (rs ++ [((.slice ap zs.length cp, zs) : Rw2)]).length (slOf (rs ++ [(.slice ap zs.length cp, zs)])) := by
    rw [List.length_append]
    simpa [slOf] using h2
  have hv' : ∃ ao cap, v' = .slice ao (rs.length + 1) cap := by
    rcases h2'.2 with ⟨_, h6⟩ | ⟨g, cap, cur, h6, _⟩
    · simp at h6
    · exact ⟨some ⟨g, 0, none⟩, cap, by rw [h6]; simp⟩
  obtain ⟨ao, cap, rfl⟩ := hv'
  have keep : ∀ (u : Value) (zs' : List Int), Ow w base u zs' → (∀ k, u.ownBlock = some k → v.ownBlock ≠ some k) → Ow w' base u zs' ∧ ∀ k, u.ownBlock = some k → (Value.slice ao (rs.length + 1) cap).ownBlock ≠ some k := by
    intro u zs' hu hne
    refine ⟨hu.keep fun k hk hlt => h3.block k hlt (fun e => hne k hk e.symm), fun k hk e => ?_⟩
    rcases h5 with h5 | h5
    · exact hne k hk (by rw [← h5]; exact e)
    · rw [h5] at e
      have := hu.lt k hk
      have := Option.some.inj e
      omega
  refine wpList_plain hgd fun _ hK => ?_
  unfold Oper.wp execOp
  simp only [ho, resolve, invoke, builtin, Sem.run_bind, Sem.run_pure, Result.andThen_ok, List.map_toArray, List.map_cons, List.map_nil, hs, hx, hrun]
  refine hK _ _ (h ao cap w' ⟨h2', fun r hm => ?_⟩ h3)
  rcases List.mem_append.1 hm with hm | hm
  · obtain ⟨e1, e2, e3, e4⟩ := hown.each r hm
    exact ⟨(keep _ _ e1 e4).1, e2, e3, (keep _ _ e1 e4).2⟩
  · have : r = (.slice ap zs.length cp, zs) := by simpa using hm
    subst this
    exact ⟨(keep _ _ hr hsep).1, hy, hl, (keep _ _ hr hsep).2⟩
end Go.Proofs.YteinhklopnlgbaaDoor
