/-
  A row of one's own that may begin behind its block's start (a queue): read, shortened in front, appended to.
-/
import Derived.Test.YtahodgmdikaedaaDoorM10
import Derived.ArgAppend
namespace Go.Proofs.YtahodgmdikaedaaDoor
open Go.RowKit
/-- v is a row of n elements of the given size, its cells xs, in a block of one's own from base on. -/
def Qr (w : World) (base : Nat) (e : TypeId) (size : Nat) (v : Value) (n : Nat) (xs : List Value) : Prop :=
  xs.length = n * size ∧ ((v = .slice none 0 0 ∧ n = 0) ∨
    ∃ g off cap cur, v = .slice (some ⟨g, off, none⟩) n cap ∧ base ≤ g ∧ w.heap[g]? = some (.cells cur e (0, 0)) ∧ n ≤ cap ∧ cap ≤ maxLen ∧ off + cap * size ≤ cur.size ∧ (cur.toList.drop off).take (n * size) = xs)
section
variable {w w' : World} {base : Nat} {e : TypeId} {size : Nat} {v : Value} {n : Nat} {xs : List Value}
theorem Qr.nil (w : World) (base : Nat) (e : TypeId) (size : Nat) : Qr w base e size (.slice none 0 0) 0 [] := ⟨by simp, Or.inl ⟨rfl, rfl⟩⟩
theorem Qr.own (h : w.ownsRow base e size v n xs) : Qr w base e size v n xs := by
  obtain ⟨h1, h2⟩ := h
  refine ⟨h1, ?_⟩
  rcases h2 with h2 | ⟨g, cap, cur, a1, a2, a3, a4, a5, a6, a7⟩
  · exact Or.inl h2
  · exact Or.inr ⟨g, 0, cap, cur, a1, a2, a3, a4, a5, by omega, by rw [List.drop_zero]; exact a7⟩
theorem Qr.lt (h : Qr w base e size v n xs) : ∀ k, v.ownBlock = some k → base ≤ k ∧ k < w.heap.size := fun k hk => by
  rcases h.2 with ⟨rfl, _⟩ | ⟨g, off, cap, cur, rfl, a2, a3, _⟩
  · cases hk
  · have : g = k := Option.some.inj hk
    subst this
    exact ⟨a2, (Array.getElem?_eq_some_iff.1 a3).1⟩
theorem Qr.keep (h : Qr w base e size v n xs) (hk : ∀ k, v.ownBlock = some k → k < w.heap.size → w'.heap[k]? = w.heap[k]?) : Qr w' base e size v n xs := by
  obtain ⟨h1, h2⟩ := h
  refine ⟨h1, ?_⟩
  rcases h2 with h2 | ⟨g, off, cap, cur, rfl, a2, a3, a4⟩
  · exact Or.inl h2
  · exact Or.inr ⟨g, off, cap, cur, rfl, a2, (hk g rfl (Array.getElem?_eq_some_iff.1 a3).1).trans a3, a4⟩
theorem Qr.mono {base' : Nat} (h : Qr w base e size v n xs) (hb : base' ≤ base) : Qr w base' e size v n xs := by
  obtain ⟨h1, h2⟩ := h
  refine ⟨h1, ?_⟩
  rcases h2 with h2 | ⟨g, off, cap, cur, a1, a2, a3⟩
  · exact Or.inl h2
  · exact Or.inr ⟨g, off, cap, cur, a1, Nat.le_trans hb a2, a3⟩
theorem Qr.form (h : Qr w base e size v n xs) : ∃ ao cap, v = .slice ao n cap := by
  rcases h.2 with ⟨rfl, h0⟩ | ⟨g, off, cap, cur, rfl, _⟩
  · exact ⟨none, 0, by rw [h0]⟩
  · exact ⟨_, cap, rfl⟩
/-- A cell of the row. -/
theorem Qr.cell (h : Qr w base e size v n xs) (hn : 0 < n) : ∃ g off cap, v = .slice (some ⟨g, off, none⟩) n cap ∧ base ≤ g ∧ n ≤ cap ∧ cap ≤ maxLen ∧ g < w.heap.size ∧ (∀ j u, xs[j]? = some u → w.cell? ⟨g, off + j, none⟩ = some u) ∧ ∀ j, w.frozen? ⟨g, j, none⟩ = false := by
  rcases h.2 with ⟨_, h0⟩ | ⟨g, off, cap, cur, rfl, a2, a3, a4, a5, a6, a7⟩
  · omega
  · refine ⟨g, off, cap, rfl, a2, a4, a5, (Array.getElem?_eq_some_iff.1 a3).1, fun j u hu => ?_, fun j => by simp only [World.frozen?, a3]; simp⟩
    rw [cell_of_row w g (off + j) _ _ _ a3, ← Array.getElem?_toList]
    rw [← a7] at hu
    have hj : j < n * size := by
      have := (List.getElem?_eq_some_iff.1 hu).1
      rw [List.length_take] at this
      omega
    rw [List.getElem?_take_of_lt hj, List.getElem?_drop] at hu
    exact hu
/-- Without the first one. -/
theorem Qr.tail (h : Qr w base e size v (n + 1) xs) : ∃ g off cap, v = .slice (some ⟨g, off, none⟩) (n + 1) cap ∧ n + 1 ≤ cap ∧ cap ≤ maxLen ∧ Qr w base e size (.slice (if cap = 1 then some ⟨g, off, none⟩ else some ⟨g, off + size, none⟩) n (cap - 1)) n (xs.drop size) := by
  obtain ⟨h1, h2⟩ := h
  rcases h2 with ⟨_, h0⟩ | ⟨g, off, cap, cur, rfl, a2, a3, a4, a5, a6, a7⟩
  · omega
  · refine ⟨g, off, cap, rfl, a4, a5, by rw [List.length_drop, h1, Nat.add_mul]; omega, Or.inr ?_⟩
    have a8 : (cap - 1) * size + size = cap * size := by
      have : cap = (cap - 1) + 1 := by omega
      rw [this, Nat.add_mul]
      simp
    by_cases c : cap = 1
    · have hn0 : n = 0 := by omega
      subst hn0
      refine ⟨g, off, cap - 1, cur, by rw [if_pos c], a2, a3, by omega, by omega, ?_, ?_⟩
      · rw [c, Nat.sub_self, Nat.zero_mul]; omega
      · rw [Nat.zero_mul, List.take_zero]
        refine (List.eq_nil_of_length_eq_zero ?_).symm
        rw [List.length_drop, h1]; omega
    · refine ⟨g, off + size, cap - 1, cur, by rw [if_neg c], a2, a3, by omega, by omega, by omega, ?_⟩
      rw [← a7, List.drop_take, List.drop_drop]
      congr 1
      rw [Nat.add_mul]; omega
end
/-- Appended to. -/
theorem Qr.append {w : World} {base : Nat} {e : TypeId} {size bytes : Nat} {v : Value} {n : Nat} {xs : List Value} (h : Qr w base e size v n xs) (t : TypeId) (z : Value) (ht : Tryd.prog.underlying t = some (.slice e))
    (hi : (Tryd.prog.info? e).map (fun i => (i.zero, i.size, i.bytes)) = some (some z, size, bytes)) (hzs : z.cells.size = size) (hsz : 0 < size)
    (a : Addr) (m c : Nat) (news : List Value) (hl : news.length = m * size) (hnews : ∀ j u, news[j]? = some u → w.cell? (a.add j) = some u) (h1 : ∀ u ∈ news, u.oneCell' = true)
    (h63 : n + m ≤ maxLen) (hbytes : (n + m) * bytes ≤ 140737488355328) (hbase : base ≤ w.heap.size) :
    ∃ ao cap w', (∀ ty, (Builtin.append_ #[t, t] ty #[v, .slice (some a) m c]).run Tryd.prog w = .ok (.slice ao (n + m) cap) w') ∧ Qr w' base e size (.slice ao (n + m) cap) (n + m) (xs ++ news) ∧ w.grownBy w' v.ownBlock ∧ ((Value.slice ao (n + m) cap).ownBlock = v.ownBlock ∨ ∃ k, (Value.slice ao (n + m) cap).ownBlock = some k ∧ w.heap.size ≤ k) := by
  obtain ⟨i0, hi0, hzz⟩ := Option.map_eq_some_iff.1 hi
  simp only [Prod.mk.injEq] at hzz
  obtain ⟨hz0, hz1, hz2⟩ := hzz
  obtain ⟨g1, h2⟩ := h
  have hlen : (xs ++ news).length = (n + m) * size := by rw [List.length_append, g1, hl, Nat.add_mul]
  rcases h2 with ⟨rfl, rfl⟩ | ⟨g, off, cap, cur, rfl, a2, a3, a4, a5, a6, a7⟩
  · obtain rfl : xs = [] := List.eq_nil_of_length_eq_zero (by rw [g1, Nat.zero_mul])
    obtain ⟨v', w', hrun, hown, hg, _, hat⟩ := run_append_own_at (P := Tryd.prog) w base t 0 e i0 z size bytes ht hi0 hz0 hz1 hz2 hzs hsz (.slice none 0 0) 0 [] ⟨by simp, Or.inl ⟨rfl, rfl⟩⟩ a m c news hl hnews h1 h63 hbytes hbase
    obtain ⟨ao, cap, rfl⟩ := (Qr.own hown).form
    exact ⟨ao, cap, w', fun ty => hrun, Qr.own hown, hg, hat.imp id fun e => ⟨_, e, Nat.le_refl _⟩⟩
  · have hcellg : ∀ j, w.cell? ⟨g, j, none⟩ = cur[j]? := fun j => cell_of_row w g j _ _ _ a3
    by_cases hr : n + m ≤ cap
    · have hcs : n * size + m * size ≤ cap * size := by rw [← Nat.add_mul]; exact Nat.mul_le_mul_right _ hr
      have hst : ∀ j, j < news.length → off + n * size + j < cur.size := fun j hj => by omega
      have hrun := fun ty => run_append_room_cells (P := Tryd.prog) w t ty e i0 ht hi0 g off n cap a m c news (by rw [hz1]; exact hl) hnews h1 hr (fun j hj => by rw [hz1, hcellg, Array.getElem?_eq_getElem (hst j hj)]; rfl) (fun j hj => by simp only [World.frozen?, a3]; simp)
      rw [hz1] at hrun
      have hs1 : cur.toList.length = cur.size := Array.length_toList
      have hcw : Cw w g (cur.toList.take (off + n * size) ++ (cur.toList.drop (off + n * size)).take news.length ++ (cur.toList.drop (off + n * size)).drop news.length) e := by
        rw [List.append_assoc, List.take_append_drop, List.take_append_drop]
        show w.heap[g]? = _
        rw [Array.toArray_toList]
        exact a3
      have hset := setCells_mid g e ((cur.toList.drop (off + n * size)).drop news.length) news (cur.toList.take (off + n * size)) ((cur.toList.drop (off + n * size)).take news.length) w hcw (by rw [List.length_take, List.length_drop]; omega)
      rw [show (cur.toList.take (off + n * size)).length = off + n * size by rw [List.length_take]; omega] at hset
      refine ⟨some ⟨g, off, none⟩, cap, _, hrun, ⟨hlen, Or.inr ⟨g, off, cap, _, rfl, a2, hset, hr, a5, ?_, ?_⟩⟩, ?_, Or.inl rfl⟩
      · simp only [List.size_toArray, List.length_append, List.length_take, List.length_drop]
        omega
      · simp only [List.append_assoc]
        rw [List.drop_append_of_le_length (by rw [List.length_take]; omega), List.drop_take, Nat.add_sub_cancel_left, a7, ← List.append_assoc, ← hlen]
        exact List.take_left
      · have := Only.sets g (off + n * size) w news
        exact ⟨this.os, this.tape, this.output, by rw [this.size]; exact Nat.le_refl _, fun k hk hne => this.block k fun e => hne (by rw [e]; rfl)⟩
    · have holds : ∀ j u, xs[j]? = some u → w.cell? ((⟨g, off, none⟩ : Addr).add j) = some u := fun j u hu => by
        rw [Addr.add_lit, hcellg, ← Array.getElem?_toList]
        rw [← a7] at hu
        have hj : j < n * size := by
          have := (List.getElem?_eq_some_iff.1 hu).1
          rw [List.length_take] at this
          omega
        rw [List.getElem?_take_of_lt hj, List.getElem?_drop] at hu
        exact hu
      obtain ⟨v', w', hrun, hown, hg⟩ := run_append_arg_grows (P := Tryd.prog) w t 0 e i0 z size bytes ht hi0 hz0 hz1 hz2 hzs hsz ⟨g, off, none⟩ n cap xs g1 holds a m c news hl hnews (by omega) h63 hbytes
      obtain ⟨ao, cap', rfl⟩ := (Qr.own hown).form
      have hlt := World.ownsRow.lt hown
      refine ⟨ao, cap', w', fun ty => hrun, (Qr.own hown).mono hbase, ⟨hg.os, hg.tape, hg.output, hg.size, fun k hk _ => hg.block k hk (by simp)⟩, Or.inr ?_⟩
      rcases hown.2 with ⟨_, h0⟩ | ⟨g', _, _, e1, _⟩
      · omega
      · simp only [Value.slice.injEq] at e1
        obtain ⟨rfl, _, _⟩ := e1
        exact ⟨g', rfl, (hlt g' rfl).1⟩
end Go.Proofs.YtahodgmdikaedaaDoor
