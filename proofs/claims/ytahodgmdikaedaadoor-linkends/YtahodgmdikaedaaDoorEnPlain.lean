/-
  LinkEnds in plain words: how far the rounds behind the last loss are; bounds. No walk.
-/
import Derived.Test.YtahodgmdikaedaaDoorM09
namespace Go.Proofs.YtahodgmdikaedaaDoor
/-- All came, all is owned to. -/
def Dn (A : List (List Int)) (x y : Lk) : Prop := x.L = [] ∧ y.came = A.length
section
variable {A : List (List Int)} {x y : Lk} {Q : Qe}
theorem Dn.way (h : Dn A x y) (e : En A 16 x y Q) : x.way = 0 := by
  have := e.fw
  rw [h.1] at this
  simpa using this
/-- Where nothing is under way, all came. -/
theorem En.rest (e : En A 16 x y []) (h : x.way = 0) : Dn A x y := by
  have h1 := e.fw
  have h2 := e.lo
  have h3 := e.hi
  have h4 := e.lx.len
  have h5 : x.L.length = 0 := by omega
  exact ⟨List.eq_nil_of_length_eq_zero h5, by omega⟩
/-- j rounds behind the last loss, at a round's top. -/
def Ph (A : List (List Int)) (j : Nat) (x y : Lk) (Q : Qe) : Prop := (Dn A x y ∧ Q = []) ∨ (Pg x y Q ∧ j ≤ 5) ∨ (Q = [] ∧ j ≤ x.since ∧ x.since ≤ 4)
theorem Ph.done {j : Nat} (h : Ph A j x y Q) (hj : 6 ≤ j) : Dn A x y ∧ Q = [] := by
  rcases h with h | h | h
  · exact h
  · omega
  · omega
/-- What an inner loop without a loss leaves of it. -/
def Pm (A : List (List Int)) (j : Nat) (x y : Lk) : Prop := Dn A x y ∨ (j ≤ x.since ∧ x.since ≤ 4)
theorem Pm.tick {j : Nat} (e : En A 16 x y []) (h : Pm A j x y) : Ph A (j + 1) x.tickS y.tickS (outX x.tickO) := by
  obtain ⟨a1, a2, a3, a4⟩ := tick_same x
  obtain ⟨b1, b2, b3, b4⟩ := tick_same y
  by_cases c : x.way = 0
  · have hd := En.rest e c
    have eo : x.tickO = [] := by unfold Lk.tickO; rw [if_pos (Or.inl c)]
    rw [eo]
    exact Or.inl ⟨⟨by rw [a1]; exact hd.1, by rw [b4]; exact hd.2⟩, rfl⟩
  · rcases h with h | ⟨h1, h2⟩
    · exact absurd (h.way e) c
    · by_cases c2 : x.since + 1 < 5
      · have eo : x.tickO = [] := by unfold Lk.tickO; rw [if_pos (Or.inr c2)]
        have es : x.tickS.since = x.since + 1 := by unfold Lk.tickS; rw [if_neg c, if_pos c2]
        rw [eo]
        exact Or.inr (Or.inr ⟨rfl, by omega, by omega⟩)
      · exact Or.inr (Or.inl ⟨Pg.tick e (by omega), by omega⟩)
/-- Bounds of an end's counts. -/
structure Bd (c : Nat) (s : Lk) : Prop where
  g : s.sent ≤ c
  v : s.vain ≤ c
theorem Bd.mono {c d : Nat} {s : Lk} (h : Bd c s) (hd : c ≤ d) : Bd d s := ⟨Nat.le_trans h.g hd, Nat.le_trans h.v hd⟩
theorem Bd.tick {c : Nat} {s : Lk} (h : Bd c s) (hw : s.way ≤ 16) : Bd (c + 16) s.tickS := by
  have h1 := h.g
  have h2 := h.v
  unfold Lk.tickS
  split
  · exact ⟨Nat.le_trans h1 (by omega), Nat.le_trans h2 (by omega)⟩
  · split
    · exact ⟨Nat.le_trans h1 (by omega), Nat.le_trans h2 (by omega)⟩
    · exact ⟨by show s.sent + s.way ≤ _; omega, Nat.le_trans h2 (by omega)⟩
theorem Bd.goes {c : Nat} {s : Lk} (h : Bd c s) : Bd (c + 16) (s.goes 16) := by
  have h1 := h.g
  have h2 := h.v
  refine ⟨?_, Nat.le_trans h2 (by omega)⟩
  show s.sent + (s.full 16 - s.way) ≤ _
  unfold Lk.full
  omega
theorem Bd.hear {c : Nat} {s : Lk} (h : Bd c s) (p : Pk) : Bd (c + 17) (s.hearS 16 p) := by
  have h1 := h.g
  have h2 := h.v
  have hb : Bd (c + 1) (s.hear1 p) := by
    unfold Lk.hear1 Lk.come
    split
    · exact ⟨Nat.le_trans h1 (by omega), Nat.le_trans h2 (by omega)⟩
    · split
      · exact ⟨Nat.le_trans h1 (by omega), by show s.vain + 1 ≤ _; omega⟩
      · exact ⟨Nat.le_trans h1 (by omega), Nat.le_trans h2 (by omega)⟩
  have hs0 : (s.hear1 p).sent = s.sent := by unfold Lk.hear1 Lk.come; split; rfl; split <;> rfl
  unfold Lk.hearS
  split
  · next hc =>
    have h0 : (s.hear1 p).full 16 - (s.hear1 p).way = 0 := by
      have := hc.2
      unfold Lk.outs at this
      have := congrArg List.length this
      simpa using this
    exact ⟨by show (s.hear1 p).sent + ((s.hear1 p).full 16 - (s.hear1 p).way) + 1 ≤ _; omega, Nat.le_trans hb.v (by omega)⟩
  · have := hb.goes
    exact ⟨Nat.le_trans this.g (by omega), Nat.le_trans this.v (by omega)⟩
theorem since_hear {s : Lk} (h : s.since ≤ 4) (p : Pk) : (s.hearS 16 p).since ≤ 4 := by
  have h1 : (s.hear1 p).since ≤ 4 := by
    unfold Lk.hear1 Lk.come
    split
    · exact h
    · split <;> exact h
  have h2 : ((s.hear1 p).goes 16).since ≤ 4 := by
    show (if _ then 0 else _) ≤ 4
    split
    · omega
    · exact h1
  unfold Lk.hearS
  split
  · exact h2
  · exact h2
theorem since_tick {s : Lk} (h : s.since ≤ 4) : s.tickS.since ≤ 4 := by
  unfold Lk.tickS
  split
  · show 0 ≤ 4; omega
  · split
    · show s.since + 1 ≤ 4; omega
    · show 0 ≤ 4; omega
end
/-- A queue of packets, as bytes. -/
def qB (Q : Qe) : List (Int × List Int) := Q.map fun q => (if q.1 = true then 1 else 0, encP 3 q.2)
theorem qB_app (P Q : Qe) : qB (P ++ Q) = qB P ++ qB Q := by simp [qB]
theorem qB_outX (l : List Pk) : qB (outX l) = (l.map (encP 3)).map fun z => (1 - (0 : Int), z) := by
  simp [qB, outX]
theorem qB_outY (l : List Pk) : qB (outY l) = (l.map (encP 3)).map fun z => (1 - (1 : Int), z) := by
  simp [qB, outY]
end Go.Proofs.YtahodgmdikaedaaDoor
