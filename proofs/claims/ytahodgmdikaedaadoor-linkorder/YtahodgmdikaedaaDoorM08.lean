/-
  Joined from: LkPlain.
-/
section
/-
  Chapter 16 in plain words, for both sides: an end of a link (Lk), what goes out (Pk), Send, Hear, Tick; what came is the first so many of what was sent. No walk, no number of a seat. W: how many may be under way; M: how many may wait.
-/
namespace Go.Proofs.YtahodgmdikaedaaDoor
/-- A packet: the row's number (0: none), the ack, the row. -/
structure Pk where
  n : Nat
  ack : Nat
  row : List Int
/-- An end: rows that have not been owned to, how many are under way, the first one's number, the last row that came, Ticks, packets that went out, that came in vain. -/
structure Lk where
  L : List (List Int)
  way : Nat
  first : Nat
  came : Nat
  since : Nat
  sent : Nat
  vain : Nat
def newL : Lk := ⟨[], 0, 1, 0, 0, 0, 0⟩
/-- The packet of the row of number n. -/
def Lk.pk (s : Lk) (n : Nat) : Pk := ⟨n, s.came, s.L.getD (n - s.first) []⟩
/-- How many may be under way. -/
def Lk.full (s : Lk) (W : Nat) : Nat := max s.way (min s.L.length W)
def Lk.outs (s : Lk) (W : Nat) : List Pk := (List.range' (s.first + s.way) (s.full W - s.way)).map s.pk
def Lk.goes (s : Lk) (W : Nat) : Lk := { s with way := s.full W, since := if s.way < s.full W then 0 else s.since, sent := s.sent + (s.full W - s.way) }
def sendE (s : Lk) (big M : Nat) (p : List Int) : Int := if big < p.length then 5 else if M ≤ s.L.length then 6 else 0
def Lk.put (s : Lk) (p : List Int) : Lk := { s with L := s.L ++ [p] }
/-- Rows that have been owned to. -/
def Lk.own (s : Lk) (ack : Nat) : Lk := { s with L := s.L.drop (min s.way (ack + 1 - s.first)), first := s.first + min s.way (ack + 1 - s.first), way := s.way - min s.way (ack + 1 - s.first) }
/-- What comes of a packet. -/
def Lk.come (s : Lk) (p : Pk) : Lk := if p.n = s.came + 1 then { s with came := s.came + 1 } else if 0 < p.n then { s with vain := s.vain + 1 } else s
def Lk.rows (s : Lk) (p : Pk) : List (List Int) := if p.n = s.came + 1 then [p.row] else []
def Lk.hear1 (s : Lk) (p : Pk) : Lk := (s.own p.ack).come p
def Lk.hearO (s : Lk) (W : Nat) (p : Pk) : List Pk := if 0 < p.n ∧ (s.hear1 p).outs W = [] then [⟨0, (s.hear1 p).came, []⟩] else (s.hear1 p).outs W
def Lk.hearS (s : Lk) (W : Nat) (p : Pk) : Lk := if 0 < p.n ∧ (s.hear1 p).outs W = [] then { (s.hear1 p).goes W with sent := ((s.hear1 p).goes W).sent + 1 } else (s.hear1 p).goes W
def Lk.tickO (s : Lk) : List Pk := if s.way = 0 ∨ s.since + 1 < 5 then [] else (List.range' s.first s.way).map s.pk
def Lk.tickS (s : Lk) : Lk := if s.way = 0 then { s with since := 0 } else if s.since + 1 < 5 then { s with since := s.since + 1 } else { s with since := 0, sent := s.sent + s.way }
/-- An end at which A was sent. -/
structure Lv (A : List (List Int)) (s : Lk) : Prop where
  f : 1 ≤ s.first
  l : s.L = A.drop (s.first - 1)
  le : s.first - 1 ≤ A.length
  w : s.way ≤ s.L.length
theorem Lv.len {A : List (List Int)} {s : Lk} (h : Lv A s) : s.L.length + (s.first - 1) = A.length := by
  rw [h.l, List.length_drop]
  have := h.le
  omega
theorem newL_ok : Lv [] newL := ⟨Nat.le_refl _, rfl, Nat.le_refl _, Nat.le_refl _⟩
/-- A packet that tells the truth of what was sent. -/
def Tr (A : List (List Int)) (p : Pk) : Prop := 0 < p.n → A[p.n - 1]? = some p.row
theorem Tr.more {A : List (List Int)} {p : Pk} (h : Tr A p) (x : List Int) : Tr (A ++ [x]) p := fun h0 => by
  have h1 := h h0
  rw [List.getElem?_append_left (List.getElem?_eq_some_iff.1 h1).1]
  exact h1
theorem pk_tr {A : List (List Int)} {s : Lk} (h : Lv A s) {n : Nat} (h1 : s.first ≤ n) (h2 : n < s.first + s.L.length) : Tr A (s.pk n) := fun _ => by
  have e : (s.pk n).row = s.L.getD (n - s.first) [] := rfl
  have e2 : s.L[n - s.first]? = some (s.L.getD (n - s.first) []) := by
    rw [List.getD, List.getElem?_eq_getElem (show n - s.first < s.L.length by omega)]
    rfl
  rw [e, ← e2]
  conv => rhs; rw [h.l]
  rw [List.getElem?_drop]
  have := h.f
  show A[n - 1]? = _
  congr 1
  omega
section
variable {A : List (List Int)} {s : Lk} {W : Nat}
theorem Lv.put (h : Lv A s) (p : List Int) : Lv (A ++ [p]) (s.put p) := by
  refine ⟨h.f, ?_, ?_, ?_⟩
  · show s.L ++ [p] = (A ++ [p]).drop (s.first - 1)
    rw [h.l, List.drop_append_of_le_length h.le]
  · show s.first - 1 ≤ _
    rw [List.length_append]
    have := h.le
    omega
  · show s.way ≤ (s.L ++ [p]).length
    rw [List.length_append]
    have := h.w
    omega
theorem full_le (h : Lv A s) : s.full W ≤ s.L.length := by
  have := h.w
  unfold Lk.full
  omega
theorem Lv.goes (h : Lv A s) : Lv A (s.goes W) := ⟨h.f, h.l, h.le, full_le h⟩
theorem outs_tr (h : Lv A s) : ∀ p ∈ s.outs W, Tr A p := fun p hp => by
  obtain ⟨n, hn, rfl⟩ := List.mem_map.1 hp
  rw [List.mem_range'_1] at hn
  have := full_le (W := W) h
  exact pk_tr h (by omega) (by omega)
theorem tick_tr (h : Lv A s) : ∀ p ∈ s.tickO, Tr A p := fun p hp => by
  unfold Lk.tickO at hp
  split at hp
  · cases hp
  · obtain ⟨n, hn, rfl⟩ := List.mem_map.1 hp
    rw [List.mem_range'_1] at hn
    have := h.w
    exact pk_tr h (by omega) (by omega)
theorem Lv.tick (h : Lv A s) : Lv A s.tickS := by
  unfold Lk.tickS
  split
  · exact ⟨h.f, h.l, h.le, h.w⟩
  · split <;> exact ⟨h.f, h.l, h.le, h.w⟩
theorem Lv.own (h : Lv A s) (ack : Nat) : Lv A (s.own ack) := by
  have hw := h.w
  have hf := h.f
  have hl := h.len
  have hle := h.le
  refine ⟨by show 1 ≤ s.first + _; omega, ?_, ?_, ?_⟩
  · show s.L.drop (min s.way (ack + 1 - s.first)) = A.drop (s.first + min s.way (ack + 1 - s.first) - 1)
    rw [h.l, List.drop_drop]
    congr 1
    omega
  · show s.first + min s.way (ack + 1 - s.first) - 1 ≤ A.length
    omega
  · show s.way - min s.way (ack + 1 - s.first) ≤ (s.L.drop (min s.way (ack + 1 - s.first))).length
    rw [List.length_drop]
    omega
theorem Lv.come (h : Lv A s) (p : Pk) : Lv A (s.come p) := by
  unfold Lk.come
  split
  · exact ⟨h.f, h.l, h.le, h.w⟩
  · split
    · exact ⟨h.f, h.l, h.le, h.w⟩
    · exact h
theorem Lv.hear (h : Lv A s) (p : Pk) : Lv A (s.hearS W p) := by
  have h1 := ((h.own p.ack).come p).goes (W := W)
  unfold Lk.hearS
  split
  · exact ⟨h1.f, h1.l, h1.le, h1.w⟩
  · exact h1
theorem hear_tr (h : Lv A s) (p : Pk) : ∀ q ∈ s.hearO W p, Tr A q := fun q hq => by
  unfold Lk.hearO at hq
  split at hq
  · simp only [List.mem_cons, List.not_mem_nil, or_false] at hq
    rw [hq]
    exact fun h0 => absurd h0 (Nat.lt_irrefl 0)
  · exact outs_tr ((h.own p.ack).come p) q hq
end
theorem come_came (s : Lk) (W : Nat) (p : Pk) : (s.hearS W p).came = if p.n = s.came + 1 then s.came + 1 else s.came := by
  have e : (s.hear1 p).came = if p.n = s.came + 1 then s.came + 1 else s.came := by
    unfold Lk.hear1 Lk.come
    show (if p.n = s.came + 1 then _ else _ : Lk).came = _
    split
    · rfl
    · split <;> rfl
  unfold Lk.hearS
  split <;> exact e
/-- What came at an end, of what was sent at the other one: the first so many. -/
structure Cm (B : List (List Int)) (s : Lk) (c : List (List Int)) : Prop where
  c : c = B.take s.came
  le : s.came ≤ B.length
theorem Cm.more {B c : List (List Int)} {s : Lk} (h : Cm B s c) (x : List Int) : Cm (B ++ [x]) s c := by
  refine ⟨?_, by rw [List.length_append]; have := h.le; omega⟩
  rw [List.take_append_of_le_length h.le]
  exact h.c
theorem Cm.hear {B c : List (List Int)} {s : Lk} (h : Cm B s c) (W : Nat) {p : Pk} (hp : Tr B p) : Cm B (s.hearS W p) (c ++ s.rows p) := by
  have e := come_came s W p
  by_cases c0 : p.n = s.came + 1
  · have h1 := hp (by omega)
    rw [show p.n - 1 = s.came by omega] at h1
    rw [if_pos c0] at e
    have hlt := (List.getElem?_eq_some_iff.1 h1).1
    refine ⟨?_, by rw [e]; exact hlt⟩
    rw [e, List.take_add_one, h1, h.c]
    unfold Lk.rows
    rw [if_pos c0]
    rfl
  · rw [if_neg c0] at e
    refine ⟨?_, by rw [e]; exact h.le⟩
    unfold Lk.rows
    rw [if_neg c0, List.append_nil, e]
    exact h.c
theorem Cm.same {B c : List (List Int)} {s t : Lk} (h : Cm B s c) (e : t.came = s.came) : Cm B t c := ⟨by rw [e]; exact h.c, by rw [e]; exact h.le⟩
theorem goes_came (s : Lk) (W : Nat) : (s.goes W).came = s.came := rfl
theorem tick_came (s : Lk) : s.tickS.came = s.came := by
  unfold Lk.tickS
  split
  · rfl
  · split <;> rfl
/-- Two ends, and packets under way to each: what came is the first so many of what was sent (LinkOrder). -/
structure Two (A B : List (List Int)) (x y : Lk) (toX toY : List Pk) (cx cy : List (List Int)) : Prop where
  lx : Lv A x
  ly : Lv B y
  px : ∀ p ∈ toX, Tr B p
  py : ∀ p ∈ toY, Tr A p
  kx : Cm B x cx
  ky : Cm A y cy
section
variable {A B : List (List Int)} {x y : Lk} {toX toY : List Pk} {cx cy : List (List Int)}
theorem Two.flip (h : Two A B x y toX toY cx cy) : Two B A y x toY toX cy cx := ⟨h.ly, h.lx, h.py, h.px, h.ky, h.kx⟩
theorem Two.send (h : Two A B x y toX toY cx cy) (W : Nat) (r : List Int) : Two (A ++ [r]) B ((x.put r).goes W) y toX (toY ++ (x.put r).outs W) cx cy :=
  ⟨(h.lx.put r).goes, h.ly, h.px, fun p hp => by
    rcases List.mem_append.1 hp with hp | hp
    · exact (h.py p hp).more r
    · exact outs_tr (h.lx.put r) p hp, h.kx.same rfl, h.ky.more r⟩
theorem Two.tick (h : Two A B x y toX toY cx cy) : Two A B x.tickS y toX (toY ++ x.tickO) cx cy :=
  ⟨h.lx.tick, h.ly, h.px, fun p hp => by
    rcases List.mem_append.1 hp with hp | hp
    · exact h.py p hp
    · exact tick_tr h.lx p hp, h.kx.same (tick_came x), h.ky⟩
theorem Two.hear (h : Two A B x y toX toY cx cy) (W : Nat) {p : Pk} (hp : p ∈ toX) (toX' : List Pk) (hx : ∀ q ∈ toX', q ∈ toX) : Two A B (x.hearS W p) y toX' (toY ++ x.hearO W p) (cx ++ x.rows p) cy :=
  ⟨h.lx.hear p, h.ly, fun q hq => h.px q (hx q hq), fun q hq => by
    rcases List.mem_append.1 hq with hq | hq
    · exact h.py q hq
    · exact hear_tr h.lx p q hq, h.kx.hear W (h.px p hp), h.ky⟩
theorem Two.first (h : Two A B x y toX toY cx cy) : cx.length ≤ B.length ∧ cx = B.take cx.length ∧ cy.length ≤ A.length ∧ cy = A.take cy.length := by
  have h1 := h.kx
  have h2 := h.ky
  have e1 : cx.length = x.came := by rw [h1.c, List.length_take, Nat.min_eq_left h1.le]
  have e2 : cy.length = y.came := by rw [h2.c, List.length_take, Nat.min_eq_left h2.le]
  exact ⟨by rw [e1]; exact h1.le, by rw [e1]; exact h1.c, by rw [e2]; exact h2.le, by rw [e2]; exact h2.c⟩
end
/-! One end sends, the other one only owns to what comes; packets in a row, first in first out (LinkEnds). -/
abbrev Qe := List (Bool × Pk)
def toY (Q : Qe) : List Nat := (Q.filter fun p => p.1).map fun p => p.2.n
def outX (l : List Pk) : Qe := l.map fun p => (true, p)
def outY (l : List Pk) : Qe := l.map fun p => (false, p)
theorem toY_app (P Q : Qe) : toY (P ++ Q) = toY P ++ toY Q := by simp [toY]
theorem toY_outX (l : List Pk) : toY (outX l) = l.map fun p => p.n := by
  induction l with
  | nil => rfl
  | cons p l ih =>
    show p.n :: toY (outX l) = p.n :: _
    rw [ih]
theorem toY_outY (l : List Pk) : toY (outY l) = [] := by
  induction l with
  | nil => rfl
  | cons p l ih => exact ih
/-- What holds whatever is lost. -/
structure En (A : List (List Int)) (W : Nat) (x y : Lk) (Q : Qe) : Prop where
  lx : Lv A x
  yL : y.L = []
  yw : y.way = 0
  tr : ∀ p ∈ Q, p.1 = true → 0 < p.2.n ∧ p.2.n < x.first + x.way
  tk : ∀ p ∈ Q, p.1 = false → p.2.n = 0 ∧ p.2.ack ≤ y.came
  lo : x.first ≤ y.came + 1
  hi : y.came + 1 ≤ x.first + x.way
  fw : x.way = min x.L.length W
/-- What holds besides when nothing is lost since all went out. -/
structure Pg (x y : Lk) (Q : Qe) : Prop where
  sub : (List.range' (y.came + 1) (x.first + x.way - (y.came + 1))).Sublist (toY Q)
  ak : x.first = y.came + 1 ∨ (∃ p ∈ Q, p.1 = false ∧ p.2.ack = y.came) ∨ ∃ p ∈ Q, p.1 = true
section
variable {A : List (List Int)} {W : Nat} {x y : Lk} {Q : Qe} {p : Pk}
theorem yHear (hL : y.L = []) (hw : y.way = 0) (hn : 0 < p.n) : (y.hearS W p).L = [] ∧ (y.hearS W p).way = 0 ∧ y.hearO W p = [⟨0, (y.hearS W p).came, []⟩] := by
  have e1 : (y.hear1 p).L = [] := by
    have e0 : (y.own p.ack).L = [] := by show y.L.drop _ = []; rw [hL]; exact List.drop_nil
    unfold Lk.hear1 Lk.come
    by_cases c : p.n = (y.own p.ack).came + 1
    · rw [if_pos c]; exact e0
    · rw [if_neg c, if_pos hn]; exact e0
  have e2 : (y.hear1 p).way = 0 := by
    have e0 : (y.own p.ack).way = 0 := by show y.way - _ = 0; omega
    unfold Lk.hear1 Lk.come
    by_cases c : p.n = (y.own p.ack).came + 1
    · rw [if_pos c]; exact e0
    · rw [if_neg c, if_pos hn]; exact e0
  have e3 : (y.hear1 p).full W = 0 := by unfold Lk.full; rw [e1, e2]; simp
  have e4 : (y.hear1 p).outs W = [] := by unfold Lk.outs; rw [e3, e2]; rfl
  refine ⟨?_, ?_, ?_⟩
  · unfold Lk.hearS
    rw [if_pos ⟨hn, e4⟩]
    exact e1
  · unfold Lk.hearS
    rw [if_pos ⟨hn, e4⟩]
    exact e3
  · unfold Lk.hearO Lk.hearS
    rw [if_pos ⟨hn, e4⟩, if_pos ⟨hn, e4⟩]
    rfl
theorem xHear (hn : p.n = 0) : x.hearS W p = (x.own p.ack).goes W ∧ x.hearO W p = (x.own p.ack).outs W := by
  have e : x.hear1 p = x.own p.ack := by
    unfold Lk.hear1 Lk.come
    rw [if_neg (by omega), if_neg (by omega)]
  have c : ¬ (0 < p.n ∧ (x.hear1 p).outs W = []) := fun h => by omega
  unfold Lk.hearS Lk.hearO
  rw [if_neg c, if_neg c, e]
  exact ⟨rfl, rfl⟩
/-- What an ack leaves. -/
theorem ownN (h : En A W x y Q) (k : Nat) : ∃ c, c = min x.way (k + 1 - x.first) ∧ ((x.own k).goes W).first = x.first + c ∧ ((x.own k).goes W).L.length = x.L.length - c ∧ ((x.own k).goes W).way = min (x.L.length - c) W ∧ (x.own k).outs W = (List.range' (x.first + x.way) (min (x.L.length - c) W - (x.way - c))).map (x.own k).pk ∧ x.way - c ≤ min (x.L.length - c) W := by
  have hf := h.fw
  have h1 := h.lx.w
  refine ⟨_, rfl, rfl, ?_, ?_, ?_, by omega⟩
  · show (x.L.drop _).length = _
    rw [List.length_drop]
  · show max (x.way - _) (min (x.L.drop _).length W) = _
    rw [List.length_drop]
    omega
  · unfold Lk.outs Lk.full
    show (List.range' (x.first + min x.way (k + 1 - x.first) + (x.way - min x.way (k + 1 - x.first))) (max (x.way - min x.way (k + 1 - x.first)) (min (x.L.drop (min x.way (k + 1 - x.first))).length W) - (x.way - min x.way (k + 1 - x.first)))).map _ = _
    rw [List.length_drop]
    congr 2 <;> omega
theorem En.popX (h : En A W x y ((false, p) :: Q)) : En A W (x.hearS W p) y (Q ++ outX (x.hearO W p)) := by
  obtain ⟨hn, hk⟩ := h.tk (false, p) (List.mem_cons_self ..) rfl
  obtain ⟨e1, e2⟩ := xHear (x := x) (W := W) hn
  obtain ⟨c, hc, f1, f2, f3, f4, f5⟩ := ownN h p.ack
  have hlo := h.lo
  have hhi := h.hi
  have hlx : Lv A (x.hearS W p) := h.lx.hear p
  simp only at hk hc f1 f2 f3 f4 f5
  rw [e1] at hlx ⊢
  rw [e2]
  refine ⟨hlx, h.yL, h.yw, fun q hq hb => ?_, fun q hq hb => ?_, by rw [f1]; omega, by rw [f1, f3]; omega, by rw [f2, f3]⟩
  · rw [f1, f3]
    rcases List.mem_append.1 hq with hq | hq
    · have := h.tr q (List.mem_cons_of_mem _ hq) hb
      omega
    · obtain ⟨r, hr, rfl⟩ := List.mem_map.1 hq
      rw [f4] at hr
      obtain ⟨n, hr2, rfl⟩ := List.mem_map.1 hr
      rw [List.mem_range'_1] at hr2
      have := h.lx.f
      show 0 < n ∧ n < _
      omega
  · rcases List.mem_append.1 hq with hq | hq
    · exact h.tk q (List.mem_cons_of_mem _ hq) hb
    · obtain ⟨r, _, rfl⟩ := List.mem_map.1 hq
      cases hb
theorem Pg.popX (h : En A W x y ((false, p) :: Q)) (g : Pg x y ((false, p) :: Q)) : Pg (x.hearS W p) y (Q ++ outX (x.hearO W p)) := by
  obtain ⟨hn, hk⟩ := h.tk (false, p) (List.mem_cons_self ..) rfl
  obtain ⟨e1, e2⟩ := xHear (x := x) (W := W) hn
  obtain ⟨c, hc, f1, f2, f3, f4, f5⟩ := ownN h p.ack
  have hlo := h.lo
  have hhi := h.hi
  simp only at hk hc f1 f2 f3 f4 f5
  rw [e1, e2]
  refine ⟨?_, ?_⟩
  · rw [f1, f3, f4, toY_app, toY_outX]
    have e : List.range' (y.came + 1) (x.first + c + min (x.L.length - c) W - (y.came + 1)) = List.range' (y.came + 1) (x.first + x.way - (y.came + 1)) ++ List.range' (x.first + x.way) (min (x.L.length - c) W - (x.way - c)) := by
      have hcw : c ≤ x.way := by omega
      have e0 := List.range'_append_1 (s := y.came + 1) (m := x.first + x.way - (y.came + 1)) (n := min (x.L.length - c) W - (x.way - c))
      rw [show y.came + 1 + (x.first + x.way - (y.came + 1)) = x.first + x.way by omega] at e0
      rw [e0]
      congr 1
      omega
    rw [e]
    refine List.Sublist.append ?_ ?_
    · have := g.sub
      exact this
    · rw [List.map_map]
      have : ((fun p : Pk => p.n) ∘ (x.own p.ack).pk) = id := rfl
      rw [this, List.map_id]
      exact List.Sublist.refl _
  · rcases g.ak with h1 | ⟨q, hq, hb, ha⟩ | ⟨q, hq, hb⟩
    · refine Or.inl ?_
      rw [f1]
      omega
    · rcases List.mem_cons.1 hq with rfl | hq
      · refine Or.inl ?_
        rw [f1]
        simp only at ha
        omega
      · exact Or.inr (Or.inl ⟨q, List.mem_append_left _ hq, hb, ha⟩)
    · rcases List.mem_cons.1 hq with rfl | hq
      · cases hb
      · exact Or.inr (Or.inr ⟨q, List.mem_append_left _ hq, hb⟩)
theorem En.popY (h : En A W x y ((true, p) :: Q)) : En A W x (y.hearS W p) (Q ++ outY (y.hearO W p)) := by
  obtain ⟨hn, hp⟩ := h.tr (true, p) (List.mem_cons_self ..) rfl
  simp only at hn hp
  obtain ⟨e1, e2, e3⟩ := yHear (W := W) h.yL h.yw hn
  have e4 := come_came y W p
  have hlo := h.lo
  have hhi := h.hi
  refine ⟨h.lx, e1, e2, fun q hq hb => ?_, fun q hq hb => ?_, by rw [e4]; split <;> omega, by rw [e4]; split <;> omega, h.fw⟩
  · rcases List.mem_append.1 hq with hq | hq
    · exact h.tr q (List.mem_cons_of_mem _ hq) hb
    · obtain ⟨r, _, rfl⟩ := List.mem_map.1 hq
      cases hb
  · rcases List.mem_append.1 hq with hq | hq
    · obtain ⟨g1, g2⟩ := h.tk q (List.mem_cons_of_mem _ hq) hb
      exact ⟨g1, by rw [e4]; split <;> omega⟩
    · rw [e3] at hq
      simp only [outY, List.map_cons, List.map_nil, List.mem_cons, List.not_mem_nil, or_false] at hq
      subst hq
      exact ⟨rfl, Nat.le_refl _⟩
theorem Pg.popY (h : En A W x y ((true, p) :: Q)) (g : Pg x y ((true, p) :: Q)) : Pg x (y.hearS W p) (Q ++ outY (y.hearO W p)) := by
  obtain ⟨hn, hp⟩ := h.tr (true, p) (List.mem_cons_self ..) rfl
  simp only at hn hp
  obtain ⟨e1, e2, e3⟩ := yHear (W := W) h.yL h.yw hn
  have e4 := come_came y W p
  have hhi := h.hi
  have hs := g.sub
  have ht : toY ((true, p) :: Q) = p.n :: toY Q := rfl
  rw [ht] at hs
  refine ⟨?_, ?_⟩
  · rw [toY_app, toY_outY, List.append_nil, e4]
    by_cases c : p.n = y.came + 1
    · rw [if_pos c]
      rw [show x.first + x.way - (y.came + 1) = (x.first + x.way - (y.came + 1 + 1)) + 1 by omega, List.range'_succ, c] at hs
      exact List.Sublist.of_cons_cons hs
    · rw [if_neg c]
      cases hm : x.first + x.way - (y.came + 1) with
      | zero => exact List.nil_sublist _
      | succ m =>
        rw [hm, List.range'_succ] at hs
        rw [List.range'_succ]
        rcases List.sublist_cons_iff.1 hs with h2 | ⟨r, h2, _⟩
        · exact h2
        · rw [List.cons.injEq] at h2
          exact absurd h2.1.symm c
  · refine Or.inr (Or.inl ⟨(false, ⟨0, (y.hearS W p).came, []⟩), List.mem_append_right _ ?_, rfl, rfl⟩)
    rw [e3]
    exact List.mem_cons_self ..
/-- When no packet is under way any more, all came, and all is owned to. -/
theorem Pg.done (h : En A W x y []) (g : Pg x y []) (hW : 0 < W) : x.L = [] ∧ y.came = A.length := by
  have h1 := List.Sublist.length_le g.sub
  rw [List.length_range'] at h1
  have h2 : x.first + x.way - (y.came + 1) ≤ 0 := h1
  have h3 := h.hi
  have h4 : x.first = y.came + 1 := by
    rcases g.ak with h4 | ⟨_, h4, _⟩ | ⟨_, h4, _⟩
    · exact h4
    · cases h4
    · cases h4
  have h5 := h.fw
  have h6 := h.lx.len
  have h7 : x.L.length = 0 := by omega
  exact ⟨List.eq_nil_of_length_eq_zero h7, by omega⟩
/-- All that is under way goes out once more, no other packet being under way. -/
theorem Pg.again (h : En A W x y []) : Pg x y (outX ((List.range' x.first x.way).map x.pk)) := by
  have hlo := h.lo
  have hhi := h.hi
  refine ⟨?_, ?_⟩
  · rw [toY_outX, List.map_map]
    have : ((fun p : Pk => p.n) ∘ x.pk) = id := rfl
    rw [this, List.map_id]
    rw [show x.way = (y.came + 1 - x.first) + (x.first + x.way - (y.came + 1)) by omega, ← List.range'_append_1, show x.first + (y.came + 1 - x.first) = y.came + 1 by omega]
    rw [show x.first + (y.came + 1 - x.first + (x.first + x.way - (y.came + 1))) - (y.came + 1) = x.first + x.way - (y.came + 1) by omega]
    exact List.sublist_append_right _ _
  · by_cases c : x.way = 0
    · exact Or.inl (by omega)
    · refine Or.inr (Or.inr ⟨(true, x.pk x.first), ?_, rfl⟩)
      refine List.mem_map.2 ⟨x.pk x.first, List.mem_map.2 ⟨x.first, ?_, rfl⟩, rfl⟩
      rw [List.mem_range'_1]
      omega
/-- How many packets may still be heard till none is under way. -/
def pot (x : Lk) (Q : Qe) : Nat := (toY Q).length + Q.length + 2 * (x.L.length - x.way)
theorem pot_popX (h : En A W x y ((false, p) :: Q)) : pot (x.hearS W p) (Q ++ outX (x.hearO W p)) + 1 = pot x ((false, p) :: Q) := by
  obtain ⟨hn, hk⟩ := h.tk (false, p) (List.mem_cons_self ..) rfl
  obtain ⟨e1, e2⟩ := xHear (x := x) (W := W) hn
  obtain ⟨c, hc, f1, f2, f3, f4, f5⟩ := ownN h p.ack
  have hw := h.lx.w
  have hf := h.fw
  unfold pot
  rw [e1, e2, f2, f3, toY_app, toY_outX, f4]
  simp only [List.length_append, List.length_map, List.length_range', outX, List.length_cons, show toY ((false, p) :: Q) = toY Q from rfl]
  omega
theorem pot_popY (h : En A W x y ((true, p) :: Q)) : pot x (Q ++ outY (y.hearO W p)) + 1 = pot x ((true, p) :: Q) := by
  obtain ⟨hn, hp⟩ := h.tr (true, p) (List.mem_cons_self ..) rfl
  obtain ⟨e1, e2, e3⟩ := yHear (W := W) h.yL h.yw hn
  unfold pot
  rw [toY_app, toY_outY, e3]
  simp only [List.length_append, outY, List.map_cons, List.map_nil, List.length_cons, List.length_nil, show toY ((true, p) :: Q) = p.n :: toY Q from rfl]
  omega
/-- A packet is lost. -/
theorem En.lost {q : Bool × Pk} (h : En A W x y (q :: Q)) : En A W x y Q :=
  ⟨h.lx, h.yL, h.yw, fun r hr hb => h.tr r (List.mem_cons_of_mem _ hr) hb, fun r hr hb => h.tk r (List.mem_cons_of_mem _ hr) hb, h.lo, h.hi, h.fw⟩
theorem tick_same (s : Lk) : s.tickS.L = s.L ∧ s.tickS.way = s.way ∧ s.tickS.first = s.first ∧ s.tickS.came = s.came := by
  unfold Lk.tickS
  split
  · exact ⟨rfl, rfl, rfl, rfl⟩
  · split <;> exact ⟨rfl, rfl, rfl, rfl⟩
/-- A Tick of either end. -/
theorem En.tick (h : En A W x y Q) : En A W x.tickS y.tickS (Q ++ outX x.tickO) ∧ y.tickO = [] := by
  obtain ⟨a1, a2, a3, a4⟩ := tick_same x
  obtain ⟨b1, b2, b3, b4⟩ := tick_same y
  refine ⟨⟨h.lx.tick, by rw [b1]; exact h.yL, by rw [b2]; exact h.yw, fun q hq hb => ?_, fun q hq hb => ?_, by rw [a3, b4]; exact h.lo, by rw [a3, a2, b4]; exact h.hi, by rw [a1, a2]; exact h.fw⟩, ?_⟩
  · rw [a3, a2]
    rcases List.mem_append.1 hq with hq | hq
    · exact h.tr q hq hb
    · obtain ⟨r, hr, rfl⟩ := List.mem_map.1 hq
      unfold Lk.tickO at hr
      split at hr
      · cases hr
      · obtain ⟨n, hn, rfl⟩ := List.mem_map.1 hr
        rw [List.mem_range'_1] at hn
        have := h.lx.f
        show 0 < n ∧ n < _
        omega
  · rw [b4]
    rcases List.mem_append.1 hq with hq | hq
    · exact h.tk q hq hb
    · obtain ⟨r, _, rfl⟩ := List.mem_map.1 hq
      cases hb
  · unfold Lk.tickO
    rw [if_pos (Or.inl h.yw)]
/-- The fifth Tick, no packet being under way: from there on nothing is lost. -/
theorem Pg.tick (h : En A W x y []) (h5 : 4 ≤ x.since) : Pg x.tickS y.tickS (outX x.tickO) := by
  obtain ⟨a1, a2, a3, a4⟩ := tick_same x
  obtain ⟨b1, b2, b3, b4⟩ := tick_same y
  have g := Pg.again h
  by_cases c : x.way = 0
  · have e : x.tickO = [] := by unfold Lk.tickO; rw [if_pos (Or.inl c)]
    rw [c] at g
    obtain ⟨g1, g2⟩ := g
    rw [e]
    refine ⟨by rw [a3, a2, b4]; exact g1, ?_⟩
    rw [a3, b4]
    rcases g2 with g2 | ⟨_, g2, _⟩ | ⟨_, g2, _⟩
    · exact Or.inl g2
    · cases g2
    · cases g2
  · have e : x.tickO = (List.range' x.first x.way).map x.pk := by unfold Lk.tickO; rw [if_neg (by omega)]
    rw [e]
    exact ⟨by rw [a3, a2, b4]; exact g.sub, by rw [a3, b4]; exact g.ak⟩
end
end Go.Proofs.YtahodgmdikaedaaDoor
end
