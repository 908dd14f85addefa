/-
  LinkWindow in plain words: what goes out as rows of one byte are Sent and owned to. No walk.
-/
import Derived.Test.YtahodgmdikaedaaDoorM08
namespace Go.Proofs.YtahodgmdikaedaaDoor
/-- The packet of the row of place j. -/
def wp (j : Nat) : Pk := ⟨j + 1, 0, [(j : Int)]⟩
def wr (c k : Nat) : List (List Int) := (List.range' c k).map fun (j : Nat) => [(j : Int)]
def wps (c k : Nat) : List Pk := (List.range' c k).map wp
theorem wr_len (c k : Nat) : (wr c k).length = k := by simp [wr]
theorem wps_len (c k : Nat) : (wps c k).length = k := by simp [wps]
theorem wr_getD (c k i : Nat) (h : i < k) : (wr c k).getD i [] = [((c + i : Nat) : Int)] := by
  rw [List.getD, wr, List.getElem?_map, List.getElem?_range' h]
  simp
theorem wr_more (c k : Nat) : wr c k ++ [[((c + k : Nat) : Int)]] = wr c (k + 1) := by
  unfold wr
  rw [← List.range'_append_1 (s := c) (m := k) (n := 1)]
  simp
theorem wr_drop (c k m : Nat) : (wr c k).drop m = wr (c + m) (k - m) := by
  unfold wr
  rw [← List.map_drop, List.drop_range']
  simp
theorem wps_cons (c k : Nat) : wps c (k + 1) = wp c :: wps (c + 1) k := by simp [wps, List.range'_succ]
theorem wps_app (c k m : Nat) : wps c k ++ wps (c + k) m = wps c (k + m) := by
  unfold wps
  rw [← List.map_append, List.range'_append_1]
/-- The first end: n rows Sent, c of them owned to. -/
structure Wa (n c : Nat) (s : Lk) : Prop where
  l : s.L = wr c (n - c)
  f : s.first = c + 1
  w : s.way = min 16 (n - c)
  k : s.came = 0
  g : s.sent ≤ 16 * (n + c)
  v : s.vain = 0
theorem Wa.pk {n c : Nat} {s : Lk} (h : Wa n c s) {j : Nat} (h1 : c ≤ j) (h2 : j < n) : s.pk (j + 1) = wp j := by
  unfold Lk.pk wp
  rw [h.k, h.l, h.f, show j + 1 - (c + 1) = j - c by omega, wr_getD _ _ _ (by omega), show c + (j - c) = j by omega]
theorem Wa.pks {n c : Nat} {s : Lk} (h : Wa n c s) (a k : Nat) (h1 : c ≤ a) (h2 : a + k ≤ n) : (List.range' (a + 1) k).map s.pk = wps a k := by
  unfold wps
  have e : List.range' (a + 1) k = (List.range' a k).map (· + 1) := by
    apply List.ext_getElem
    · simp
    · intro i h1 h2
      simp
      omega
  rw [e, List.map_map]
  refine List.map_congr_left fun j hj => ?_
  rw [List.mem_range'_1] at hj
  exact h.pk (by omega) (by omega)
theorem Wa.put {n : Nat} {s : Lk} (h : Wa n 0 s) : Wa (n + 1) 0 ((s.put [(n : Int)]).goes 16) ∧ (s.put [(n : Int)]).outs 16 = if n < 16 then [wp n] else [] := by
  have hl := h.l
  have hf := h.f
  have hw := h.w
  have hs := h.g
  have el : (s.put [(n : Int)]).L = wr 0 (n + 1) := by
    show s.L ++ [[(n : Int)]] = _
    rw [hl, ← wr_more]
    simp
  have ell : (s.put [(n : Int)]).L.length = n + 1 := by rw [el, wr_len]
  have ef : (s.put [(n : Int)]).full 16 = min 16 (n + 1) := by
    unfold Lk.full
    rw [ell]
    show max s.way _ = _
    omega
  have g : Wa (n + 1) 0 ((s.put [(n : Int)]).goes 16) := by
    refine ⟨by show (s.put [(n : Int)]).L = _; rw [el]; rfl, hf, by show (s.put [(n : Int)]).full 16 = _; rw [ef]; rfl, h.k, ?_, h.v⟩
    show s.sent + ((s.put [(n : Int)]).full 16 - s.way) ≤ _
    rw [ef]
    omega
  refine ⟨g, ?_⟩
  unfold Lk.outs
  rw [ef]
  show (List.range' (s.first + s.way) (min 16 (n + 1) - s.way)).map (s.put [(n : Int)]).pk = _
  have e := g.pks s.way (min 16 (n + 1) - s.way) (Nat.zero_le _) (by omega)
  rw [hf, show 0 + 1 + s.way = s.way + 1 by omega]
  have e' : (List.range' (s.way + 1) (min 16 (n + 1) - s.way)).map (s.put [(n : Int)]).pk = wps s.way (min 16 (n + 1) - s.way) := e
  rw [e']
  split
  · rw [show s.way = n by omega, show min 16 (n + 1) - n = 1 by omega]; rfl
  · rw [show min 16 (n + 1) - s.way = 0 by omega]; rfl
theorem Wa.own {n c : Nat} {s : Lk} (h : Wa n c s) (hc : c < n) : Wa n (c + 1) (s.hearS 16 ⟨0, c + 1, []⟩) ∧ s.hearO 16 ⟨0, c + 1, []⟩ = wps (c + min 16 (n - c)) (min 16 (n - (c + 1)) - (min 16 (n - c) - 1)) := by
  have hl := h.l
  have hf := h.f
  have hw := h.w
  have hs := h.g
  have em : min s.way (c + 1 + 1 - s.first) = 1 := by omega
  obtain ⟨x, hx⟩ : ∃ x, x = s.own (c + 1) := ⟨_, rfl⟩
  have xl : x.L = wr (c + 1) (n - (c + 1)) := by
    rw [hx]
    show s.L.drop (min s.way (c + 1 + 1 - s.first)) = _
    rw [em, hl, wr_drop]; rfl
  have xf : x.first = c + 1 + 1 := by rw [hx]; show s.first + min s.way (c + 1 + 1 - s.first) = _; rw [em, hf]
  have xw : x.way = min 16 (n - c) - 1 := by rw [hx]; show s.way - min s.way (c + 1 + 1 - s.first) = _; rw [em, hw]
  have xk : x.came = 0 := by rw [hx]; exact h.k
  have xs : x.sent = s.sent := by rw [hx]; rfl
  have xv : x.vain = 0 := by rw [hx]; exact h.v
  have x1 : s.hear1 ⟨0, c + 1, []⟩ = x := by
    unfold Lk.hear1
    show (s.own (c + 1)).come _ = _
    rw [← hx]
    unfold Lk.come
    rw [if_neg (by simp), if_neg (by simp)]
  have e1 : s.hearS 16 ⟨0, c + 1, []⟩ = x.goes 16 := by unfold Lk.hearS; rw [if_neg (by simp), x1]
  have e2 : s.hearO 16 ⟨0, c + 1, []⟩ = x.outs 16 := by unfold Lk.hearO; rw [if_neg (by simp), x1]
  have ef : x.full 16 = min 16 (n - (c + 1)) := by
    unfold Lk.full
    rw [xl, wr_len, xw]
    omega
  have g : Wa n (c + 1) (x.goes 16) := by
    refine ⟨xl, xf, by show x.full 16 = _; rw [ef], xk, ?_, xv⟩
    show x.sent + (x.full 16 - x.way) ≤ _
    rw [ef, xs]
    omega
  rw [e1, e2]
  refine ⟨g, ?_⟩
  unfold Lk.outs
  rw [ef, xw, xf]
  have e := g.pks (c + min 16 (n - c)) (min 16 (n - (c + 1)) - (min 16 (n - c) - 1)) (by omega) (by omega)
  rw [show c + 1 + 1 + (min 16 (n - c) - 1) = c + min 16 (n - c) + 1 by omega]
  exact e
/-- The other end: c rows came. -/
structure Wb (c : Nat) (y : Lk) : Prop where
  l : y.L = []
  w : y.way = 0
  f : y.first = 1
  k : y.came = c
  g : y.sent = c
  v : y.vain = 0
theorem Wb.hear {c : Nat} {y : Lk} (h : Wb c y) : Wb (c + 1) (y.hearS 16 (wp c)) ∧ y.rows (wp c) = [[(c : Int)]] ∧ y.hearO 16 (wp c) = [⟨0, c + 1, []⟩] := by
  have hl := h.l
  have hw := h.w
  have hf := h.f
  obtain ⟨x, hx⟩ : ∃ x, x = y.hear1 (wp c) := ⟨_, rfl⟩
  have x0 : x = { y.own 0 with came := y.came + 1 } := by
    rw [hx]
    unfold Lk.hear1 Lk.come
    rw [if_pos (by show c + 1 = y.came + 1; rw [h.k])]
    rfl
  have xl : x.L = [] := by rw [x0]; show y.L.drop _ = _; rw [hl]; simp
  have xw : x.way = 0 := by rw [x0]; show y.way - _ = _; rw [hw]; simp
  have xf : x.first = 1 := by rw [x0]; show y.first + min y.way _ = _; rw [hw, hf]; simp
  have xk : x.came = c + 1 := by rw [x0]; show y.came + 1 = _; rw [h.k]
  have xs : x.sent = c := by rw [x0]; exact h.g
  have xv : x.vain = 0 := by rw [x0]; exact h.v
  have ef : x.full 16 = 0 := by unfold Lk.full; rw [xl, xw]; simp
  have eo : x.outs 16 = [] := by unfold Lk.outs; rw [ef, xw]; rfl
  refine ⟨?_, ?_, ?_⟩
  · unfold Lk.hearS
    rw [← hx, if_pos ⟨by show 0 < c + 1; omega, eo⟩]
    exact ⟨xl, by show x.full 16 = 0; exact ef, xf, xk, by show x.sent + (x.full 16 - x.way) + 1 = _; rw [ef, xw, xs], xv⟩
  · unfold Lk.rows
    rw [if_pos (by show c + 1 = y.came + 1; rw [h.k])]
    rfl
  · unfold Lk.hearO
    rw [← hx, if_pos ⟨by show 0 < c + 1; omega, eo⟩, xk]
end Go.Proofs.YtahodgmdikaedaaDoor
