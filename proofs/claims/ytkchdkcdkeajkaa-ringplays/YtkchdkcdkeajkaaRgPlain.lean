/-
  A ring in plain words: the states L from frame a on, at most n of them. No walk.
-/
import Derived.Test.YtkchdkcdkeajkaaRgRows
import Derived.Test.YtkchdkcdkeajkaaStepWf
namespace Go.Proofs.Ytkchdkcdkeajkaa
structure Rk (n a : Nat) (L : List Sp) : Prop where
  fit : Fit L
  is : ∀ s ∈ L, isS s = true
  run : ∀ i s, L[i]? = some s → s.frame = ((a + i : Nat) : Int)
  len : L.length ≤ n
  zero : L = [] → a = 0
theorem isS_frame {s : Sp} (h : isS s = true) : 0 ≤ s.frame ∧ s.frame ≤ 600 := by
  simp only [isS, decide_eq_true_eq] at h
  omega
theorem Rk.top {n a : Nat} {L : List Sp} (h : Rk n a L) : a + L.length ≤ 601 := by
  by_cases e : L = []
  · rw [h.zero e, e]; simp
  · have hl : 0 < L.length := List.length_pos_iff.2 e
    have h1 : L[L.length - 1]? = some L[L.length - 1] := List.getElem?_eq_getElem (by omega)
    have h2 := h.run _ _ h1
    have h3 := isS_frame (h.is _ (List.mem_of_getElem? h1))
    omega
theorem Rk.nil (n : Nat) : Rk n 0 [] := ⟨Fit.nil, fun s hs => (by cases hs), fun i s hs => (by simp at hs), Nat.zero_le _, fun _ => rfl⟩
def putE (a : Nat) (L : List Sp) (s : Sp) : Int := if isS s = false ∨ (L ≠ [] ∧ (((a + L.length : Nat) : Int) < s.frame ∨ s.frame < (a : Int))) then 1 else 0
def a0 (a : Nat) (L : List Sp) (s : Sp) : Nat := if L = [] then s.frame.toNat else a
def putX (a : Nat) (L : List Sp) (s : Sp) : List Sp := L.take (s.frame.toNat - a0 a L s) ++ [s]
def putL (n a : Nat) (L : List Sp) (s : Sp) : List Sp := if putE a L s = 0 then (if n < (putX a L s).length then (putX a L s).drop 1 else putX a L s) else L
def putA (n a : Nat) (L : List Sp) (s : Sp) : Nat := if putE a L s = 0 then (if n < (putX a L s).length then a0 a L s + 1 else a0 a L s) else a
/-- The places of a ring hold its states. -/
structure Pl (n a : Nat) (L ps : List Sp) : Prop where
  len : ps.length = n
  fit : Fit ps
  at' : ∀ i s, L[i]? = some s → ps[(a + i) % n]? = some s
theorem Pl.nil (n : Nat) : Pl n 0 [] (List.replicate n noS) := ⟨by simp, fun s hs => (by rw [List.eq_of_mem_replicate hs]; exact noS_wf), fun i s hs => (by simp at hs)⟩
theorem putE_ok {a : Nat} {L : List Sp} {s : Sp} (h : putE a L s = 0) : isS s = true ∧ (L ≠ [] → s.frame ≤ ((a + L.length : Nat) : Int) ∧ (a : Int) ≤ s.frame) := by
  unfold putE at h
  by_cases c : isS s = false ∨ (L ≠ [] ∧ (((a + L.length : Nat) : Int) < s.frame ∨ s.frame < (a : Int)))
  · rw [if_pos c] at h; cases h
  · refine ⟨?_, fun hl => ?_⟩
    · cases e : isS s
      · exact absurd (Or.inl e) c
      · rfl
    · constructor
      · exact Int.not_lt.1 fun e => c (Or.inr ⟨hl, Or.inl e⟩)
      · exact Int.not_lt.1 fun e => c (Or.inr ⟨hl, Or.inr e⟩)
theorem putE_cases (a : Nat) (L : List Sp) (s : Sp) : putE a L s = 0 ∨ putE a L s = 1 := by
  unfold putE; split
  · exact Or.inr rfl
  · exact Or.inl rfl
/-- What the list is ahead of what is forgotten. -/
structure PutF (a : Nat) (L : List Sp) (s : Sp) (f k : Nat) : Prop where
  ff : s.frame = (f : Int)
  fk : f = a0 a L s + k
  kk : k ≤ L.length
  f6 : f ≤ 600
  xx : putX a L s = L.take k ++ [s]
  nil : L = [] → k = 0
theorem putF {a : Nat} {L : List Sp} {s : Sp} (he : putE a L s = 0) : ∃ f k, PutF a L s f k := by
  obtain ⟨h1, h2⟩ := putE_ok he
  have hf := isS_frame h1
  refine ⟨s.frame.toNat, s.frame.toNat - a0 a L s, by omega, ?_, ?_, by omega, rfl, ?_⟩
  · unfold a0
    split
    · omega
    · rename_i hl
      have := h2 hl
      omega
  · unfold a0
    split
    · omega
    · rename_i hl
      have := h2 hl
      omega
  · intro hl
    unfold a0
    rw [if_pos hl]
    omega
theorem putX_len {a : Nat} {L : List Sp} {s : Sp} {f k : Nat} (h : PutF a L s f k) : (putX a L s).length = k + 1 := by
  rw [h.xx]
  simp [h.kk]
theorem putX_at {a : Nat} {L : List Sp} {s : Sp} {f k : Nat} (h : PutF a L s f k) (i : Nat) (t : Sp) (hi : (putX a L s)[i]? = some t) : (i < k ∧ L[i]? = some t) ∨ (i = k ∧ t = s) := by
  rw [h.xx] at hi
  have hk : (L.take k).length = k := by simp [h.kk]
  by_cases c : i < k
  · rw [List.getElem?_append_left (by omega), List.getElem?_take_of_lt c] at hi
    exact Or.inl ⟨c, hi⟩
  · rw [List.getElem?_append_right (by omega), hk] at hi
    have : i - k = 0 := by
      have := (List.getElem?_eq_some_iff.1 hi).1
      simp at this
      omega
    rw [this] at hi
    simp at hi
    exact Or.inr ⟨by omega, hi.symm⟩
theorem Rk.put {n a : Nat} {L : List Sp} {s : Sp} (h : Rk n a L) (hn : 1 ≤ n) (hs : Gs s) : Rk n (putA n a L s) (putL n a L s) := by
  unfold putL putA
  by_cases he : putE a L s = 0
  · rw [if_pos he, if_pos he]
    obtain ⟨f, k, hF⟩ := putF he
    have hlx := putX_len hF
    obtain ⟨h1, h2⟩ := putE_ok he
    have ha : L ≠ [] → a0 a L s = a := fun hl => by unfold a0; rw [if_neg hl]
    have key : ∀ i t, (putX a L s)[i]? = some t → t.Wf ∧ isS t = true ∧ t.frame = ((a0 a L s + i : Nat) : Int) := by
      intro i t hi
      rcases putX_at hF i t hi with ⟨hk, hl⟩ | ⟨rfl, rfl⟩
      · have hm := List.mem_of_getElem? hl
        have hne : L ≠ [] := fun e => by rw [e] at hm; cases hm
        exact ⟨h.fit t hm, h.is t hm, by rw [ha hne]; exact h.run i t hl⟩
      · exact ⟨hs.1, h1, by rw [hF.ff, hF.fk]⟩
    by_cases hc : n < (putX a L s).length
    · rw [if_pos hc, if_pos hc]
      have hd : ∀ i t, ((putX a L s).drop 1)[i]? = some t → (putX a L s)[1 + i]? = some t := fun i t hi => by rw [List.getElem?_drop] at hi; exact hi
      refine ⟨fun t ht => ?_, fun t ht => ?_, fun i t hi => ?_, ?_, fun e => ?_⟩
      · obtain ⟨i, hi⟩ := List.getElem?_of_mem ht; exact (key _ _ (hd i t hi)).1
      · obtain ⟨i, hi⟩ := List.getElem?_of_mem ht; exact (key _ _ (hd i t hi)).2.1
      · have := (key _ _ (hd i t hi)).2.2; rw [this]; congr 1; omega
      · have h3 := h.len
        have h4 := hF.kk
        rw [List.length_drop]; omega
      · have := congrArg List.length e
        rw [List.length_drop] at this
        simp at this
        omega
    · rw [if_neg hc, if_neg hc]
      refine ⟨fun t ht => ?_, fun t ht => ?_, fun i t hi => (key i t hi).2.2, by omega, fun e => ?_⟩
      · obtain ⟨i, hi⟩ := List.getElem?_of_mem ht; exact (key _ _ hi).1
      · obtain ⟨i, hi⟩ := List.getElem?_of_mem ht; exact (key _ _ hi).2.1
      · have := congrArg List.length e
        rw [hlx] at this
        simp at this
  · rw [if_neg he, if_neg he]
    exact h
/-- Where the places are behind a Put, and what is counted. -/
theorem Pl.put {n a : Nat} {L ps : List Sp} {s : Sp} (h : Pl n a L ps) (hk : Rk n a L) (hn : 1 ≤ n) (hs : Gs s) (he : putE a L s = 0) {f : Nat} (hf : s.frame = (f : Int)) : Pl n (putA n a L s) (putL n a L s) (ps.set (f % n) s) ∧ putA n a L s + (putL n a L s).length = f + 1 ∧ (putA n a L s : Int) = max (a0 a L s : Int) ((f : Int) + 1 - (n : Int)) := by
  obtain ⟨f', k, hF⟩ := putF he
  have hff : f' = f := by have := hF.ff; omega
  subst hff
  have hlx := putX_len hF
  have hkn := hk.len
  have hkl := hF.kk
  have hfk := hF.fk
  have ha : L ≠ [] → a0 a L s = a := fun hl => by unfold a0; rw [if_neg hl]
  have hfit : Fit (ps.set (f' % n) s) := fun t ht => by
    rcases List.mem_or_eq_of_mem_set ht with h1 | rfl
    · exact h.fit t h1
    · exact hs.1
  have hfn : f' % n < ps.length := by rw [h.len]; exact Nat.mod_lt _ hn
  have key : ∀ i t, (putX a L s)[i]? = some t → k - i < n → (ps.set (f' % n) s)[(a0 a L s + i) % n]? = some t := by
    intro i t hi hd
    rcases putX_at hF i t hi with ⟨hik, hl⟩ | ⟨rfl, rfl⟩
    · have hne : L ≠ [] := fun e => by rw [e] at hl; simp at hl
      rw [ha hne] at hfk ⊢
      have hdiff : (a + i) % n ≠ f' % n := by
        intro e
        rw [hfk] at e
        have h1 : (a + k) % n = ((a + i) + (k - i)) % n := by congr 1; omega
        rw [h1] at e
        have h2 := Nat.sub_mod_eq_zero_of_mod_eq e.symm
        rw [Nat.add_sub_cancel_left, Nat.mod_eq_of_lt hd] at h2
        omega
      rw [List.getElem?_set_ne (Ne.symm hdiff)]
      exact h.at' i t hl
    · rw [← hfk, List.getElem?_set_self hfn]
  unfold putL putA
  rw [if_pos he, if_pos he, hlx]
  by_cases hc : n < k + 1
  · rw [if_pos hc, if_pos hc]
    have hkn' : k = n := by omega
    refine ⟨⟨by rw [List.length_set, h.len], hfit, fun i t hi => ?_⟩, ?_, ?_⟩
    · rw [List.getElem?_drop] at hi
      rw [show a0 a L s + 1 + i = a0 a L s + (1 + i) by omega]
      exact key (1 + i) t hi (by omega)
    · rw [List.length_drop, hlx]; omega
    · omega
  · rw [if_neg hc, if_neg hc]
    refine ⟨⟨by rw [List.length_set, h.len], hfit, fun i t hi => key i t hi (by omega)⟩, ?_, ?_⟩
    · rw [hlx]; omega
    · omega
/-- What Get answers. -/
def gtB (a : Nat) (L : List Sp) (f : Int) : Bool := decide ((a : Int) ≤ f ∧ f < ((a + L.length : Nat) : Int))
def gtS (a : Nat) (L : List Sp) (f : Int) : Sp := if gtB a L f = true then L.getD (f.toNat - a) noS else noS
theorem gt_yes {a : Nat} {L : List Sp} {f : Int} (h : gtB a L f = true) : ∃ i s, L[i]? = some s ∧ f = ((a + i : Nat) : Int) ∧ gtS a L f = s := by
  have hb := h
  simp only [gtB, decide_eq_true_eq] at hb
  refine ⟨f.toNat - a, _, List.getElem?_eq_getElem (by omega), by omega, ?_⟩
  unfold gtS
  rw [if_pos h, List.getD, List.getElem?_eq_getElem (by omega)]
  rfl
theorem gt_no {a : Nat} {L : List Sp} {f : Int} (h : gtB a L f = false) : gtS a L f = noS := by unfold gtS; rw [h]; rfl
theorem gt_wf {n a : Nat} {L : List Sp} (hk : Rk n a L) (f : Int) : (gtS a L f).Wf := by
  cases h : gtB a L f with
  | false => rw [gt_no h]; exact noS_wf
  | true =>
    obtain ⟨i, s, h1, _, h3⟩ := gt_yes h
    rw [h3]
    exact hk.fit s (List.mem_of_getElem? h1)
/-- The least and the greatest frame. -/
def lstF (a : Nat) (L : List Sp) : Int := if L = [] then -1 else a
def gstF (a : Nat) (L : List Sp) : Int := if L = [] then -1 else ((a + L.length : Nat) : Int) - 1
end Go.Proofs.Ytkchdkcdkeajkaa
