/-
  Joined from: RbPlain2, StEq, RbPlain3, RbPair.
-/
import Derived.Test.YtbfldcieibdapabGreatM08
section
/-
  A session in plain words, second part: Local and Remote, and what they keep; the ring beside it. No walk.
-/
namespace Go.Proofs.YtbfldcieibdapabGreat
/-- This player does something. -/
def Sa.put (s : Sa) (x : Int) : Sa := { s with m := s.m.set s.P (x, true) }
/-- The other one did something. -/
def Sa.hear (s : Sa) (f : Nat) (x : Int) : Sa := { s with h := s.h.set f (x, true) }
def Sa.work (s : Sa) (d e : Int) : Sa := { s with st := s.st + d, wr := s.wr + e }
def locA (s : Sa) (G : Gm) : Int × Int := if (s.now G).over = true then (0, 12) else if (s.sure G).frame + 8 ≤ (s.P : Int) then (0, 13) else ((s.P : Int), 0)
def locS (s : Sa) (G : Gm) (x : Int) : Sa := if (locA s G).2 = 0 then (s.put x).work 1 0 else s
def remA (s : Sa) (G : Gm) (f x : Int) : Int := if f < 0 ∨ G.cap ≤ f then 1 else if (s.sure G).over = true then 12 else if (s.sure G).frame + 24 < f then 13 else In.putE s.h f x
def remS (s : Sa) (G : Gm) (f x : Int) : Sa := if remA s G f x = 0 then (if f < (s.now G).frame ∧ gv s.h (f.toNat + 1) ≠ x then (s.hear f.toNat x).work (((s.hear f.toNat x).now G).frame - f) 1 else s.hear f.toNat x) else s
section
variable {s t : Sa} {G : Gm}
theorem Sa.work_use (s : Sa) (d e : Int) (k : Nat) : (s.work d e).use k = s.use k := rfl
theorem Sa.work_at (s : Sa) (d e : Int) (G : Gm) (k : Nat) : (s.work d e).at G k = s.at G k := rfl
theorem Sa.work_now (s : Sa) (d e : Int) (G : Gm) : (s.work d e).now G = s.now G := rfl
theorem Sa.work_sure (s : Sa) (d e : Int) (G : Gm) : (s.work d e).sure G = s.sure G := rfl
theorem Sa.Fit.work (h : s.Fit G) (d e : Int) : (s.work d e).Fit G := ⟨h.me, h.ml, h.hl, h.mv, h.hv, h.gap⟩
theorem kn_mono {l m : List In.Pl} (hl : l.length = m.length) (h : ∀ j, (In.at0 l j).2 = true → (In.at0 m j).2 = true) : In.kn l ≤ In.kn m := by
  rcases Nat.lt_or_ge (In.kn m) (In.kn l) with c | c
  · have h1 := In.kn_le l
    have h2 := In.kn_stop m (by omega)
    rw [h _ (In.kn_mark l _ c)] at h2
    cases h2
  · exact c
theorem pset_in {l : List In.Pl} (hv : ∀ x ∈ l, 0 ≤ x.1 ∧ x.1 < 65536) {f : Nat} {x : Int} (hx : 0 ≤ x ∧ x < 65536) : ∀ y ∈ l.set f (x, true), 0 ≤ y.1 ∧ y.1 < 65536 := fun y hy => by
  rcases List.mem_or_eq_of_mem_set hy with h | rfl
  · exact hv y h
  · exact hx
theorem Sa.Fit.Pm (h : s.Fit G) (hP : (s.P : Int) < G.cap) : s.P < s.m.length := by have := h.ml; omega
theorem Sa.put_P (h : s.Fit G) (hP : (s.P : Int) < G.cap) (x : Int) : (s.put x).P = s.P + 1 := by
  have hm := h.Pm hP
  refine In.kn_of (by show s.P + 1 ≤ (s.m.set s.P (x, true)).length; rw [List.length_set]; omega) (fun j hj => ?_) (fun hj => ?_)
  · show (In.at0 (s.m.set s.P (x, true)) j).2 = true
    rw [In.at0_set hm]
    split
    · rfl
    · exact In.kn_mark s.m j (by have : s.P = In.kn s.m := rfl; omega)
  · show (In.at0 (s.m.set s.P (x, true)) (s.P + 1)).2 = false
    rw [In.at0_set hm, if_neg (by omega)]
    exact h.gap _ (by omega)
theorem Sa.Fit.put (h : s.Fit G) (hP : (s.P : Int) < G.cap) {x : Int} (hx : 0 ≤ x ∧ x < 65536) : (s.put x).Fit G := by
  have hm := h.Pm hP
  refine ⟨h.me, by show ((s.m.set s.P (x, true)).length : Int) = G.cap; rw [List.length_set]; exact h.ml, h.hl, pset_in h.mv hx, h.hv, fun k hk => ?_⟩
  rw [Sa.put_P h hP] at hk
  show (In.at0 (s.m.set s.P (x, true)) k).2 = false
  rw [In.at0_set hm, if_neg (by omega)]
  exact h.gap _ (by omega)
theorem Sa.put_use (h : s.Fit G) (hP : (s.P : Int) < G.cap) (x : Int) {k : Nat} (hk : k < s.P) : (s.put x).use k = s.use k := by
  have hm := h.Pm hP
  have e : gv (s.put x).m (k + 1) = gv s.m (k + 1) := gv_set_lt hm _ _ (by omega)
  unfold Sa.use Sa.r0 Sa.r1
  show ((gv (if s.me = 0 then (s.put x).m else s.h) (k + 1)), (gv (if s.me = 0 then s.h else (s.put x).m) (k + 1))) = _
  split <;> rw [e]
theorem Sa.Fit.hear (h : s.Fit G) {f : Nat} {x : Int} (hx : 0 ≤ x ∧ x < 65536) : (s.hear f x).Fit G :=
  ⟨h.me, h.ml, by show ((s.h.set f (x, true)).length : Int) = G.cap; rw [List.length_set]; exact h.hl, h.mv, pset_in h.hv hx, h.gap⟩
theorem Sa.hear_use (h : s.Fit G) {f : Nat} (hf : (f : Int) < G.cap) (x : Int) {k : Nat} (hk : k < f) : (s.hear f x).use k = s.use k := by
  have hm : f < s.h.length := by have := h.hl; omega
  have e : gv (s.hear f x).h (k + 1) = gv s.h (k + 1) := gv_set_lt hm _ _ (by omega)
  unfold Sa.use Sa.r0 Sa.r1
  show ((gv (if s.me = 0 then s.m else (s.hear f x).h) (k + 1)), (gv (if s.me = 0 then (s.hear f x).h else s.m) (k + 1))) = _
  split <;> rw [e]
theorem Sa.hear_same (h : s.Fit G) {f : Nat} (hf : (f : Int) < G.cap) {x : Int} (h0 : (In.at0 s.h f).2 = false) (hx : gv s.h (f + 1) = x) (k : Nat) : (s.hear f x).use k = s.use k := by
  have hm : f < s.h.length := by have := h.hl; omega
  have e : gv (s.hear f x).h (k + 1) = gv s.h (k + 1) := gv_set_same hm h0 hx _
  unfold Sa.use Sa.r0 Sa.r1
  show ((gv (if s.me = 0 then s.m else (s.hear f x).h) (k + 1)), (gv (if s.me = 0 then (s.hear f x).h else s.m) (k + 1))) = _
  split <;> rw [e]
theorem Sa.at_frame_succ (s : Sa) (G : Gm) (k : Nat) : (s.at G k).frame ≤ (s.at G (k + 1)).frame := by
  rw [Sa.at_succ]
  split
  · exact Int.le_refl _
  · rw [stepS_frame]; omega
theorem Sa.at_frame_mono (s : Sa) (G : Gm) {j k : Nat} (h : j ≤ k) : (s.at G j).frame ≤ (s.at G k).frame := by
  induction k with
  | zero => rw [show j = 0 by omega]; exact Int.le_refl _
  | succ k ih =>
    by_cases e : j = k + 1
    · rw [e]; exact Int.le_refl _
    · exact Int.le_trans (ih (by omega)) (Sa.at_frame_succ s G k)
/-- What is sure stays. -/
theorem Sa.sure_mono (hB : s.B ≤ t.B) (hu : ∀ k, k < s.B → t.use k = s.use k) : (s.sure G).frame ≤ (t.sure G).frame := by
  unfold Sa.sure
  rw [← Sa.at_congr (s := t) (t := s) hu]
  exact Sa.at_frame_mono t G hB
theorem Sa.put_B (h : s.Fit G) (hP : (s.P : Int) < G.cap) (x : Int) : s.B ≤ (s.put x).B := by
  have e := Sa.put_P h hP x
  unfold Sa.B
  show min s.P (In.kn s.h) ≤ min (s.put x).P (In.kn s.h)
  rw [e]; omega
theorem Sa.hear_B (h : s.Fit G) {f : Nat} (hf : (f : Int) < G.cap) (x : Int) : s.B ≤ (s.hear f x).B := by
  have hm : f < s.h.length := by have := h.hl; omega
  have e : In.kn s.h ≤ In.kn (s.h.set f (x, true)) := kn_mono (by rw [List.length_set]) fun j hj => by
    rw [In.at0_set hm]
    split
    · rfl
    · exact hj
  unfold Sa.B
  show min (In.kn s.m) (In.kn s.h) ≤ min (In.kn s.m) (In.kn (s.h.set f (x, true)))
  omega
theorem Sa.B_le (s : Sa) : s.B ≤ s.P := Nat.min_le_left _ _
/-- A session that can be. -/
structure Sa.Ok (s : Sa) (G : Gm) : Prop where
  fit : s.Fit G
  win : (s.P : Int) ≤ (s.sure G).frame + 8
theorem Sa.P_cap (hG : G.Ok) (h : s.Fit G) : (s.now G).over = false → (s.now G).frame = (s.P : Int) ∧ (s.P : Int) < G.cap := by
  intro ho
  have h1 := (way s G s.P).ov
  have h2 := h.gs hG s.P
  rcases h1 with h1 | h1
  · have := h2.f2 ho
    exact ⟨h1, by rw [← h1]; exact this⟩
  · rw [show s.now G = s.at G s.P from rfl] at ho; rw [ho] at h1; cases h1
theorem locA_go {s : Sa} {G : Gm} (h : (locA s G).2 = 0) : (s.now G).over = false ∧ (s.P : Int) < (s.sure G).frame + 8 ∧ locA s G = ((s.P : Int), 0) := by
  unfold locA at h ⊢
  by_cases c : (s.now G).over = true
  · rw [if_pos c] at h; cases h
  · rw [if_neg c] at h ⊢
    by_cases d : (s.sure G).frame + 8 ≤ (s.P : Int)
    · rw [if_pos d] at h; cases h
    · rw [if_neg d]
      exact ⟨by simpa using c, by omega, rfl⟩
theorem Sa.Ok.loc (hG : G.Ok) (h : s.Ok G) {x : Int} (hx : 0 ≤ x ∧ x < 65536) : (locS s G x).Ok G := by
  unfold locS
  by_cases c : (locA s G).2 = 0
  · rw [if_pos c]
    obtain ⟨h1, h2, _⟩ := locA_go c
    obtain ⟨_, hP⟩ := Sa.P_cap hG h.fit h1
    refine ⟨(h.fit.put hP hx).work _ _, ?_⟩
    have e := Sa.put_P h.fit hP x
    have hm : (s.sure G).frame ≤ ((s.put x).sure G).frame := Sa.sure_mono (Sa.put_B h.fit hP x) fun k hk => Sa.put_use h.fit hP x (by have := Sa.B_le s; omega)
    show ((s.put x).P : Int) ≤ ((s.put x).sure G).frame + 8
    omega
  · rw [if_neg c]; exact h
/-- What Remote takes. -/
structure RemG (s : Sa) (G : Gm) (f : Int) (k : Nat) : Prop where
  fk : f = (k : Int)
  cap : (k : Int) < G.cap
  no : (In.at0 s.h k).2 = false
  ov : (s.sure G).over = false
theorem putE_go {l : List In.Pl} {f x : Int} (h : In.putE l f x = 0) : 0 ≤ f ∧ f < (l.length : Int) ∧ (In.at0 l f.toNat).2 = false := by
  unfold In.putE at h
  by_cases c : f < 0 ∨ (l.length : Int) ≤ f
  · rw [if_pos c] at h; cases h
  · rw [if_neg c] at h
    refine ⟨by omega, by omega, ?_⟩
    cases e : (In.at0 l f.toNat).2 with
    | false => rfl
    | true =>
      rw [if_pos e] at h
      split at h <;> cases h
theorem remA_go {s : Sa} {G : Gm} {f x : Int} (h : remA s G f x = 0) : RemG s G f f.toNat ∧ In.putE s.h f x = 0 := by
  unfold remA at h
  by_cases c1 : f < 0 ∨ G.cap ≤ f
  · rw [if_pos c1] at h; cases h
  · rw [if_neg c1] at h
    by_cases c2 : (s.sure G).over = true
    · rw [if_pos c2] at h; cases h
    · rw [if_neg c2] at h
      by_cases c3 : (s.sure G).frame + 24 < f
      · rw [if_pos c3] at h; cases h
      · rw [if_neg c3] at h
        exact ⟨⟨by omega, by omega, (putE_go h).2.2, by simpa using c2⟩, h⟩
theorem kn_le_no {l : List In.Pl} {k : Nat} (h : (In.at0 l k).2 = false) : In.kn l ≤ k := by
  rcases Nat.lt_or_ge k (In.kn l) with c | c
  · rw [In.kn_mark l k c] at h; cases h
  · exact c
theorem RemG.B {f : Int} {k : Nat} (h : RemG s G f k) : s.B ≤ k := Nat.le_trans (Nat.min_le_right _ _) (kn_le_no h.no)
theorem Sa.Ok.hear (h : s.Ok G) {f : Int} {k : Nat} (hr : RemG s G f k) {x : Int} (hx : 0 ≤ x ∧ x < 65536) : (s.hear k x).Ok G := by
  refine ⟨h.fit.hear hx, ?_⟩
  have hm : (s.sure G).frame ≤ ((s.hear k x).sure G).frame := Sa.sure_mono (Sa.hear_B h.fit hr.cap x) fun j hj => Sa.hear_use h.fit hr.cap x (by have := hr.B; omega)
  have := h.win
  show (s.P : Int) ≤ ((s.hear k x).sure G).frame + 8
  omega
theorem Sa.Ok.work (h : s.Ok G) (d e : Int) : (s.work d e).Ok G := ⟨h.fit.work d e, h.win⟩
theorem Sa.Ok.rem (h : s.Ok G) {f x : Int} (hx : 0 ≤ x ∧ x < 65536) : (remS s G f x).Ok G := by
  unfold remS
  by_cases c : remA s G f x = 0
  · rw [if_pos c]
    obtain ⟨hr, _⟩ := remA_go c
    split
    · exact (h.hear hr hx).work _ _
    · exact h.hear hr hx
  · rw [if_neg c]; exact h
/-- The ring, as far as frame k. -/
structure Up (s : Sa) (G : Gm) (a : Nat) (L : List Sp) (k : Nat) : Prop where
  lo : a ≤ k
  hi : k < a + L.length
  eq : ∀ i t, L[i]? = some t → a + i ≤ k → t = s.at G (a + i)
theorem Up.congr {a : Nat} {L : List Sp} {k : Nat} (h : Up s G a L k) (hu : ∀ j, j < k → t.use j = s.use j) : Up t G a L k :=
  ⟨h.lo, h.hi, fun i u hi hk => by rw [h.eq i u hi hk]; exact (Sa.at_congr fun j hj => hu j (by omega)).symm⟩
theorem Up.mono {a : Nat} {L : List Sp} {k j : Nat} (h : Up s G a L k) (hj : j ≤ k) (ha : a ≤ j) : Up s G a L j :=
  ⟨ha, by have := h.hi; omega, fun i u hi hk => h.eq i u hi (by omega)⟩
theorem Up.get {a : Nat} {L : List Sp} {k j : Nat} (h : Up s G a L k) (ha : a ≤ j) (hj : j ≤ k) : Rn.gtS a L (j : Int) = s.at G j ∧ Rn.gtB a L (j : Int) = true := by
  have hh := h.hi
  have hb : Rn.gtB a L (j : Int) = true := by simp only [Rn.gtB, decide_eq_true_eq]; omega
  obtain ⟨i, u, h1, h2, h3⟩ := Rn.gt_yes hb
  have e : a + i = j := by omega
  refine ⟨?_, hb⟩
  rw [h3, h.eq i u h1 (by omega), e]
/-- The ring as a whole: its newest is Now, and Sure is there. -/
structure Ring (s : Sa) (G : Gm) (a : Nat) (L : List Sp) : Prop where
  up : ∃ n : Nat, (s.now G).frame = (n : Int) ∧ a + L.length = n + 1 ∧ Up s G a L n
  lo : (a : Int) ≤ (s.sure G).frame
theorem Ring.now {a : Nat} {L : List Sp} (h : Ring s G a L) : Rn.gtS a L (Rn.gstF a L) = s.now G ∧ Rn.gtB a L (Rn.gstF a L) = true ∧ Rn.gstF a L = (s.now G).frame := by
  obtain ⟨n, h1, h2, h3⟩ := h.up
  have hne : L ≠ [] := fun e => by have := h3.hi; rw [e] at this; have := h3.lo; simp at *; omega
  have e : Rn.gstF a L = (n : Int) := by unfold Rn.gstF; rw [if_neg hne, h2]; omega
  rw [e, h1]
  obtain ⟨g1, g2⟩ := h3.get h3.lo (Nat.le_refl n)
  refine ⟨?_, g2, rfl⟩
  rw [g1]
  obtain ⟨⟨m, m1, m2, m3, m4, m5⟩, _⟩ := way s G s.P
  have : m = n := by rw [show s.now G = s.at G s.P from rfl] at h1; omega
  subst this
  exact m5 m (Nat.le_refl _) m1
/-- Where Sure is found. -/
theorem Ring.sure {a : Nat} {L : List Sp} (h : Ring s G a L) : Rn.gtS a L (min ((s.B : Nat) : Int) (s.now G).frame) = s.sure G := by
  obtain ⟨n, h1, h2, h3⟩ := h.up
  obtain ⟨⟨m, m1, m2, m3, m4, m5⟩, _⟩ := way s G s.P
  have hm : m = n := by rw [show s.now G = s.at G s.P from rfl] at h1; omega
  subst hm
  have hlo := h.lo
  have hB := Sa.B_le s
  by_cases c : s.B ≤ m
  · have e : min ((s.B : Nat) : Int) (s.now G).frame = ((s.B : Nat) : Int) := by rw [h1]; omega
    have hf := m3 s.B c
    rw [show s.sure G = s.at G s.B from rfl, hf] at hlo
    rw [e, (h3.get (by omega) c).1]
    rfl
  · have e : min ((s.B : Nat) : Int) (s.now G).frame = ((m : Nat) : Int) := by rw [h1]; omega
    rw [e, (h3.get h3.lo (Nat.le_refl _)).1]
    rw [m5 m (Nat.le_refl _) m1]
    exact (m5 s.B (by omega) hB).symm
/-- One more state. -/
theorem Up.step {a : Nat} {L : List Sp} {k : Nat} (h : Up s G a L k) (hk : Rn.Rk 16 a L) (hfr : (s.at G (k + 1)).frame = ((k + 1 : Nat) : Int)) (hi : isS (s.at G (k + 1)) = true) :
    Rn.putE a L (s.at G (k + 1)) = 0 ∧ Up s G (Rn.putA 16 a L (s.at G (k + 1))) (Rn.putL 16 a L (s.at G (k + 1))) (k + 1) ∧ Rn.putA 16 a L (s.at G (k + 1)) + (Rn.putL 16 a L (s.at G (k + 1))).length = k + 2 ∧ (Rn.putA 16 a L (s.at G (k + 1)) = a ∨ Rn.putA 16 a L (s.at G (k + 1)) + 14 = k) := by
  have h1 := h.lo
  have h2 := h.hi
  have h3 := hk.len
  have hne : L ≠ [] := fun e => by rw [e] at h2; simp at h2; omega
  generalize ht : s.at G (k + 1) = t at *
  have he : Rn.putE a L t = 0 := by
    unfold Rn.putE
    rw [if_neg]
    rintro (c | ⟨_, c⟩)
    · rw [hi] at c; cases c
    · rw [hfr] at c; omega
  have ha0 : Rn.a0 a L t = a := by unfold Rn.a0; rw [if_neg hne]
  have hX : Rn.putX a L t = L.take (k + 1 - a) ++ [t] := by unfold Rn.putX; rw [ha0, hfr]; rfl
  have hXl : (Rn.putX a L t).length = k + 2 - a := by rw [hX]; simp; omega
  have hat : ∀ i u, (Rn.putX a L t)[i]? = some u → u = s.at G (a + i) := by
    intro i u hu
    rw [hX] at hu
    by_cases c : i < k + 1 - a
    · rw [List.getElem?_append_left (by simp; omega), List.getElem?_take_of_lt c] at hu
      exact h.eq i u hu (by omega)
    · have hlt := (List.getElem?_eq_some_iff.1 hu).1
      simp at hlt
      have ei : i = k + 1 - a := by omega
      rw [List.getElem?_append_right (by simp; omega)] at hu
      have : i - (L.take (k + 1 - a)).length = 0 := by simp; omega
      rw [this] at hu
      simp at hu
      rw [← hu, ← ht, show a + i = k + 1 by omega]
  refine ⟨he, ?_⟩
  unfold Rn.putA Rn.putL
  rw [if_pos he, if_pos he, hXl, ha0]
  by_cases c : 16 < k + 2 - a
  · rw [if_pos c, if_pos c]
    refine ⟨⟨by omega, by rw [List.length_drop, hXl]; omega, fun i u hu _ => ?_⟩, by rw [List.length_drop, hXl]; omega, Or.inr (by omega)⟩
    rw [List.getElem?_drop] at hu
    rw [show a + 1 + i = a + (1 + i) by omega]
    exact hat _ _ hu
  · rw [if_neg c, if_neg c]
    exact ⟨⟨by omega, by rw [hXl]; omega, fun i u hu _ => hat i u hu⟩, by rw [hXl]; omega, Or.inl rfl⟩
end
end Go.Proofs.YtbfldcieibdapabGreat
end

section
/-
  Two states against each other: the model's comparison of structs, as numbers; laws for guarded operations.
-/
namespace Go.Proofs.YtbfldcieibdapabGreat
open Go.RowKit
theorem all_range_eqI : ∀ (xs ys : List Int), xs.length = ys.length → ((List.range xs.length).all fun i => xs.getD i 0 == ys.getD i 0) = decide (xs = ys)
  | [], [], _ => rfl
  | x :: xs, y :: ys, h => by
    have ih := all_range_eqI xs ys (by simpa using h)
    rw [List.length_cons, List.range_succ_eq_map, List.all_cons, List.all_map]
    simp only [List.getD_cons_zero, Function.comp_def, List.getD_cons_succ, ih]
    by_cases hx : x = y <;> simp [hx]
  | [], _ :: _, h => by simp at h
  | _ :: _, [], h => by simp at h
theorem sizeOf21 (w : World) : (sizeOf 21).run Tryz.prog w = .ok 1 w := by kernel_rfl
theorem run_eq16 (d : Nat) (xs ys : List Int) (hx : xs.length = 16) (hy : ys.length = 16) (w : World) :
    (Op.equalIn (d + 2) 42 (.agg (xs.map (Value.int .i32)).toArray) (.agg (ys.map (Value.int .i32)).toArray)).run Tryz.prog w = .ok (decide (xs = ys)) w := by
  rw [← all_range_eqI xs ys (hx.trans hy.symm), hx, List.range_eq_range']
  rw [Op.equalIn]
  simp only [Sem.run_bind, run_underlying Tryz.underlying42, Result.andThen_ok, sizeOf21, Std.Legacy.Range.forIn_eq_forIn_range', Std.Legacy.Range.size, Nat.sub_zero, Nat.add_sub_cancel, Nat.div_one]
  have hl : ∀ i ∈ List.range' 0 16 1, i < 16 := fun i hi => by simpa using (List.mem_range'_1.1 hi).2
  generalize List.range' 0 16 1 = l at hl ⊢
  induction l with
  | nil => simp
  | cons i l ih =>
    have hi : i < 16 := hl i (by simp)
    have px : (part 21 (xs.map (Value.int .i32)).toArray (i * 1)).run Tryz.prog w = .ok (.int .i32 (xs.getD i 0)) w := by
      simp [part, isAgg, run_underlying Tryz.underlying21, List.getD, List.getElem?_eq_getElem (show i < xs.length by omega)]
    have py : (part 21 (ys.map (Value.int .i32)).toArray (i * 1)).run Tryz.prog w = .ok (.int .i32 (ys.getD i 0)) w := by
      simp [part, isAgg, run_underlying Tryz.underlying21, List.getD, List.getElem?_eq_getElem (show i < ys.length by omega)]
    have pe : (Op.equalIn (d + 1) 21 (.int .i32 (xs.getD i 0)) (.int .i32 (ys.getD i 0))).run Tryz.prog w = .ok (xs.getD i 0 == ys.getD i 0) w := by
      rw [run_equalIn_int w d 21 .i32 .i32 _ _ Tryz.underlying21]
    simp only [List.forIn_cons, Sem.run_bind, px, py, pe, Result.andThen_ok, List.all_cons]
    cases hb : (xs.getD i 0 == ys.getD i 0)
    · simp
    · simp only [Bool.not_true, Bool.false_eq_true, if_false, Sem.run_pure, Result.andThen_ok, Bool.true_and]
      exact ih fun j hj => hl j (by simp [hj])
def eqS (s t : Sp) : Bool := decide (s.frame = t.frame) && (decide (s.cells = t.cells) && (decide (s.seed = t.seed) && (decide (s.over = t.over) && decide (s.win = t.win))))
theorem eqS_same (s : Sp) : eqS s s = true := by simp [eqS]
theorem run_eqS (s t : Sp) (hs : s.Wf) (ht : t.Wf) (w : World) : (Op.equalIn 10000 44 (.agg (stV s).toArray) (.agg (stV t).toArray)).run Tryz.prog w = .ok (eqS s t) w := by
  have h16 := run_eq16 9997 s.cells t.cells hs.cells ht.cells w
  obtain ⟨fr, cells, seed, over, win⟩ := s
  obtain ⟨fr', cells', seed', over', win'⟩ := t
  obtain ⟨c0, c1, c2, c3, c4, c5, c6, c7, c8, c9, c10, c11, c12, c13, c14, c15, e⟩ := sixteen hs.cells
  obtain ⟨d0, d1, d2, d3, d4, d5, d6, d7, d8, d9, d10, d11, d12, d13, d14, d15, e'⟩ := sixteen ht.cells
  simp only at e e' h16
  subst e
  subst e'
  simp only [List.map_cons, List.map_nil] at h16
  simp only [stV, List.map_cons, List.map_nil, List.cons_append, List.nil_append]
  obtain ⟨q, hq⟩ : ∃ q, q = decide ([c0, c1, c2, c3, c4, c5, c6, c7, c8, c9, c10, c11, c12, c13, c14, c15] = [d0, d1, d2, d3, d4, d5, d6, d7, d8, d9, d10, d11, d12, d13, d14, d15]) := ⟨_, rfl⟩
  rw [← hq] at h16
  have e : eqS ⟨fr, [c0, c1, c2, c3, c4, c5, c6, c7, c8, c9, c10, c11, c12, c13, c14, c15], seed, over, win⟩ ⟨fr', [d0, d1, d2, d3, d4, d5, d6, d7, d8, d9, d10, d11, d12, d13, d14, d15], seed', over', win'⟩ = (decide (fr = fr') && (q && (decide (seed = seed') && (decide (over = over') && decide (win = win'))))) := by rw [hq]; rfl
  rw [e]
  clear hq e
  simp [go_sem, h16]
  cases q <;> by_cases h1 : fr = fr' <;> by_cases h2 : seed = seed' <;> by_cases h3 : over = over' <;> by_cases h4 : win = win' <;> simp [h1, h2, h3, h4]
theorem guard28 : Tryz.prog.eqGuardType Tryz.prog.depth 44 = false := by kernel_rfl
section
variable {ops : Array Oper} {rest : List Oper} {o : Oper} {a : Act} {w : World} {Q : Exit → Act → World → Prop}
/-- Two rows of a state against each other. -/
theorem wpList_eql28 (hw : Region.wanted o (yielded ops a.tmps) = true) (x y : Operand) (ho : o.op = .binOp .eql 44 x y 44) (cs ds : List Value) (q : Bool) (hq : Hid (∀ w, (Op.equalIn 10000 44 (.agg cs.toArray) (.agg ds.toArray)).run Tryz.prog w = .ok q w)) (hx : a.eval x = .agg cs.toArray) (hy : a.eval y = .agg ds.toArray)
    (h : wpList Tryz.prog ops Q rest (a.put o.dst (.bool q)) w) : wpList Tryz.prog ops Q (o :: rest) a w := by
  refine BigFrame.wpList_want hw fun K hK => ?_
  unfold Oper.wp execOp
  simp only [ho, hx, hy, Sem.run_bind, run_eqGuard_agg w .eql 44 x y cs.toArray ds.toArray guard28, Result.andThen_ok, run_eql_struct, hq.out w, Sem.run_pure]
  exact hK _ _ h
theorem wpList_neq28 (hw : Region.wanted o (yielded ops a.tmps) = true) (x y : Operand) (ho : o.op = .binOp .neq 44 x y 44) (cs ds : List Value) (q : Bool) (hq : Hid (∀ w, (Op.equalIn 10000 44 (.agg cs.toArray) (.agg ds.toArray)).run Tryz.prog w = .ok q w)) (hx : a.eval x = .agg cs.toArray) (hy : a.eval y = .agg ds.toArray)
    (h : wpList Tryz.prog ops Q rest (a.put o.dst (.bool (!q))) w) : wpList Tryz.prog ops Q (o :: rest) a w := by
  refine BigFrame.wpList_want hw fun K hK => ?_
  unfold Oper.wp execOp
  simp only [ho, hx, hy, Sem.run_bind, run_eqGuard_agg w .neq 44 x y cs.toArray ds.toArray guard28, Result.andThen_ok, run_neq_struct, hq.out w, Sem.run_pure]
  exact hK _ _ h
/-- A whole row is loaded, guarded or not. -/
theorem wpList_load_rwG (hw : Region.wanted o (yielded ops a.tmps) = true) (ty : TypeId) (x : Operand) (ho : o.op = .load ty x) (g : Nat) (cs : List Value) (t : TypeId) (d : TypeDesc) (hx : a.eval x = .pointer (some ⟨g, 0, none⟩))
    (hc : Cw w g cs t) (hu : Tryz.prog.underlying ty = some d) (hd : d.isRow = true) (hi : Hid ((Tryz.prog.info? ty).map (·.size) = some cs.length))
    (h : wpList Tryz.prog ops Q rest (a.put o.dst (.agg cs.toArray)) w) : wpList Tryz.prog ops Q (o :: rest) a w :=
  BigFrame.wpList_want hw fun _ hK => wp_load_mid ty x ho g 0 hx cs d hc.range hu hd hi.out (hK _ _ h)
theorem wpList_build_rowG (hw : Region.wanted o (yielded ops a.tmps) = true) (t : TypeId) (parts : Array (Nat × Operand)) (ho : o.op = .build t parts) (cs : List Value) (ps : List (Nat × Value)) (hp : parts.toList.map (fun (i, x) => (i, a.eval x)) = ps)
    (hb : Tryz.prog.built t ps = some cs.toArray)
    (h : wpList Tryz.prog ops Q rest (a.put o.dst (.agg cs.toArray)) w) : wpList Tryz.prog ops Q (o :: rest) a w :=
  BigFrame.wpList_want hw fun _ hK => wp_build t parts ho (by rw [Array.toList_map, hp, hb]; rfl) (by rw [Array.toList_map, hp, hb]; exact hK _ _ h)
end
end Go.Proofs.YtbfldcieibdapabGreat
end

section
/-
  A session in plain words, third part: the ring behind Local and Remote. No walk.
-/
namespace Go.Proofs.YtbfldcieibdapabGreat
section
variable {s t : Sa} {G : Gm} {a : Nat} {L : List Sp}
theorem Ring.work (h : Ring s G a L) (d e : Int) : Ring (s.work d e) G a L := ⟨by obtain ⟨n, h1, h2, h3⟩ := h.up; exact ⟨n, h1, h2, ⟨h3.lo, h3.hi, h3.eq⟩⟩, h.lo⟩
/-- Ahead of a Local that is taken. -/
theorem Ring.ahead (hG : G.Ok) (hs : s.Ok G) (hr : Ring s G a L) (hgo : (locA s G).2 = 0) (x : Int) : Up (s.put x) G a L s.P ∧ ((s.put x).at G s.P).over = false ∧ ((s.put x).at G s.P).frame = (s.P : Int) ∧ (s.P : Int) < G.cap := by
  obtain ⟨ho, _, _⟩ := locA_go hgo
  obtain ⟨hf, hP⟩ := Sa.P_cap hG hs.fit ho
  obtain ⟨n, h1, h2, h3⟩ := hr.up
  have hn : n = s.P := by omega
  subst hn
  have hc : (s.put x).at G s.P = s.at G s.P := Sa.at_congr fun k hk => Sa.put_use hs.fit hP x hk
  exact ⟨h3.congr fun j hj => Sa.put_use hs.fit hP x hj, by rw [hc]; exact ho, by rw [hc]; exact hf, hP⟩
/-- Behind it. -/
theorem Ring.local (hG : G.Ok) (hs : s.Ok G) (hr : Ring s G a L) (hgo : (locA s G).2 = 0) {x : Int} {a' : Nat} {L' : List Sp} (hU : Up (s.put x) G a' L' (s.P + 1)) (hl : a' + L'.length = s.P + 2) (hlo : a' = a ∨ a' + 14 < s.P + 1) (hfr : ((s.put x).at G (s.P + 1)).frame = ((s.P + 1 : Nat) : Int)) : Ring (s.put x) G a' L' := by
  obtain ⟨ho, hw, _⟩ := locA_go hgo
  obtain ⟨_, hP⟩ := Sa.P_cap hG hs.fit ho
  have e := Sa.put_P hs.fit hP x
  have hm : (s.sure G).frame ≤ ((s.put x).sure G).frame := Sa.sure_mono (Sa.put_B hs.fit hP x) fun k hk => Sa.put_use hs.fit hP x (by have := Sa.B_le s; omega)
  refine ⟨⟨s.P + 1, by unfold Sa.now; rw [e]; exact hfr, by omega, hU⟩, ?_⟩
  have := hr.lo
  omega
theorem RemG.sure {f : Int} {k : Nat} (hs : s.Ok G) (h : RemG s G f k) (x : Int) : (s.sure G).frame ≤ ((s.hear k x).sure G).frame :=
  Sa.sure_mono (Sa.hear_B hs.fit h.cap x) fun j hj => Sa.hear_use hs.fit h.cap x (by have := h.B; omega)
/-- What is told was guessed. -/
theorem Ring.right {f : Int} {k : Nat} (hs : s.Ok G) (hr : Ring s G a L) (h : RemG s G f k) {x : Int} (hx : gv s.h (k + 1) = x) : Ring (s.hear k x) G a L := by
  have hu : ∀ j, (s.hear k x).use j = s.use j := fun j => Sa.hear_same hs.fit h.cap h.no hx j
  obtain ⟨n, h1, h2, h3⟩ := hr.up
  refine ⟨⟨n, ?_, h2, h3.congr fun j _ => hu j⟩, by have := hr.lo; have := h.sure hs x; omega⟩
  rw [← h1]
  show ((s.hear k x).at G s.P).frame = (s.at G s.P).frame
  rw [Sa.at_congr (s := s.hear k x) (t := s) fun j _ => hu j]
/-- What is told comes behind Now. -/
theorem Ring.late {f : Int} {k : Nat} (hs : s.Ok G) (hr : Ring s G a L) (h : RemG s G f k) (x : Int) (hk : (s.now G).frame ≤ (k : Int)) : Ring (s.hear k x) G a L := by
  obtain ⟨n, h1, h2, h3⟩ := hr.up
  have hn : n ≤ k := by omega
  obtain ⟨⟨m, m1, m2, m3, m4, m5⟩, mo⟩ := way s G s.P
  have hmn : m = n := by rw [show s.now G = s.at G s.P from rfl] at h1; omega
  subst hmn
  have hu : ∀ j, j < m → (s.hear k x).use j = s.use j := fun j hj => Sa.hear_use hs.fit h.cap x (by omega)
  have e1 : (s.hear k x).at G m = s.at G m := Sa.at_congr hu
  have e2 : s.at G m = s.at G s.P := m5 m (Nat.le_refl _) m1
  have e3 : (s.hear k x).at G s.P = s.at G s.P := by
    by_cases c : m = s.P
    · rw [← e2, ← e1, c]
    · rcases mo with mo | mo
      · omega
      · rw [← e2, ← e1] at mo ⊢
        exact Sa.at_stay mo s.P m1
  refine ⟨⟨m, ?_, h2, h3.congr hu⟩, by have := hr.lo; have := h.sure hs x; omega⟩
  show ((s.hear k x).at G s.P).frame = (m : Int)
  rw [e3]
  exact h1
theorem Sa.Fit.P_le (h : s.Fit G) : (s.P : Int) ≤ G.cap := by have := In.kn_le s.m; have := h.ml; unfold Sa.P; omega
/-- Ahead of playing anew. -/
theorem Ring.anew {f : Int} {k : Nat} (hs : s.Ok G) (hr : Ring s G a L) (h : RemG s G f k) (x : Int) (hk : (k : Int) < (s.now G).frame) : Up (s.hear k x) G a L k ∧ ((s.hear k x).at G k).over = false ∧ ((s.hear k x).at G k).frame = (k : Int) ∧ k < s.P := by
  obtain ⟨n, h1, h2, h3⟩ := hr.up
  obtain ⟨⟨m, m1, m2, m3, m4, m5⟩, mo⟩ := way s G s.P
  have hmn : m = n := by rw [show s.now G = s.at G s.P from rfl] at h1; omega
  subst hmn
  have hkm : k < m := by omega
  have hu : ∀ j, j < k → (s.hear k x).use j = s.use j := fun j hj => Sa.hear_use hs.fit h.cap x hj
  have e1 : (s.hear k x).at G k = s.at G k := Sa.at_congr hu
  have hB := h.B
  have hsf : (s.sure G).frame ≤ (k : Int) := by
    have h4 := (way s G s.B).fr
    obtain ⟨q, q1, q2, _⟩ := h4
    rw [show s.sure G = s.at G s.B from rfl, q2]
    omega
  have hlo := hr.lo
  exact ⟨(h3.mono (by omega) (by omega)).congr hu, by rw [e1]; exact m4 k hkm, by rw [e1]; exact m3 k (by omega), by omega⟩
/-- Behind it. -/
theorem Ring.played {f : Int} {k : Nat} (hs : s.Ok G) (hr : Ring s G a L) (h : RemG s G f k) (x : Int) {a' n : Nat} {L' : List Sp} (hn : n ≤ s.P) (ho : n = s.P ∨ ((s.hear k x).at G n).over = true) (hU : Up (s.hear k x) G a' L' n) (hl : a' + L'.length = n + 1) (hlo : a' = a ∨ a' + 14 < s.P) (hfr : ((s.hear k x).at G n).frame = (n : Int)) : Ring (s.hear k x) G a' L' ∧ ((s.hear k x).now G).frame = (n : Int) := by
  have e : (s.hear k x).now G = (s.hear k x).at G n := by
    rcases ho with rfl | ho
    · rfl
    · exact Sa.at_stay ho s.P hn
  refine ⟨⟨⟨n, by rw [e]; exact hfr, hl, hU⟩, ?_⟩, by rw [e]; exact hfr⟩
  have := hr.lo
  have := h.sure hs x
  have := hs.win
  omega
/-- The rows of a Queue behind a Put of this player, and of the other one. -/
theorem put_rows (hm : s.me = 0 ∨ s.me = 1) {x : Int} (he : In.putE s.m (s.P : Int) x = 0) : (if s.me = 0 then In.putL s.r0 (s.P : Int) x else s.r0) = (s.put x).r0 ∧ (if s.me = 1 then In.putL s.r1 (s.P : Int) x else s.r1) = (s.put x).r1 := by
  have e : In.putL s.m (s.P : Int) x = s.m.set s.P (x, true) := by unfold In.putL; rw [if_pos he, Int.toNat_natCast]
  have e0 : (s.put x).r0 = if s.me = 0 then s.m.set s.P (x, true) else s.h := rfl
  have e1 : (s.put x).r1 = if s.me = 0 then s.h else s.m.set s.P (x, true) := rfl
  rw [e0, e1, ← e]
  unfold Sa.r0 Sa.r1
  rcases hm with c | c <;> simp [c]
theorem hear_rows (hm : s.me = 0 ∨ s.me = 1) {x : Int} {k : Nat} (he : In.putE s.h (k : Int) x = 0) : (if 1 - s.me = 0 then In.putL s.r0 (k : Int) x else s.r0) = (s.hear k x).r0 ∧ (if 1 - s.me = 1 then In.putL s.r1 (k : Int) x else s.r1) = (s.hear k x).r1 := by
  have e : In.putL s.h (k : Int) x = s.h.set k (x, true) := by unfold In.putL; rw [if_pos he, Int.toNat_natCast]
  have e0 : (s.hear k x).r0 = if s.me = 0 then s.m else s.h.set k (x, true) := rfl
  have e1 : (s.hear k x).r1 = if s.me = 0 then s.h.set k (x, true) else s.m := rfl
  rw [e0, e1, ← e]
  unfold Sa.r0 Sa.r1
  rcases hm with c | c <;> simp [c]
theorem hear_no_rows (hm : s.me = 0 ∨ s.me = 1) {x f : Int} (he : In.putE s.h f x ≠ 0) : (if 1 - s.me = 0 then In.putL s.r0 f x else s.r0) = s.r0 ∧ (if 1 - s.me = 1 then In.putL s.r1 f x else s.r1) = s.r1 := by
  have e : In.putL s.h f x = s.h := by unfold In.putL; rw [if_neg he]
  unfold Sa.r0 Sa.r1
  rcases hm with c | c <;> simp [c, e]
theorem put_free (h : s.Fit G) (hP : (s.P : Int) < G.cap) (x : Int) : In.putE s.m (s.P : Int) x = 0 := by
  have := h.ml
  unfold In.putE
  rw [if_neg (by omega), Int.toNat_natCast, if_neg (by rw [h.gap s.P (Nat.le_refl _)]; decide)]
/-- Why nothing can be told of a frame. -/
def hearE (s : Sa) (G : Gm) (f : Int) : Int := if f < 0 ∨ G.cap ≤ f then 1 else if (s.sure G).over = true then 12 else if (s.sure G).frame + 24 < f then 13 else 0
theorem remA_no {f x : Int} (h : hearE s G f ≠ 0) : remA s G f x = hearE s G f := by
  unfold hearE remA at *
  split
  · rfl
  · rename_i c1
    rw [if_neg c1] at h
    split
    · rfl
    · rename_i c2
      rw [if_neg c2] at h
      split
      · rfl
      · rename_i c3
        rw [if_neg c3] at h
        exact absurd rfl h
theorem remA_yes {f x : Int} (h : hearE s G f = 0) : remA s G f x = In.putE s.h f x ∧ 0 ≤ f ∧ f < G.cap ∧ (s.sure G).over = false := by
  unfold hearE at h
  unfold remA
  by_cases c1 : f < 0 ∨ G.cap ≤ f
  · rw [if_pos c1] at h; cases h
  · rw [if_neg c1] at h ⊢
    by_cases c2 : (s.sure G).over = true
    · rw [if_pos c2] at h; cases h
    · rw [if_neg c2] at h ⊢
      by_cases c3 : (s.sure G).frame + 24 < f
      · rw [if_pos c3] at h; cases h
      · rw [if_neg c3]
        exact ⟨rfl, by omega, by omega, by simpa using c2⟩
end
end Go.Proofs.YtbfldcieibdapabGreat
end

section
/-
  What is known of a session that is told the truth (Kv), in order (Pf); two of them that tell each other (Tt): in the end both are sure of all. No walk.
-/
namespace Go.Proofs.YtbfldcieibdapabGreat
/-- What is known is what was done. -/
structure Kv (s : Sa) (mine his : Nat → Int) : Prop where
  mv : ∀ j, (In.at0 s.m j).2 = true → (In.at0 s.m j).1 = mine j
  hv : ∀ j, (In.at0 s.h j).2 = true → (In.at0 s.h j).1 = his j
def prM (me : Int) (a b : Int) : Int × Int := if me = 0 then (a, b) else (b, a)
section
variable {s : Sa} {G : Gm} {mine his : Nat → Int} {p q : Nat}
theorem Kv.use (h : Kv s mine his) {k : Nat} (hk : k < s.B) : s.use k = prM s.me (mine k) (his k) := by
  have h1 : k < In.kn s.m := by have : s.B = min (In.kn s.m) (In.kn s.h) := rfl; omega
  have h2 : k < In.kn s.h := by have : s.B = min (In.kn s.m) (In.kn s.h) := rfl; omega
  have e1 := gv_known h1
  have e2 := gv_known h2
  rw [h.mv k (In.kn_mark _ _ h1)] at e1
  rw [h.hv k (In.kn_mark _ _ h2)] at e2
  unfold Sa.use Sa.r0 Sa.r1 prM
  split <;> rw [e1, e2]
theorem Kv.sure (h : Kv s mine his) : s.sure G = endG G.l G.cap G.fuel (startS G.seed) ((List.range s.B).map fun k => prM s.me (mine k) (his k)) := by
  have e : s.usL s.B = (List.range s.B).map fun k => prM s.me (mine k) (his k) := List.map_congr_left fun k hk => h.use (List.mem_range.1 hk)
  unfold Sa.sure Sa.at
  rw [e]
theorem Kv.work (h : Kv s mine his) (d e : Int) : Kv (s.work d e) mine his := ⟨h.mv, h.hv⟩
theorem Kv.put (h : Kv s mine his) (hf : s.Fit G) (hP : (s.P : Int) < G.cap) : Kv (s.put (mine s.P)) mine his := by
  have hm := hf.Pm hP
  refine ⟨fun j hj => ?_, h.hv⟩
  have hj' : (In.at0 (s.m.set s.P (mine s.P, true)) j).2 = true := hj
  show (In.at0 (s.m.set s.P (mine s.P, true)) j).1 = mine j
  rw [In.at0_set hm] at hj' ⊢
  by_cases e : j = s.P
  · rw [if_pos e, e]
  · rw [if_neg e] at hj' ⊢
    exact h.mv j hj'
theorem Kv.hear (h : Kv s mine his) (hf : s.Fit G) {f : Nat} (hc : (f : Int) < G.cap) : Kv (s.hear f (his f)) mine his := by
  have hm : f < s.h.length := by have := hf.hl; omega
  refine ⟨h.mv, fun j hj => ?_⟩
  have hj' : (In.at0 (s.h.set f (his f, true)) j).2 = true := hj
  show (In.at0 (s.h.set f (his f, true)) j).1 = his j
  rw [In.at0_set hm] at hj' ⊢
  by_cases e : j = f
  · rw [if_pos e, e]
  · rw [if_neg e] at hj' ⊢
    exact h.hv j hj'
theorem Kv.loc (h : Kv s mine his) (hG : G.Ok) (hs : s.Ok G) : Kv (locS s G (mine s.P)) mine his := by
  unfold locS
  split
  · rename_i c
    obtain ⟨h1, h2, _⟩ := locA_go c
    exact (h.put hs.fit (Sa.P_cap hG hs.fit h1).2).work _ _
  · exact h
theorem remS_go {f x : Int} (h : remA s G f x = 0) : ∃ d e, remS s G f x = (s.hear f.toNat x).work d e := by
  unfold remS
  rw [if_pos h]
  split
  · exact ⟨_, _, rfl⟩
  · exact ⟨0, 0, by unfold Sa.work; simp⟩
theorem Kv.rem (h : Kv s mine his) (hs : s.Ok G) (f : Nat) : Kv (remS s G (f : Int) (his f)) mine his := by
  by_cases c : remA s G (f : Int) (his f) = 0
  · obtain ⟨d, e, hd⟩ := remS_go c
    obtain ⟨hr, _⟩ := remA_go c
    rw [Int.toNat_natCast] at hd hr
    rw [hd]
    exact (h.hear hs.fit hr.cap).work _ _
  · unfold remS
    rw [if_neg c]
    exact h
theorem remA_told {f x : Int} (h : remA s G f x = 0) (hs : s.Ok G) (j : Nat) : (In.at0 (remS s G f x).h j).2 = if (j : Int) = f then true else (In.at0 s.h j).2 := by
  obtain ⟨d, e, hd⟩ := remS_go h
  obtain ⟨hr, _⟩ := remA_go h
  rw [hd]
  have hm : f.toNat < s.h.length := by have := hs.fit.hl; have := hr.cap; omega
  show (In.at0 (s.h.set f.toNat (x, true)) j).2 = _
  rw [In.at0_set hm]
  have := hr.fk
  by_cases e : j = f.toNat
  · rw [if_pos e, if_pos (by omega)]
  · rw [if_neg e, if_neg (by omega)]
theorem remS_me (s : Sa) (G : Gm) (f x : Int) : (remS s G f x).me = s.me ∧ (remS s G f x).P = s.P := by
  unfold remS
  split
  · split <;> exact ⟨rfl, rfl⟩
  · exact ⟨rfl, rfl⟩
theorem locS_me (s : Sa) (G : Gm) (x : Int) : (locS s G x).me = s.me ∧ (locS s G x).h = s.h := by
  unfold locS
  split <;> exact ⟨rfl, rfl⟩
theorem locS_P (hG : G.Ok) (hs : s.Ok G) (x : Int) : (locS s G x).P = if (locA s G).2 = 0 then s.P + 1 else s.P := by
  unfold locS
  by_cases c : (locA s G).2 = 0
  · rw [if_pos c, if_pos c]
    obtain ⟨h1, h2, _⟩ := locA_go c
    exact Sa.put_P hs.fit (Sa.P_cap hG hs.fit h1).2 x
  · rw [if_neg c, if_neg c]
theorem sure_le (s : Sa) (G : Gm) : (s.sure G).frame ≤ (s.B : Int) := by
  obtain ⟨n, h1, h2, _⟩ := (way s G s.B).fr
  rw [show s.sure G = s.at G s.B from rfl, h2]
  omega
theorem sure_B (s : Sa) (G : Gm) (h : (s.sure G).over = false) : (s.sure G).frame = (s.B : Int) := by
  rcases (way s G s.B).ov with h1 | h1
  · exact h1
  · rw [show s.sure G = s.at G s.B from rfl, h1] at h; cases h
/-- A session that has done p frames and was told q, one behind the other. -/
structure Pf (G : Gm) (s : Sa) (mine his : Nat → Int) (p q : Nat) : Prop where
  ok : s.Ok G
  P : s.P = p
  kh : In.kn s.h = q
  free : ∀ k, q ≤ k → (In.at0 s.h k).2 = false
  kv : Kv s mine his
theorem Pf.B (h : Pf G s mine his p q) : s.B = min p q := by
  have h1 := h.P
  have h2 := h.kh
  unfold Sa.P at h1
  unfold Sa.B
  rw [h1, h2]
theorem Pf.ple (h : Pf G s mine his p q) : (p : Int) ≤ G.cap := by have := h.ok.fit.P_le; rw [h.P] at this; exact this
theorem Pf.win (h : Pf G s mine his p q) : p ≤ min p q + 8 := by
  have h1 := h.ok.win
  have h2 := sure_le s G
  rw [h.B] at h2
  rw [h.P] at h1
  omega
theorem Pf.loc (h : Pf G s mine his p q) (hG : G.Ok) (hx : 0 ≤ mine p ∧ mine p < 65536) : Pf G (locS s G (mine p)) mine his (if (locA s G).2 = 0 then p + 1 else p) q := by
  have hk := h.kv.loc hG h.ok
  rw [h.P] at hk
  refine ⟨h.ok.loc hG hx, ?_, ?_, ?_, hk⟩
  · rw [locS_P hG h.ok, h.P]
  · rw [(locS_me s G _).2]; exact h.kh
  · rw [(locS_me s G _).2]; exact h.free
theorem Pf.loc_ok (h : Pf G s mine his p q) (ho : (s.sure G).over = false) (hpq : p ≤ q) : (locA s G).2 = 0 := by
  have hB := h.B
  have hf := sure_B s G ho
  have hP := h.P
  have e : s.now G = s.sure G := by unfold Sa.now Sa.sure; rw [hB, hP, Nat.min_eq_left hpq]
  unfold locA
  rw [e, if_neg (by rw [ho]; decide), if_neg (by rw [hf, hB, hP]; omega)]
theorem Pf.rem (h : Pf G s mine his p q) (hx : 0 ≤ his q ∧ his q < 65536) : Pf G (remS s G (q : Int) (his q)) mine his p (if remA s G (q : Int) (his q) = 0 then q + 1 else q) := by
  have hk := h.kv.rem h.ok q
  have hok := h.ok.rem (f := (q : Int)) hx
  by_cases c : remA s G (q : Int) (his q) = 0
  · rw [if_pos c]
    have ht := remA_told c h.ok
    obtain ⟨hr, _⟩ := remA_go c
    refine ⟨hok, by rw [(remS_me s G _ _).2]; exact h.P, ?_, ?_, hk⟩
    · refine In.kn_of (by have h1 := hok.fit.hl; have h2 := hr.cap; omega) (fun j hj => ?_) (fun _ => ?_)
      · rw [ht]
        split
        · rfl
        · exact In.kn_mark s.h j (by rw [h.kh]; omega)
      · rw [ht, if_neg (by omega)]
        exact h.free _ (by omega)
    · intro k hk
      rw [ht, if_neg (by omega)]
      exact h.free _ (by omega)
  · rw [if_neg c]
    have e : remS s G (q : Int) (his q) = s := by unfold remS; rw [if_neg c]
    rw [e]
    exact h
theorem Pf.rem_ok (h : Pf G s mine his p q) (ho : (s.sure G).over = false) (hc : (q : Int) < G.cap) (hw : q ≤ min p q + 24) (x : Int) : remA s G (q : Int) x = 0 := by
  have hlen := h.ok.fit.hl
  have hf := sure_B s G ho
  have hB := h.B
  have hE : In.putE s.h (q : Int) x = 0 := by
    unfold In.putE
    rw [if_neg (by omega), Int.toNat_natCast, if_neg (by rw [h.free q (Nat.le_refl _)]; decide)]
  unfold remA
  rw [if_neg (by omega), if_neg (by rw [ho]; decide), if_neg (by rw [hf, hB]; omega)]
  exact hE
end
/-- All that both did. -/
def allS (a b : List Int) : Sa := ⟨0, a.map fun x => (x, true), b.map fun x => (x, true), 0, 0⟩
def gd (a : List Int) (k : Nat) : Int := a.getD k 0
theorem kn_all : ∀ a : List Int, In.kn (a.map fun x => (x, true)) = a.length
  | [] => rfl
  | x :: a => by
    have := kn_all a
    simp only [List.map_cons, In.kn, if_true, List.length_cons, this]
theorem at0_all (a : List Int) (k : Nat) : (In.at0 (a.map fun x => (x, true)) k).1 = gd a k := by
  simp only [In.at0, gd, List.getD, List.getElem?_map]
  cases a[k]? <;> rfl
theorem allS_kv (a b : List Int) : Kv (allS a b) (gd a) (gd b) := ⟨fun j _ => at0_all a j, fun j _ => at0_all b j⟩
theorem allS_B (a b : List Int) : (allS a b).B = min a.length b.length := by
  unfold Sa.B allS
  simp only [kn_all]
theorem allS_use {a b : List Int} {k : Nat} (h : k < a.length) (hb : b.length = a.length) : (allS a b).use k = (gd a k, gd b k) := by
  have := (allS_kv a b).use (k := k) (by rw [allS_B]; omega)
  rw [this]
  rfl
theorem at_one {s : Sa} {G : Gm} {j k : Nat} (h : (s.at G j).frame = (s.at G k).frame) (hjk : j ≤ k) : s.at G j = s.at G k := by
  obtain ⟨⟨n, n1, n2, n3, n4, n5⟩, no⟩ := way s G k
  by_cases c : n ≤ j
  · exact n5 j c hjk
  · have := n3 j (by omega)
    omega
/-- Two sessions that tell each other. -/
structure Tt where
  x : Sa
  y : Sa
  i : Nat
  k : Nat
  u : Nat
  v : Nat
structure Tt.Ok (t : Tt) (G : Gm) (a b : List Int) : Prop where
  x : Pf G t.x (gd a) (gd b) t.i t.v
  y : Pf G t.y (gd b) (gd a) t.k t.u
  mx : t.x.me = 0
  my : t.y.me = 1
  iL : t.i ≤ a.length
  kL : t.k ≤ a.length
  ui : t.u ≤ t.i
  vk : t.v ≤ t.k
def tstep (G : Gm) (a b : List Int) (r : Int) (t : Tt) : Tt :=
  if r = 0 then (if t.i < a.length then { t with x := locS t.x G (gd a t.i), i := if (locA t.x G).2 = 0 then t.i + 1 else t.i } else t)
  else if r = 1 then (if t.k < b.length then { t with y := locS t.y G (gd b t.k), k := if (locA t.y G).2 = 0 then t.k + 1 else t.k } else t)
  else if r = 2 then (if t.u < t.i then { t with y := remS t.y G (t.u : Int) (gd a t.u), u := if remA t.y G (t.u : Int) (gd a t.u) = 0 then t.u + 1 else t.u } else t)
  else (if t.v < t.k then { t with x := remS t.x G (t.v : Int) (gd b t.v), v := if remA t.x G (t.v : Int) (gd b t.v) = 0 then t.v + 1 else t.v } else t)
theorem gd_in {a : List Int} (ha : ∀ z ∈ a, 0 ≤ z ∧ z < 65536) (k : Nat) : 0 ≤ gd a k ∧ gd a k < 65536 := by
  unfold gd
  by_cases h : k < a.length
  · have e : a.getD k 0 = a[k] := by simp [List.getD, h]
    rw [e]
    exact ha _ (List.getElem_mem h)
  · have e : a.getD k 0 = 0 := by simp [List.getD, List.getElem?_eq_none (by omega : a.length ≤ k)]
    rw [e]; decide
section
variable {G : Gm} {a b : List Int} {t : Tt}
/-- Inputs that may be. -/
structure Inp (G : Gm) (a b : List Int) : Prop where
  g : G.Ok
  av : ∀ z ∈ a, 0 ≤ z ∧ z < 65536
  bv : ∀ z ∈ b, 0 ≤ z ∧ z < 65536
  ll : b.length = a.length
theorem Tt.Ok.step (h : t.Ok G a b) (hI : Inp G a b) (r : Int) : (tstep G a b r t).Ok G a b := by
  obtain ⟨h1, h2, h3, h4, h5, h6, h7, h8⟩ := h
  have hl := hI.ll
  unfold tstep
  split
  · split
    · exact ⟨h1.loc hI.g (gd_in hI.av _), h2, by rw [show (locS t.x G (gd a t.i)).me = t.x.me from (locS_me _ _ _).1]; exact h3, h4, by show (if (locA t.x G).2 = 0 then t.i + 1 else t.i) ≤ a.length; split <;> omega, h6, by show t.u ≤ (if (locA t.x G).2 = 0 then t.i + 1 else t.i); split <;> omega, h8⟩
    · exact ⟨h1, h2, h3, h4, h5, h6, h7, h8⟩
  · split
    · split
      · exact ⟨h1, h2.loc hI.g (gd_in hI.bv _), h3, by rw [show (locS t.y G (gd b t.k)).me = t.y.me from (locS_me _ _ _).1]; exact h4, h5, by show (if (locA t.y G).2 = 0 then t.k + 1 else t.k) ≤ a.length; split <;> omega, h7, by show t.v ≤ (if (locA t.y G).2 = 0 then t.k + 1 else t.k); split <;> omega⟩
      · exact ⟨h1, h2, h3, h4, h5, h6, h7, h8⟩
    · split
      · split
        · exact ⟨h1, h2.rem (gd_in hI.av _), h3, by rw [show (remS t.y G (t.u : Int) (gd a t.u)).me = t.y.me from (remS_me _ _ _ _).1]; exact h4, h5, h6, by show (if remA t.y G (t.u : Int) (gd a t.u) = 0 then t.u + 1 else t.u) ≤ t.i; split <;> omega, h8⟩
        · exact ⟨h1, h2, h3, h4, h5, h6, h7, h8⟩
      · split
        · exact ⟨h1.rem (gd_in hI.bv _), h2, by rw [show (remS t.x G (t.v : Int) (gd b t.v)).me = t.x.me from (remS_me _ _ _ _).1]; exact h3, h4, h5, h6, h7, by show (if remA t.x G (t.v : Int) (gd b t.v) = 0 then t.v + 1 else t.v) ≤ t.k; split <;> omega⟩
        · exact ⟨h1, h2, h3, h4, h5, h6, h7, h8⟩
/-- The plain fold over the first j of both. -/
def allW (G : Gm) (a b : List Int) (j : Nat) : Sp := (allS a b).at G j
theorem Tt.Ok.sx (h : t.Ok G a b) (hI : Inp G a b) : t.x.sure G = allW G a b (min t.i t.v) := by
  have hB := h.x.B
  have hl := hI.ll
  have h5 := h.iL
  unfold Sa.sure allW
  rw [hB]
  refine Sa.at_congr fun k hk => ?_
  rw [h.x.kv.use (by omega), allS_use (by omega) hl, h.mx]
  rfl
theorem Tt.Ok.sy (h : t.Ok G a b) (hI : Inp G a b) : t.y.sure G = allW G a b (min t.k t.u) := by
  have hB := h.y.B
  have hl := hI.ll
  have h5 := h.kL
  unfold Sa.sure allW
  rw [hB]
  refine Sa.at_congr fun k hk => ?_
  rw [h.y.kv.use (by omega), allS_use (by omega) hl, h.my]
  rfl
theorem Tt.Ok.same (h : t.Ok G a b) (hI : Inp G a b) (he : (t.x.sure G).frame = (t.y.sure G).frame) : t.x.sure G = t.y.sure G := by
  rw [h.sx hI, h.sy hI] at he ⊢
  unfold allW at he ⊢
  rcases Nat.le_total (min t.i t.v) (min t.k t.u) with c | c
  · exact at_one he c
  · exact (at_one he.symm c).symm
/-- Whether it is over there. -/
def ovW (G : Gm) (a b : List Int) (j : Nat) : Prop := (allW G a b j).over = true
theorem ovW_mono {j k : Nat} (h : ovW G a b j) (hk : j ≤ k) : ovW G a b k ∧ allW G a b k = allW G a b j := by
  have e := Sa.at_stay (s := allS a b) (G := G) h k hk
  refine ⟨?_, e⟩
  unfold ovW allW at *
  rw [e]
  exact h
theorem not_ov {j : Nat} (h : ¬ ovW G a b j) : (allW G a b j).over = false := by
  unfold ovW at h
  simpa using h
/-- What a step does to the numbers. -/
structure Mv0 (G : Gm) (a b : List Int) (t t' : Tt) : Prop where
  i0 : t.i ≤ t'.i ∧ t'.i ≤ t.i + 1
  k0 : t'.k = t.k
  u0 : t'.u = t.u
  v0 : t'.v = t.v
  go : t.i < a.length → t.i ≤ t.v → ¬ ovW G a b (min t.i t.v) → t'.i = t.i + 1
theorem mv0 (h : t.Ok G a b) (hI : Inp G a b) : Mv0 G a b t (tstep G a b 0 t) := by
  unfold tstep
  rw [if_pos rfl]
  split
  · rename_i c
    refine ⟨by show t.i ≤ (if (locA t.x G).2 = 0 then t.i + 1 else t.i) ∧ (if (locA t.x G).2 = 0 then t.i + 1 else t.i) ≤ t.i + 1; split <;> omega, rfl, rfl, rfl, fun _ h2 h3 => ?_⟩
    have := h.x.loc_ok (by rw [h.sx hI]; exact not_ov h3) h2
    show (if (locA t.x G).2 = 0 then t.i + 1 else t.i) = t.i + 1
    rw [if_pos this]
  · rename_i c
    exact ⟨⟨Nat.le_refl _, Nat.le_succ _⟩, rfl, rfl, rfl, fun h1 => absurd h1 c⟩
structure Mv1 (G : Gm) (a b : List Int) (t t' : Tt) : Prop where
  k0 : t.k ≤ t'.k ∧ t'.k ≤ t.k + 1
  i0 : t'.i = t.i
  u0 : t'.u = t.u
  v0 : t'.v = t.v
  go : t.k < a.length → t.k ≤ t.u → ¬ ovW G a b (min t.k t.u) → t'.k = t.k + 1
theorem mv1 (h : t.Ok G a b) (hI : Inp G a b) : Mv1 G a b t (tstep G a b 1 t) := by
  have hl := hI.ll
  unfold tstep
  rw [if_neg (by decide), if_pos rfl]
  split
  · rename_i c
    refine ⟨by show t.k ≤ (if (locA t.y G).2 = 0 then t.k + 1 else t.k) ∧ (if (locA t.y G).2 = 0 then t.k + 1 else t.k) ≤ t.k + 1; split <;> omega, rfl, rfl, rfl, fun _ h2 h3 => ?_⟩
    have := h.y.loc_ok (by rw [h.sy hI]; exact not_ov h3) h2
    show (if (locA t.y G).2 = 0 then t.k + 1 else t.k) = t.k + 1
    rw [if_pos this]
  · rename_i c
    exact ⟨⟨Nat.le_refl _, Nat.le_succ _⟩, rfl, rfl, rfl, fun h1 => absurd h1 (by omega)⟩
structure Mv2 (G : Gm) (a b : List Int) (t t' : Tt) : Prop where
  u0 : t.u ≤ t'.u ∧ t'.u ≤ t.u + 1
  i0 : t'.i = t.i
  k0 : t'.k = t.k
  v0 : t'.v = t.v
  go : t.u < t.i → ¬ ovW G a b (min t.k t.u) → t'.u = t.u + 1
theorem mv2 (h : t.Ok G a b) (hI : Inp G a b) : Mv2 G a b t (tstep G a b 2 t) := by
  unfold tstep
  rw [if_neg (by decide), if_neg (by decide), if_pos rfl]
  split
  · rename_i c
    refine ⟨by show t.u ≤ (if remA t.y G (t.u : Int) (gd a t.u) = 0 then t.u + 1 else t.u) ∧ (if remA t.y G (t.u : Int) (gd a t.u) = 0 then t.u + 1 else t.u) ≤ t.u + 1; split <;> omega, rfl, rfl, rfl, fun _ h3 => ?_⟩
    have h5 := h.x.ple
    have h6 := h.x.win
    have h7 := h.vk
    have := h.y.rem_ok (by rw [h.sy hI]; exact not_ov h3) (by omega) (by omega) (gd a t.u)
    show (if remA t.y G (t.u : Int) (gd a t.u) = 0 then t.u + 1 else t.u) = t.u + 1
    rw [if_pos this]
  · rename_i c
    exact ⟨⟨Nat.le_refl _, Nat.le_succ _⟩, rfl, rfl, rfl, fun h1 => absurd h1 c⟩
structure Mv3 (G : Gm) (a b : List Int) (t t' : Tt) : Prop where
  v0 : t.v ≤ t'.v ∧ t'.v ≤ t.v + 1
  i0 : t'.i = t.i
  k0 : t'.k = t.k
  u0 : t'.u = t.u
  go : t.v < t.k → ¬ ovW G a b (min t.i t.v) → t'.v = t.v + 1
theorem mv3 (h : t.Ok G a b) (hI : Inp G a b) : Mv3 G a b t (tstep G a b 3 t) := by
  unfold tstep
  rw [if_neg (by decide), if_neg (by decide), if_neg (by decide)]
  split
  · rename_i c
    refine ⟨by show t.v ≤ (if remA t.x G (t.v : Int) (gd b t.v) = 0 then t.v + 1 else t.v) ∧ (if remA t.x G (t.v : Int) (gd b t.v) = 0 then t.v + 1 else t.v) ≤ t.v + 1; split <;> omega, rfl, rfl, rfl, fun _ h3 => ?_⟩
    have h5 := h.y.ple
    have h6 := h.y.win
    have h7 := h.ui
    have := h.x.rem_ok (by rw [h.sx hI]; exact not_ov h3) (by omega) (by omega) (gd b t.v)
    show (if remA t.x G (t.v : Int) (gd b t.v) = 0 then t.v + 1 else t.v) = t.v + 1
    rw [if_pos this]
  · rename_i c
    exact ⟨⟨Nat.le_refl _, Nat.le_succ _⟩, rfl, rfl, rfl, fun h1 => absurd h1 c⟩
/-- Behind c rounds of four. -/
structure Cyc (G : Gm) (a b : List Int) (t : Tt) (c : Nat) : Prop where
  y : ovW G a b (min t.k t.u) ∨ min c t.i ≤ t.u
  x : ovW G a b (min t.i t.v) ∨ min c t.k ≤ t.v
  m : ovW G a b (min t.i t.v) ∨ ovW G a b (min t.k t.u) ∨ min (a.length + 1) c ≤ min t.i t.k + 1
def cycT (G : Gm) (a b : List Int) (t : Tt) : Tt := tstep G a b 3 (tstep G a b 2 (tstep G a b 1 (tstep G a b 0 t)))
theorem cyc_zero (t : Tt) : Cyc G a b t 0 := ⟨Or.inr (by omega), Or.inr (by omega), Or.inr (Or.inr (by omega))⟩
theorem cyc_next (h : t.Ok G a b) (hI : Inp G a b) {c : Nat} (hc : Cyc G a b t c) : Cyc G a b (cycT G a b t) (c + 1) := by
  have o1 := h.step hI 0
  have o2 := o1.step hI 1
  have o3 := o2.step hI 2
  have m0 := mv0 h hI
  have m1 := mv1 o1 hI
  have m2 := mv2 o2 hI
  have m3 := mv3 o3 hI
  unfold cycT
  generalize tstep G a b 0 t = t1 at *
  generalize tstep G a b 1 t1 = t2 at *
  generalize tstep G a b 2 t2 = t3 at *
  generalize tstep G a b 3 t3 = t4 at *
  obtain ⟨a1, a2, a3, a4, a5⟩ := m0
  obtain ⟨b1, b2, b3, b4, b5⟩ := m1
  obtain ⟨c1, c2, c3, c4, c5⟩ := m2
  obtain ⟨d1, d2, d3, d4, d5⟩ := m3
  obtain ⟨e1, e2, e3⟩ := hc
  have up : ∀ j k : Nat, j ≤ k → ¬ ovW G a b k → ¬ ovW G a b j := fun j k hjk hk hj => hk (ovW_mono hj hjk).1
  have PY : ¬ ovW G a b (min t4.k t4.u) → min (c + 1) t4.i ≤ t4.u := fun no => by
    have n2 : ¬ ovW G a b (min t2.k t2.u) := up _ _ (by omega) no
    have n0 : ¬ ovW G a b (min t.k t.u) := up _ _ (by omega) no
    have q1 := e1.resolve_left n0
    by_cases g : t2.u < t2.i
    · have := c5 g n2
      omega
    · omega
  have PX : ¬ ovW G a b (min t4.i t4.v) → min (c + 1) t4.k ≤ t4.v := fun no => by
    have n3 : ¬ ovW G a b (min t3.i t3.v) := up _ _ (by omega) no
    have n0 : ¬ ovW G a b (min t.i t.v) := up _ _ (by omega) no
    have q1 := e2.resolve_left n0
    by_cases g : t3.v < t3.k
    · have := d5 g n3
      omega
    · omega
  refine ⟨?_, ?_, ?_⟩
  · by_cases no : ovW G a b (min t4.k t4.u)
    · exact Or.inl no
    · exact Or.inr (PY no)
  · by_cases no : ovW G a b (min t4.i t4.v)
    · exact Or.inl no
    · exact Or.inr (PX no)
  · by_cases nx : ovW G a b (min t4.i t4.v)
    · exact Or.inl nx
    · by_cases ny : ovW G a b (min t4.k t4.u)
      · exact Or.inr (Or.inl ny)
      · refine Or.inr (Or.inr ?_)
        have nx0 : ¬ ovW G a b (min t.i t.v) := up _ _ (by omega) nx
        have ny0 : ¬ ovW G a b (min t.k t.u) := up _ _ (by omega) ny
        have ny1 : ¬ ovW G a b (min t1.k t1.u) := up _ _ (by omega) ny
        have q1 := e1.resolve_left ny0
        have q2 := e2.resolve_left nx0
        have q3 := (e3.resolve_left nx0).resolve_left ny0
        have q4 := a5
        have q5 := b5
        by_cases g0 : t.i < a.length ∧ t.i ≤ t.v
        · have r0 := q4 g0.1 g0.2 nx0
          by_cases g1 : t1.k < a.length ∧ t1.k ≤ t1.u
          · have r1 := q5 g1.1 g1.2 ny1
            omega
          · omega
        · by_cases g1 : t1.k < a.length ∧ t1.k ≤ t1.u
          · have r1 := q5 g1.1 g1.2 ny1
            omega
          · omega
/-- In the end. -/
theorem cyc_end (h : t.Ok G a b) (hI : Inp G a b) {c : Nat} (hc : Cyc G a b t c) (hL : a.length < c) : t.x.sure G = allW G a b a.length ∧ t.y.sure G = allW G a b a.length := by
  obtain ⟨e1, e2, e3⟩ := hc
  have h1 := h.iL
  have h2 := h.kL
  have h3 := h.ui
  have h4 := h.vk
  rw [h.sx hI, h.sy hI]
  have fin : ∀ j, j ≤ a.length → ovW G a b j → allW G a b j = allW G a b a.length := fun j hj ho => ((ovW_mono ho hj).2).symm
  by_cases ox : ovW G a b (min t.i t.v)
  · refine ⟨fin _ (by omega) ox, ?_⟩
    by_cases oy : ovW G a b (min t.k t.u)
    · exact fin _ (by omega) oy
    · have := e1.resolve_left oy
      exact absurd (ovW_mono ox (show min t.i t.v ≤ min t.k t.u by omega)).1 oy
  · by_cases oy : ovW G a b (min t.k t.u)
    · refine ⟨?_, fin _ (by omega) oy⟩
      have := e2.resolve_left ox
      exact absurd (ovW_mono oy (show min t.k t.u ≤ min t.i t.v by omega)).1 ox
    · have q1 := e1.resolve_left oy
      have q2 := e2.resolve_left ox
      have q3 := (e3.resolve_left ox).resolve_left oy
      rw [show min t.i t.v = a.length by omega, show min t.k t.u = a.length by omega]
      exact ⟨rfl, rfl⟩
/-- All rounds, by what is picked. -/
def tpick (ps : List Int) (n : Nat) : Int := if n < ps.length then ps.getD n 0 else (n : Int)
def trun (G : Gm) (a b : List Int) (ps : List Int) (t : Tt) : Nat → Tt
  | 0 => t
  | n + 1 => tstep G a b (tpick ps n % 4) (trun G a b ps t n)
theorem trun_ok (h : t.Ok G a b) (hI : Inp G a b) (ps : List Int) : ∀ n, (trun G a b ps t n).Ok G a b
  | 0 => h
  | n + 1 => (trun_ok h hI ps n).step hI _
theorem trun_cyc (h : t.Ok G a b) (hI : Inp G a b) {ps : List Int} (hp : ps.length ≤ 100) : ∀ c, Cyc G a b (trun G a b ps t (100 + 4 * c)) c
  | 0 => cyc_zero _
  | c + 1 => by
    have ih := cyc_next (trun_ok h hI ps (100 + 4 * c)) hI (trun_cyc h hI hp c)
    have e : ∀ r : Nat, r < 4 → tpick ps (100 + 4 * c + r) % 4 = (r : Int) := fun r hr => by
      unfold tpick
      rw [if_neg (by omega)]
      omega
    have e0 := e 0 (by omega)
    have e1 := e 1 (by omega)
    have e2 := e 2 (by omega)
    have e3 := e 3 (by omega)
    have : trun G a b ps t (100 + 4 * (c + 1)) = cycT G a b (trun G a b ps t (100 + 4 * c)) := by
      show tstep G a b (tpick ps (100 + 4 * c + 3) % 4) (tstep G a b (tpick ps (100 + 4 * c + 2) % 4) (tstep G a b (tpick ps (100 + 4 * c + 1) % 4) (tstep G a b (tpick ps (100 + 4 * c + 0) % 4) (trun G a b ps t (100 + 4 * c))))) = _
      rw [e0, e1, e2, e3]
      rfl
    rw [this]
    exact ih
theorem trun_end (h : t.Ok G a b) (hI : Inp G a b) {ps : List Int} (hp : ps.length ≤ 100) (hL : a.length ≤ 40) : (trun G a b ps t 400).x.sure G = allW G a b a.length ∧ (trun G a b ps t 400).y.sure G = allW G a b a.length :=
  cyc_end (trun_ok h hI ps 400) hI (trun_cyc h hI hp 75) (by omega)
end
end Go.Proofs.YtbfldcieibdapabGreat
end
