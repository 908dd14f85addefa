/-
  Whole games in plain words: the states on the way (goS), the last one (endG). Plain facts; no walk.
-/
import Derived.Test.YtgnbcalfojifnaaStepWf
import Derived.Test.YtgnbcalfojifnaaLaw
namespace Go.Proofs.Ytgnbcalfojifnaa
/-- What a run keeps: who won is one of three, the seed is not nought. -/
def Mq (m : Mp) : Prop := (∀ a, m.won = some a → 0 ≤ a ∧ a ≤ 2) ∧ (0 ≤ m.seed ∧ m.seed < 4294967296) ∧ m.seed ≠ 0
theorem push_q {m m' : Mp} {v : Int} (h : m.push v = some m') (hq : Mq m) : Mq m' := by
  unfold Mp.push at h
  split at h
  · cases h; exact hq
  · cases h
theorem mayI_win2 {x : Ii} {n : Int} (h : mayI x n = true) (h20 : x.1 = 20) : 0 ≤ x.2 ∧ x.2 ≤ 2 := by
  obtain ⟨o, a⟩ := x
  simp only at h20
  subst h20
  have h2 : decide (0 ≤ a ∧ a ≤ 2) = true := h
  simpa only [decide_eq_true_eq] using h2
theorem doI_q {fr i0 i1 : Int} {n : Nat} {x : Ii} {m m' : Mp} (h : doI fr i0 i1 n x m = some m') (hx : mayI x (n : Int) = true) (hq : Mq m) : Mq m' := by
  have h20 := mayI_win2 hx
  obtain ⟨c, sd, st, pc, won⟩ := m
  unfold doI at h
  by_cases c0 : x.1 = 1
  · rw [if_pos c0] at h
    (rcases st with _ | ⟨a1, _ | ⟨b1, st⟩⟩ <;> first | (cases h; exact hq) | exact push_q h hq | cases h)
  rw [if_neg c0] at h
  by_cases c1 : x.1 = 2
  · rw [if_pos c1] at h
    (rcases st with _ | ⟨a1, _ | ⟨b1, st⟩⟩ <;> first | (cases h; exact hq) | exact push_q h hq | cases h)
  rw [if_neg c1] at h
  by_cases c2 : x.1 = 3
  · rw [if_pos c2] at h
    (rcases st with _ | ⟨a1, _ | ⟨b1, st⟩⟩ <;> first | (cases h; exact hq) | exact push_q h hq | cases h)
  rw [if_neg c2] at h
  by_cases c3 : x.1 ≤ 11
  · rw [if_pos c3] at h
    (rcases st with _ | ⟨a1, _ | ⟨b1, st⟩⟩ <;> first | (cases h; exact hq) | exact push_q h hq | cases h)
  rw [if_neg c3] at h
  by_cases c4 : x.1 = 12
  · rw [if_pos c4] at h
    (rcases st with _ | ⟨a1, _ | ⟨b1, st⟩⟩ <;> first | (cases h; exact hq) | exact push_q h hq | cases h)
  rw [if_neg c4] at h
  by_cases c5 : x.1 = 13
  · rw [if_pos c5] at h
    (rcases st with _ | ⟨a1, _ | ⟨b1, st⟩⟩ <;> first | (cases h; exact hq) | exact push_q h hq | cases h)
  rw [if_neg c5] at h
  by_cases c6 : x.1 = 14
  · rw [if_pos c6] at h
    (rcases st with _ | ⟨a1, _ | ⟨b1, st⟩⟩ <;> first | (cases h; exact hq) | exact push_q h hq | cases h)
  rw [if_neg c6] at h
  by_cases c7 : x.1 = 15
  · rw [if_pos c7] at h
    (rcases st with _ | ⟨a1, _ | ⟨b1, st⟩⟩ <;> first | (cases h; exact hq) | exact push_q h hq | cases h)
  rw [if_neg c7] at h
  by_cases c8 : x.1 = 16
  · rw [if_pos c8] at h
    (rcases st with _ | ⟨a1, _ | ⟨b1, st⟩⟩ <;> first | (cases h; exact hq) | exact push_q h hq | cases h)
  rw [if_neg c8] at h
  by_cases c9 : x.1 = 17
  · rw [if_pos c9] at h
    (rcases st with _ | ⟨a1, _ | ⟨b1, st⟩⟩ <;> first | (cases h; exact hq) | exact push_q h hq | cases h)
  rw [if_neg c9] at h
  by_cases c10 : x.1 = 18
  · rw [if_pos c10] at h
    (rcases st with _ | ⟨a1, _ | ⟨b1, st⟩⟩ <;> first | (cases h; exact hq) | exact push_q h hq | cases h)
  rw [if_neg c10] at h
  by_cases c11 : x.1 = 19
  · rw [if_pos c11] at h
    (rcases st with _ | ⟨a1, _ | ⟨b1, st⟩⟩ <;> first | (cases h; exact hq) | exact push_q h hq | cases h)
  rw [if_neg c11] at h
  by_cases c12 : x.1 = 20
  · rw [if_pos c12] at h
    cases h
    exact ⟨fun a ha => by cases ha; exact h20 c12, hq.2.1, hq.2.2⟩
  rw [if_neg c12] at h
  by_cases c13 : x.1 = 21
  · rw [if_pos c13] at h
    refine push_q h ⟨hq.1, ?_, ?_⟩
    · exact rndI_in hq.2.1
    · exact rndI_ne hq.2.1 hq.2.2
  rw [if_neg c13] at h
  cases h
  exact hq
theorem runI_q {fr i0 i1 : Int} {l : List Ii} (ho : Okp l) : ∀ (k : Nat) (m m' : Mp), Mq m → runI fr i0 i1 l k m = some m' → Mq m'
  | 0, m, m', hq, h => by
    unfold runI at h
    by_cases e : l.length ≤ m.pc
    · rw [if_pos e] at h
      cases h
      exact hq
    · rw [if_neg e] at h
      cases h
  | k + 1, m, m', hq, h => by
    cases hx : l[m.pc]? with
    | none =>
      rw [runI_end (k + 1) (List.getElem?_eq_none_iff.1 hx)] at h
      cases h
      exact hq
    | some x =>
      rw [runI_step k hx] at h
      cases h2 : doI fr i0 i1 l.length x m with
      | none => rw [h2] at h; cases h
      | some m2 =>
        rw [h2] at h
        exact runI_q ho k m2 m' (doI_q h2 (ho.may x (List.mem_of_getElem? hx)) hq) h
/-- A state from which a game of this Cap can go on, or that is over. -/
structure Gs (cap : Int) (s : Sp) : Prop where
  wf : s.Wf
  f0 : 0 ≤ s.frame
  f1 : s.frame ≤ cap
  f2 : s.over = false → s.frame < cap
  w0 : 0 ≤ s.win
  w1 : s.win ≤ 2
  w2 : s.over = false → s.win = 0
  seed : s.seed ≠ 0
theorem startS_gs (k cap : Int) (hk : 0 ≤ k ∧ k < 4294967296) (hc : 1 ≤ cap) : Gs cap (startS k) := by
  refine ⟨startS_wf k hk, Int.le_refl _, ?_, fun _ => ?_, Int.le_refl _, ?_, fun _ => rfl, ?_⟩
  · show (0 : Int) ≤ cap; omega
  · show (0 : Int) < cap; omega
  · show (0 : Int) ≤ 2; omega
  · show (if k = 0 then 1 else k) ≠ 0
    split <;> omega
theorem chkG_cap {l : List Ii} {cap fuel : Int} (h : chkG l cap fuel = 0) : (chk l).2 = 0 ∧ 1 ≤ cap ∧ cap ≤ 600 ∧ 1 ≤ fuel ∧ fuel ≤ 2000 := by
  unfold chkG at h
  by_cases h4 : (chk l).2 ≠ 0
  · rw [if_pos h4] at h; exact absurd h h4
  · rw [if_neg h4] at h
    by_cases h5 : cap < 1 ∨ 600 < cap ∨ fuel < 1 ∨ 2000 < fuel
    · rw [if_pos h5] at h; omega
    · exact ⟨by omega, by omega, by omega, by omega, by omega⟩
theorem Gs.stepE {l : List Ii} {cap fuel : Int} {s : Sp} (h : Gs cap s) (hc : chkG l cap fuel = 0) (ho : s.over = false) : stepE l cap fuel s = 0 := by
  have hcap := chkG_cap hc
  have h1 := h.f1
  have hi : isS s = true := by
    simp only [isS, decide_eq_true_eq]
    exact ⟨h.f0, by omega, h.w0, h.w1, Or.inr (h.w2 ho)⟩
  have h2 := h.f2 ho
  have hs := h.seed
  unfold Go.Proofs.Ytgnbcalfojifnaa.stepE
  rw [if_neg (by omega), if_neg (by rw [hi]; simp [hs]), if_neg (by rw [ho]; simp; omega)]
theorem stepS_frame (l : List Ii) (cap fuel : Int) (s : Sp) (i0 i1 : Int) : (stepS l cap fuel s i0 i1).frame = s.frame + 1 := by
  unfold stepS endS
  split
  · show _ + 1 = _; rw [ranS_frame]
  · show _ + 1 = _; rw [ranS_frame]
/-- What is behind a frame that may be played. -/
theorem stepS_facts {l : List Ii} {cap fuel : Int} {s : Sp} {i0 i1 : Int} (hs : s.Wf) (hi0 : 0 ≤ i0 ∧ i0 < 65536) (hi1 : 0 ≤ i1 ∧ i1 < 65536) (hE : stepE l cap fuel s = 0) : Gs cap (stepS l cap fuel s i0 i1) := by
  have hwf : (stepS l cap fuel s i0 i1).Wf := by
    have h := stepF_wf l cap fuel s i0 i1 hs hi0 hi1
    rw [show stepF l cap fuel s i0 i1 = (stepS l cap fuel s i0 i1, 0) from if_pos hE] at h
    exact h
  have hfr := stepS_frame l cap fuel s i0 i1
  obtain ⟨hok, _, hcap, hf1, hf2, hfr0, hfr1, hov, hwin, hsd⟩ := stepE_ok hE
  have key : ∀ t : Sp, t.frame = s.frame → (0 ≤ t.win ∧ t.win ≤ 2 ∧ (t.over = false → t.win = 0) ∧ t.seed ≠ 0) → stepS l cap fuel s i0 i1 = endS cap t → Gs cap (stepS l cap fuel s i0 i1) := by
    intro t h1 ⟨h2, h3, h4, h5⟩ he
    by_cases hc : t.frame + 1 = cap ∧ t.over = false
    · have e1 : stepS l cap fuel s i0 i1 = { t with frame := t.frame + 1, over := true, win := moreI (t.cells.getD 0 0) (t.cells.getD 1 0) } := he.trans (if_pos hc)
      have hm : 0 ≤ moreI (t.cells.getD 0 0) (t.cells.getD 1 0) ∧ moreI (t.cells.getD 0 0) (t.cells.getD 1 0) ≤ 2 := by
        unfold moreI
        repeat' split
        all_goals omega
      rw [e1] at hwf hfr ⊢
      exact ⟨hwf, by show 0 ≤ t.frame + 1; omega, by show t.frame + 1 ≤ cap; omega, fun e => (by cases e), hm.1, hm.2, fun e => (by cases e), h5⟩
    · have e1 : stepS l cap fuel s i0 i1 = { t with frame := t.frame + 1 } := he.trans (if_neg hc)
      rw [e1] at hwf hfr ⊢
      refine ⟨hwf, by show 0 ≤ t.frame + 1; omega, by show t.frame + 1 ≤ cap; omega, fun e => ?_, h2, h3, h4, h5⟩
      show t.frame + 1 < cap
      have : ¬ t.frame + 1 = cap := fun e2 => hc ⟨e2, e⟩
      omega
  refine key _ (ranS_frame s _) ?_ rfl
  cases hR : runI s.frame i0 i1 l fuel.toNat (startM s) with
  | none =>
    show 0 ≤ s.win ∧ s.win ≤ 2 ∧ (s.over = false → s.win = 0) ∧ s.seed ≠ 0
    exact ⟨by omega, by omega, fun _ => hwin, hsd⟩
  | some m =>
    have hq : Mq m := runI_q hok _ _ _ ⟨fun a ha => (by cases ha), hs.seed, hsd⟩ hR
    cases hm : m.won with
    | none =>
      have e : ranS s (some m) = { s with cells := m.cells, seed := m.seed } := by simp only [ranS, hm]
      rw [e]
      exact ⟨by show 0 ≤ s.win; omega, by show s.win ≤ 2; omega, fun _ => hwin, hq.2.2⟩
    | some a =>
      have e : ranS s (some m) = { s with cells := m.cells, seed := m.seed, over := true, win := a } := by simp only [ranS, hm]
      rw [e]
      exact ⟨(hq.1 a hm).1, (hq.1 a hm).2, fun e => (by cases e), hq.2.2⟩
/-- The states behind s, frame by frame, till it is over. -/
def goS (l : List Ii) (cap fuel : Int) : Sp → List (Int × Int) → List Sp
  | _, [] => []
  | s, p :: ps => if s.over = true then [] else stepS l cap fuel s p.1 p.2 :: goS l cap fuel (stepS l cap fuel s p.1 p.2) ps
/-- The last of them, or s itself. -/
def endG (l : List Ii) (cap fuel : Int) : Sp → List (Int × Int) → Sp
  | s, [] => s
  | s, p :: ps => if s.over = true then s else endG l cap fuel (stepS l cap fuel s p.1 p.2) ps
/-- Inputs that players can do. -/
def InP (ps : List (Int × Int)) : Prop := ∀ p ∈ ps, (0 ≤ p.1 ∧ p.1 < 65536) ∧ (0 ≤ p.2 ∧ p.2 < 65536)
theorem InP.at {ps : List (Int × Int)} (h : InP ps) {i : Nat} {p : Int × Int} (hi : ps[i]? = some p) : (0 ≤ p.1 ∧ p.1 < 65536) ∧ (0 ≤ p.2 ∧ p.2 < 65536) := h p (List.mem_of_getElem? hi)
theorem InP.drop {ps : List (Int × Int)} (h : InP ps) (k : Nat) : InP (ps.drop k) := fun p hp => h p (List.mem_of_mem_drop hp)
theorem goS_over {l : List Ii} {cap fuel : Int} {s : Sp} (ps : List (Int × Int)) (h : s.over = true) : goS l cap fuel s ps = [] := by
  cases ps with
  | nil => rfl
  | cons p ps => exact if_pos h
theorem endG_over {l : List Ii} {cap fuel : Int} {s : Sp} (ps : List (Int × Int)) (h : s.over = true) : endG l cap fuel s ps = s := by
  cases ps with
  | nil => rfl
  | cons p ps => exact if_pos h
theorem goS_step {l : List Ii} {cap fuel : Int} {s : Sp} {ps : List (Int × Int)} {k : Nat} {p : Int × Int} (hk : ps[k]? = some p) (h : s.over = false) : goS l cap fuel s (ps.drop k) = stepS l cap fuel s p.1 p.2 :: goS l cap fuel (stepS l cap fuel s p.1 p.2) (ps.drop (k + 1)) := by
  obtain ⟨hlt, hp⟩ := List.getElem?_eq_some_iff.1 hk
  rw [List.drop_eq_getElem_cons hlt, hp]
  exact if_neg (by simp [h])
theorem endG_step {l : List Ii} {cap fuel : Int} {s : Sp} {ps : List (Int × Int)} {k : Nat} {p : Int × Int} (hk : ps[k]? = some p) (h : s.over = false) : endG l cap fuel s (ps.drop k) = endG l cap fuel (stepS l cap fuel s p.1 p.2) (ps.drop (k + 1)) := by
  obtain ⟨hlt, hp⟩ := List.getElem?_eq_some_iff.1 hk
  rw [List.drop_eq_getElem_cons hlt, hp]
  exact if_neg (by simp [h])
theorem goS_end {l : List Ii} {cap fuel : Int} {s : Sp} {ps : List (Int × Int)} {k : Nat} (hk : ps.length ≤ k) : goS l cap fuel s (ps.drop k) = [] := by
  rw [List.drop_eq_nil_of_le hk]; rfl
theorem endG_end {l : List Ii} {cap fuel : Int} {s : Sp} {ps : List (Int × Int)} {k : Nat} (hk : ps.length ≤ k) : endG l cap fuel s (ps.drop k) = s := by
  rw [List.drop_eq_nil_of_le hk]; rfl
theorem goS_last (l : List Ii) (cap fuel : Int) : ∀ (ps : List (Int × Int)) (s : Sp), (s :: goS l cap fuel s ps).getLast (by simp) = endG l cap fuel s ps
  | [], s => rfl
  | p :: ps, s => by
    unfold goS endG
    by_cases h : s.over = true
    · simp [h]
    · simp only [if_neg h]
      rw [List.getLast_cons (by simp)]
      exact goS_last l cap fuel ps _
theorem goS_len (l : List Ii) (cap fuel : Int) : ∀ (ps : List (Int × Int)) (s : Sp), (goS l cap fuel s ps).length ≤ ps.length ∧ ((goS l cap fuel s ps).length = ps.length ∨ (endG l cap fuel s ps).over = true)
  | [], s => ⟨Nat.le_refl _, Or.inl rfl⟩
  | p :: ps, s => by
    unfold goS endG
    by_cases h : s.over = true
    · simp only [if_pos h]
      exact ⟨by simp, Or.inr h⟩
    · simp only [if_neg h]
      have := goS_len l cap fuel ps (stepS l cap fuel s p.1 p.2)
      simp only [List.length_cons]
      exact ⟨by omega, by rcases this.2 with e | e; exact Or.inl (by omega); exact Or.inr e⟩
theorem endG_append (l : List Ii) (cap fuel : Int) : ∀ (ps qs : List (Int × Int)) (s : Sp), endG l cap fuel s (ps ++ qs) = endG l cap fuel (endG l cap fuel s ps) qs
  | [], qs, s => rfl
  | p :: ps, qs, s => by
    show (if s.over = true then s else endG l cap fuel (stepS l cap fuel s p.1 p.2) (ps ++ qs)) = endG l cap fuel (if s.over = true then s else endG l cap fuel (stepS l cap fuel s p.1 p.2) ps) qs
    by_cases h : s.over = true
    · rw [if_pos h, if_pos h, endG_over qs h]
    · rw [if_neg h, if_neg h]; exact endG_append l cap fuel ps qs _
theorem endG_gs {l : List Ii} {cap fuel : Int} (hc : chkG l cap fuel = 0) : ∀ (ps : List (Int × Int)) (s : Sp), InP ps → Gs cap s → Gs cap (endG l cap fuel s ps)
  | [], s, _, h => h
  | p :: ps, s, hp, h => by
    unfold endG
    by_cases ho : s.over = true
    · rw [if_pos ho]; exact h
    · rw [if_neg ho]
      have ho' : s.over = false := by cases e : s.over with | false => rfl | true => exact absurd e ho
      have h2 := hp p (by simp)
      exact endG_gs hc ps _ (fun q hq => hp q (by simp [hq])) (stepS_facts h.wf h2.1 h2.2 (h.stepE hc ho'))
theorem endG_frame (l : List Ii) (cap fuel : Int) : ∀ (ps : List (Int × Int)) (s : Sp), s.frame ≤ (endG l cap fuel s ps).frame
  | [], s => Int.le_refl _
  | p :: ps, s => by
    unfold endG
    by_cases ho : s.over = true
    · rw [if_pos ho]; exact Int.le_refl _
    · rw [if_neg ho]
      have := endG_frame l cap fuel ps (stepS l cap fuel s p.1 p.2)
      rw [stepS_frame] at this
      omega
theorem goS_gs {l : List Ii} {cap fuel : Int} (hc : chkG l cap fuel = 0) : ∀ (ps : List (Int × Int)) (s : Sp), InP ps → Gs cap s → ∀ t ∈ goS l cap fuel s ps, Gs cap t
  | [], s, _, h, t, ht => by cases ht
  | p :: ps, s, hp, h, t, ht => by
    unfold goS at ht
    by_cases ho : s.over = true
    · rw [if_pos ho] at ht; cases ht
    · rw [if_neg ho] at ht
      have ho' : s.over = false := by cases e : s.over with | false => rfl | true => exact absurd e ho
      have h2 := hp p (by simp)
      have h3 := stepS_facts h.wf h2.1 h2.2 (h.stepE hc ho')
      rcases List.mem_cons.1 ht with rfl | ht
      · exact h3
      · exact goS_gs hc ps _ (fun q hq => hp q (by simp [hq])) h3 t ht
/-- Each state on the way is one Step behind the one ahead of it, which was not over. -/
theorem goS_each (l : List Ii) (cap fuel : Int) : ∀ (ps : List (Int × Int)) (s : Sp) (i : Nat) (t : Sp), (s :: goS l cap fuel s ps)[i + 1]? = some t → ∃ u p, (s :: goS l cap fuel s ps)[i]? = some u ∧ ps[i]? = some p ∧ u.over = false ∧ t = stepS l cap fuel u p.1 p.2
  | [], s, i, t, h => by simp [goS] at h
  | p :: ps, s, i, t, h => by
    unfold goS at h ⊢
    by_cases ho : s.over = true
    · rw [if_pos ho] at h; simp at h
    · rw [if_neg ho] at h ⊢
      have ho' : s.over = false := by cases e : s.over with | false => rfl | true => exact absurd e ho
      cases i with
      | zero =>
        simp only [Nat.zero_add, List.getElem?_cons_succ, List.getElem?_cons_zero, Option.some.injEq] at h
        exact ⟨s, p, rfl, rfl, ho', h.symm⟩
      | succ i =>
        rw [List.getElem?_cons_succ] at h
        obtain ⟨u, q, h1, h2, h3, h4⟩ := goS_each l cap fuel ps _ i t h
        exact ⟨u, q, by rw [List.getElem?_cons_succ]; exact h1, by rw [List.getElem?_cons_succ]; exact h2, h3, h4⟩
end Go.Proofs.Ytgnbcalfojifnaa
