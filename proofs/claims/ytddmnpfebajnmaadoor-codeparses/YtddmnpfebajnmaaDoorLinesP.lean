/-
  Lines in plain words: a text cut at a byte, the lines of a text (linesL), an instruction that a line tells (Ln, readL), a text as a program (parS). Plain facts; no walk.
-/
import Derived.Test.YtddmnpfebajnmaaDoorPrint
import Derived.Lib.IndexMore
namespace Go.Proofs.YtddmnpfebajnmaaDoor
open Go.RowKit
theorem occ_one (c : UInt8) (s : List UInt8) (j : Nat) : Lib.occAt s [c] j = decide (s[j]? = some c) := by
  unfold Lib.occAt
  by_cases hj : j < s.length
  · rw [List.drop_eq_getElem_cons hj, List.getElem?_eq_getElem hj]
    by_cases h : s[j] = c
    · simp [h, List.isPrefixOf]
    · simp [List.isPrefixOf, h]
      exact fun e => h e.symm
  · rw [List.drop_eq_nil_of_le (by omega), List.getElem?_eq_none (by omega)]
    simp [List.isPrefixOf]
theorem cut_at (c : UInt8) (a b : List UInt8) (h : c ∉ a) : Lib.cut (a ++ c :: b) [c] = (a, b, true) := by
  have hix : Lib.index (a ++ c :: b) [c] = (a.length : Int) := by
    refine Lib.index_first (by simp) ?_ ?_
    · rw [occ_one]; simp
    · intro j hj
      rw [occ_one, List.getElem?_append_left hj, List.getElem?_eq_getElem hj]
      simp only [decide_eq_false_iff_not, Option.some.injEq]
      exact fun e => h (e ▸ List.getElem_mem hj)
  unfold Lib.cut
  rw [hix, if_pos (by omega)]
  simp [List.drop_append]
theorem cut_no (c : UInt8) (a : List UInt8) (h : c ∉ a) : Lib.cut a [c] = (a, [], false) := by
  have hix : ¬ 0 ≤ Lib.index a [c] := by
    rcases Lib.index_spec a [c] with ⟨h1, _⟩ | ⟨i, h1, h2, h3, _⟩
    · omega
    · rw [occ_one] at h3
      simp only [decide_eq_true_eq] at h3
      exact absurd (List.mem_of_getElem? h3) h
  unfold Lib.cut
  rw [if_neg hix]
/-- A text without the byte, or one that is parted by its first. -/
theorem parted (c : UInt8) : ∀ (s : List UInt8), c ∉ s ∨ ∃ a b, s = a ++ c :: b ∧ c ∉ a
  | [] => Or.inl (by simp)
  | x :: s => by
    by_cases h : x = c
    · exact Or.inr ⟨[], s, by simp [h], by simp⟩
    · rcases parted c s with h1 | ⟨a, b, h1, h2⟩
      · left
        simp only [List.mem_cons, not_or]
        exact ⟨fun e => h e.symm, h1⟩
      · right
        refine ⟨x :: a, b, by simp [h1], ?_⟩
        simp only [List.mem_cons, not_or]
        exact ⟨fun e => h e.symm, h2⟩
theorem cut_lt (c : UInt8) (s : List UInt8) (h : s ≠ []) : (Lib.cut s [c]).2.1.length < s.length := by
  rcases parted c s with h1 | ⟨a, b, rfl, h2⟩
  · rw [cut_no c s h1]
    exact List.length_pos_iff.2 h
  · rw [cut_at c a b h2]
    simp
    omega
/-- The lines of a text; what stands behind the last 0a, if that is nothing, is none. -/
def linesL (s : List UInt8) : List (List UInt8) :=
  if _h : s = [] then [] else (Lib.cut s [10]).1 :: linesL (Lib.cut s [10]).2.1
termination_by s.length
decreasing_by exact cut_lt 10 s (by assumption)
theorem linesL_nil : linesL [] = [] := by rw [linesL]; simp
theorem linesL_more {s : List UInt8} (h : s ≠ []) : linesL s = (Lib.cut s [10]).1 :: linesL (Lib.cut s [10]).2.1 := by rw [linesL, dif_neg h]
theorem linesL_line (a b : List UInt8) (h : (10 : UInt8) ∉ a) : linesL (a ++ 10 :: b) = a :: linesL b := by
  rw [linesL_more (by simp), cut_at 10 a b h]

theorem dig_of (r : Nat) (h : r < 10) : Lib.digitVal (UInt8.ofNat (48 + r)) = some r ∧ (UInt8.ofNat (48 + r)).toNat = 48 + r := by
  have e : (UInt8.ofNat (48 + r)).toNat = 48 + r := by rw [UInt8.toNat_ofNat']; omega
  unfold Lib.digitVal
  rw [e, if_pos (by omega)]
  exact ⟨by congr 1; omega, rfl⟩
theorem decFrom_snoc : ∀ (l : List UInt8) (acc n : Nat) (b : UInt8) (d : Nat), Lib.decFrom acc l = some n → Lib.digitVal b = some d → Lib.decFrom acc (l ++ [b]) = some (n * 10 + d)
  | [], acc, n, b, d, h, hd => by
    simp only [Lib.decFrom, Option.some.injEq] at h
    subst h
    simp [Lib.decFrom, hd]
  | x :: l, acc, n, b, d, h, hd => by
    simp only [List.cons_append, Lib.decFrom] at h ⊢
    split at h
    · rename_i y hy
      exact decFrom_snoc l _ n b d h hd
    · cases h
theorem decFrom_dec (n : Nat) : Lib.decFrom 0 (Lib.decDigits n) = some n ∧ (∀ d ∈ Lib.decDigits n, 48 ≤ d.toNat ∧ d.toNat ≤ 57) ∧ Lib.decDigits n ≠ [] := by
  induction n using Nat.strongRecOn with
  | ind n ih =>
    by_cases h : n < 10
    · have e : Lib.decDigits n = [UInt8.ofNat (48 + n)] := by rw [Lib.decDigits, dif_pos h]
      obtain ⟨h1, h2⟩ := dig_of n h
      rw [e]
      refine ⟨by simp only [Lib.decFrom, h1]; congr 1; omega, fun d hd => ?_, by simp⟩
      rw [List.mem_singleton.1 hd, h2]
      omega
    · rw [decDigits_more h]
      obtain ⟨i1, i2, i3⟩ := ih (n / 10) (by omega)
      obtain ⟨h1, h2⟩ := dig_of (n % 10) (by omega)
      refine ⟨?_, fun d hd => ?_, by simp⟩
      · rw [decFrom_snoc _ _ _ _ _ i1 h1]
        congr 1
        omega
      · rcases List.mem_append.1 hd with hd | hd
        · exact i2 d hd
        · rw [List.mem_singleton.1 hd, h2]; omega
theorem decNat_dec (n : Nat) : Lib.decNat (Lib.decDigits n) = some n := by
  obtain ⟨h1, _, h3⟩ := decFrom_dec n
  unfold Lib.decNat
  rw [if_neg (by simpa using h3)]
  exact h1
theorem atoi_itoa (n : Int) : Lib.atoi (Lib.itoa n) = some n := by
  unfold Lib.itoa
  split
  · rename_i h
    simp only [Lib.atoi, decNat_dec]
    simp
    omega
  · rename_i h
    obtain ⟨_, h2, h3⟩ := decFrom_dec n.toNat
    have hd := decNat_dec n.toNat
    cases hl : Lib.decDigits n.toNat with
    | nil => exact absurd hl h3
    | cons b r =>
      rw [hl] at hd h2
      have hb := h2 b (by simp)
      have n1 : (b == 45) = false := by
        apply beq_false_of_ne
        intro e
        rw [e] at hb
        exact absurd hb (by decide)
      have n2 : (b == 43) = false := by
        apply beq_false_of_ne
        intro e
        rw [e] at hb
        exact absurd hb (by decide)
      simp only [Lib.atoi, n1, n2, hd]
      simp
      omega
theorem itoa_inj {a b : Int} (h : Lib.itoa a = Lib.itoa b) : a = b := by
  have := atoi_itoa a
  rw [h, atoi_itoa] at this
  exact (Option.some.inj this).symm
theorem itoa_bytes (n : Int) : ∀ d ∈ Lib.itoa n, d = 45 ∨ (48 ≤ d.toNat ∧ d.toNat ≤ 57) := by
  intro d hd
  unfold Lib.itoa at hd
  split at hd
  · rcases List.mem_cons.1 hd with hd | hd
    · exact Or.inl hd
    · exact Or.inr ((decFrom_dec _).2.1 d hd)
  · exact Or.inr ((decFrom_dec _).2.1 d hd)
theorem itoa_ne (n : Int) (c : UInt8) (hc : c = 10 ∨ c = 32) : c ∉ Lib.itoa n := by
  intro h
  have := itoa_bytes n c h
  rcases hc with rfl | rfl
  · rcases this with h | h
    · exact absurd h (by decide)
    · exact absurd h (by decide)
  · rcases this with h | h
    · exact absurd h (by decide)
    · exact absurd h (by decide)
theorem name_ne : ∀ n : Fin 23, (10 : UInt8) ∉ nameL n.val ∧ (32 : UInt8) ∉ nameL n.val := by decide
theorem name_inj : ∀ n m : Fin 23, 1 ≤ n.val → 1 ≤ m.val → nameL n.val = nameL m.val → n = m := by decide
theorem name_odd : ∀ n : Fin 23, 1 ≤ n.val → ∃ c ∈ nameL n.val, c.toNat < 120 := by decide
/-- The line ln tells the instruction x. -/
structure Ln (ln : List UInt8) (x : Ii) : Prop where
  op : 1 ≤ x.1 ∧ x.1 ≤ 22
  line : lineL x = ln
  none_ : hasA x.1 = false → x.2 = 0
  few : hasA x.1 = true → (Lib.itoa x.2).length ≤ 11
theorem lineL_ten (x : Ii) (h : 1 ≤ x.1 ∧ x.1 ≤ 22) : (10 : UInt8) ∉ lineL x := by
  unfold lineL
  have h1 := (name_ne ⟨x.1.toNat, by omega⟩).1
  simp only at h1
  split
  · simp only [List.mem_append, List.mem_cons, not_or]
    exact ⟨h1, by decide, itoa_ne _ _ (Or.inl rfl)⟩
  · simpa using h1
/-- A line, cut at its blank. -/
theorem lineL_cut (x : Ii) (h : 1 ≤ x.1 ∧ x.1 ≤ 22) : (Lib.cut (lineL x) [32]).1 = nameL x.1.toNat ∧ (Lib.cut (lineL x) [32]).2.1 = (if hasA x.1 then Lib.itoa x.2 else []) := by
  have h1 := (name_ne ⟨x.1.toNat, by omega⟩).2
  simp only at h1
  unfold lineL
  split
  · rw [cut_at 32 _ _ h1]
    exact ⟨rfl, rfl⟩
  · rw [List.append_nil, cut_no 32 _ h1]
    exact ⟨rfl, rfl⟩
theorem Ln.uniq {ln : List UInt8} {x y : Ii} (hx : Ln ln x) (hy : Ln ln y) : x = y := by
  obtain ⟨a1, a2⟩ := lineL_cut x hx.op
  obtain ⟨b1, b2⟩ := lineL_cut y hy.op
  rw [hx.line] at a1 a2
  rw [hy.line] at b1 b2
  have ho := hx.op
  have ho' := hy.op
  have e1 := name_inj ⟨x.1.toNat, by omega⟩ ⟨y.1.toNat, by omega⟩ (by simp only; omega) (by simp only; omega) (a1.symm.trans b1)
  have e2 : x.1 = y.1 := by
    have := congrArg Fin.val e1
    simp only at this
    omega
  have e3 : x.2 = y.2 := by
    rw [e2] at a2
    cases hh : hasA y.1 with
    | true =>
      rw [hh] at a2 b2
      exact itoa_inj (a2.symm.trans b2)
    | false => rw [hx.none_ (by rw [e2]; exact hh), hy.none_ hh]
  exact Prod.ext e2 e3
theorem itoa_few (a : Int) (h : -2147483648 ≤ a ∧ a ≤ 2147483647) : (Lib.itoa a).length ≤ 11 := by
  have key : ∀ u : Nat, u < 10 ^ 10 → (Lib.decDigits u).length ≤ 10 := by
    intro u hu
    rw [Lib.decDigits_length]
    have : ∀ (k u : Nat), u < 10 ^ (k + 1) → Lib.nDigits u ≤ k + 1 := by
      intro k
      induction k with
      | zero => intro u h; rw [Lib.nDigits_small (by simpa using h)]; exact Nat.le_refl _
      | succ k ih =>
        intro u h
        by_cases hs : u < 10
        · rw [Lib.nDigits_small hs]; omega
        · rw [Lib.nDigits_big hs]
          have := ih (u / 10) (by rw [Nat.pow_succ] at h; omega)
          omega
    exact this 9 u hu
  unfold Lib.itoa
  split
  · have := key a.natAbs (by omega)
    rw [List.length_cons]
    omega
  · have := key a.toNat (by omega)
    omega
theorem Ln_of_may {x : Ii} {n : Int} (h : mayI x n = true) (hn : n ≤ 256) : Ln (lineL x) x :=
  ⟨mayI_op h, rfl, mayI_none h, fun _ => itoa_few x.2 (mayI_arg h hn)⟩
theorem textL_cons (x : Ii) (l : List Ii) : textL (x :: l) = lineL x ++ 10 :: textL l := by simp [textL]
theorem linesL_text : ∀ (l : List Ii) (r : List UInt8), (∀ x ∈ l, 1 ≤ x.1 ∧ x.1 ≤ 22) → linesL (textL l ++ r) = l.map lineL ++ linesL r
  | [], r, _ => by simp [textL]
  | x :: l, r, h => by
    rw [textL_cons, List.append_assoc, List.cons_append, linesL_line _ _ (lineL_ten x (h x (by simp))), linesL_text l r fun y hy => h y (by simp [hy])]
    rfl
open Classical in
/-- The instruction that a line tells, if it tells one. -/
noncomputable def readL (ln : List UInt8) : Option Ii := if h : ∃ x, Ln ln x then some h.choose else none
theorem readL_some {ln : List UInt8} {x : Ii} (h : Ln ln x) : readL ln = some x := by
  have hx : ∃ x, Ln ln x := ⟨x, h⟩
  unfold readL
  rw [dif_pos hx]
  exact congrArg some (hx.choose_spec.uniq h)
theorem readL_none {ln : List UInt8} (h : ¬ ∃ x, Ln ln x) : readL ln = none := by
  unfold readL
  rw [dif_neg h]
/-- Lines, the first of which has the number k: instructions, or the line that errs and the error. -/
noncomputable def parLs : Nat → List (List UInt8) → Except (Int × Int) (List Ii)
  | _, [] => .ok []
  | k, ln :: r => if k = 256 then .error (256, 5) else match readL ln with
    | none => .error ((k : Int), 19)
    | some x => (parLs (k + 1) r).map (x :: ·)
theorem parLs_long (r : List (List UInt8)) (h : r ≠ []) : parLs 256 r = .error (256, 5) := by
  cases r with
  | nil => exact absurd rfl h
  | cons a r => simp [parLs]
theorem parLs_none {k : Nat} {ln : List UInt8} {r : List (List UInt8)} (hk : k ≠ 256) (h : readL ln = none) : parLs k (ln :: r) = .error ((k : Int), 19) := by
  rw [parLs, if_neg hk, h]
theorem parLs_some {k : Nat} {ln : List UInt8} {r : List (List UInt8)} {x : Ii} (hk : k ≠ 256) (h : readL ln = some x) : parLs k (ln :: r) = (parLs (k + 1) r).map (x :: ·) := by
  rw [parLs, if_neg hk, h]
/-- A text as a program: what it is, where it errs, the error. -/
noncomputable def parS (s : List UInt8) : List Ii × Int × Int :=
  match parLs 0 (linesL s) with
  | .error e => ([], e.1, e.2)
  | .ok l => if (chk l).2 = 0 then (l, 0, 0) else ([], (chk l).1, (chk l).2)
theorem parLs_text : ∀ (l : List Ii) (k : Nat) (n : Int), (∀ x ∈ l, mayI x n = true) → n ≤ 256 → k + l.length ≤ 256 → parLs k (l.map lineL) = .ok l
  | [], _, _, _, _, _ => rfl
  | x :: l, k, n, h, hn, hk => by
    simp only [List.length_cons] at hk
    rw [List.map_cons, parLs_some (by omega) (readL_some (Ln_of_may (h x (by simp)) hn)), parLs_text l (k + 1) n (fun y hy => h y (by simp [hy])) hn (by omega)]
    rfl
theorem parS_text {l : List Ii} (h : Okp l) : parS (textL l) = (l, 0, 0) := by
  have e : linesL (textL l) = l.map lineL := by
    have := linesL_text l [] fun x hx => mayI_op (h.may x hx)
    rw [linesL_nil, List.append_nil, List.append_nil] at this
    exact this
  unfold parS
  rw [e, parLs_text l 0 l.length h.may (by have := h.len; omega) (by have := h.len; omega)]
  exact if_pos h
theorem textL_inj {a b : List Ii} (ha : Okp a) (hb : Okp b) (h : textL a = textL b) : a = b := by
  have e1 := parS_text ha
  rw [h, parS_text hb] at e1
  exact (congrArg Prod.fst e1).symm
end Go.Proofs.YtddmnpfebajnmaaDoor
