/-
  Joined from: Spec, Slices, Spoil, ReaderBytes, BytesF.
-/
import Derived.Test.YtahodgmdikaedaaDoorM05
section
/-
  Plain mathematics of records: what a record is (recN), what is read at the beginning of bytes (decR), one behind the other (Sc). No walk.
-/
namespace Go.Proofs.YtahodgmdikaedaaDoor
open Go.RowKit

theorem fourB_len (x : Int) : (fourB x).length = 4 := rfl
theorem fourB_byt (x : Int) : Byt (fourB x) := by intro z hz; simp [fourB] at hz; omega
theorem fourV_fourB (x : Int) (h0 : 0 ≤ x) (h1 : x < 4294967296) : fourV (fourB x) = x := by
  simp only [fourV, fourB, List.getD, List.getElem?_cons_zero, List.getElem?_cons_succ, Option.getD_some]
  omega
theorem fourV_range (l : List Int) (h : Byt l) : 0 ≤ fourV l ∧ fourV l < 4294967296 := by
  have g : ∀ i, 0 ≤ l.getD i 0 ∧ l.getD i 0 < 256 := by
    intro i
    by_cases hi : i < l.length
    · exact h _ (getD_mem l i hi)
    · simp [List.getD, hi]
  have := g 0; have := g 1; have := g 2; have := g 3
  unfold fourV
  omega
theorem sumOf_range (xs : List Int) (h : Byt xs) : sumOf xs < 4294967296 := by
  have := crcAll_lt 4294967295 xs (by decide) h
  unfold sumOf
  omega
theorem Byt.app {a b : List Int} (ha : Byt a) (hb : Byt b) : Byt (a ++ b) := by
  intro z hz
  rcases List.mem_append.1 hz with h | h
  · exact ha z h
  · exact hb z h
theorem Byt.left {a b : List Int} (h : Byt (a ++ b)) : Byt a := fun z hz => h z (List.mem_append_left _ hz)
theorem Byt.right {a b : List Int} (h : Byt (a ++ b)) : Byt b := fun z hz => h z (List.mem_append_right _ hz)
theorem Byt.take {a : List Int} (h : Byt a) (n : Nat) : Byt (a.take n) := fun z hz => h z (List.mem_of_mem_take hz)
theorem Byt.drop {a : List Int} (h : Byt a) (n : Nat) : Byt (a.drop n) := fun z hz => h z (List.mem_of_mem_drop hz)
theorem Byt.set {a : List Int} (h : Byt a) (i : Nat) {x : Int} (hx : 0 ≤ x ∧ x < 256) : Byt (a.set i x) := by
  intro z hz
  rcases List.mem_or_eq_of_mem_set hz with h1 | h1
  · exact h z h1
  · rw [h1]; exact hx

/-- What stands ahead of n bytes. -/
def headN (n : Nat) : List Int := fourB (n : Int) ++ fourB (sumOf (fourB (n : Int)) : Nat)
/-- The record of p. -/
def recN (p : List Int) : List Int := headN p.length ++ p ++ fourB (sumOf (headN p.length ++ p) : Nat)
theorem headN_len (n : Nat) : (headN n).length = 8 := by simp [headN, fourB_len]
theorem recN_len (p : List Int) : (recN p).length = p.length + 12 := by
  simp only [recN, List.length_append, headN_len, fourB_len]; omega
theorem headN_byt (n : Nat) : Byt (headN n) := (fourB_byt _).app (fourB_byt _)
theorem recN_byt {p : List Int} (h : Byt p) : Byt (recN p) := ((headN_byt _).app h).app (fourB_byt _)

/-- How many bytes a head tells. -/
def heldN (zs : List Int) : Nat := (fourV (zs.take 4)).toNat
/-- The head's error: 0, 2 (short), 4 (sum), 5 (long). -/
def headE (zs : List Int) : Int :=
  if zs.length < 8 then 2 else if ((sumOf (zs.take 4) : Nat) : Int) ≠ fourV ((zs.drop 4).take 4) then 4 else if 65536 < fourV (zs.take 4) then 5 else 0
/-- The error of the record at the beginning. -/
def decE (zs : List Int) : Int :=
  if headE zs ≠ 0 then headE zs else if zs.length < 12 + heldN zs then 2
  else if ((sumOf (zs.take (8 + heldN zs)) : Nat) : Int) ≠ fourV ((zs.drop (8 + heldN zs)).take 4) then 4 else 0
/-- What it holds, and how many bytes it takes. -/
def decP (zs : List Int) : List Int := if decE zs = 0 then (zs.drop 8).take (heldN zs) else []
def decN (zs : List Int) : Nat := if decE zs = 0 then 12 + heldN zs else 0

theorem headE_short {zs : List Int} (h : zs.length < 8) : headE zs = 2 := if_pos h
theorem headE_sum {zs : List Int} (h : ¬ zs.length < 8) (h2 : ((sumOf (zs.take 4) : Nat) : Int) ≠ fourV ((zs.drop 4).take 4)) : headE zs = 4 := by
  unfold headE; rw [if_neg h, if_pos h2]
theorem headE_long {zs : List Int} (h : ¬ zs.length < 8) (h2 : ((sumOf (zs.take 4) : Nat) : Int) = fourV ((zs.drop 4).take 4)) (h3 : 65536 < fourV (zs.take 4)) : headE zs = 5 := by
  unfold headE; rw [if_neg h, if_neg (fun e => e h2), if_pos h3]
theorem headE_good {zs : List Int} (h : ¬ zs.length < 8) (h2 : ((sumOf (zs.take 4) : Nat) : Int) = fourV ((zs.drop 4).take 4)) (h3 : ¬ 65536 < fourV (zs.take 4)) : headE zs = 0 := by
  unfold headE; rw [if_neg h, if_neg (fun e => e h2), if_neg h3]
theorem headE_inv {zs : List Int} (h : headE zs = 0) : 8 ≤ zs.length ∧ ((sumOf (zs.take 4) : Nat) : Int) = fourV ((zs.drop 4).take 4) ∧ fourV (zs.take 4) ≤ 65536 := by
  by_cases h1 : zs.length < 8
  · rw [headE_short h1] at h; cases h
  by_cases h2 : ((sumOf (zs.take 4) : Nat) : Int) = fourV ((zs.drop 4).take 4)
  · by_cases h3 : 65536 < fourV (zs.take 4)
    · rw [headE_long h1 h2 h3] at h; cases h
    · exact ⟨by omega, h2, by omega⟩
  · rw [headE_sum h1 h2] at h; cases h
theorem decE_head {zs : List Int} (h : headE zs ≠ 0) : decE zs = headE zs := if_pos h
theorem decE_short {zs : List Int} (h : headE zs = 0) (h2 : zs.length < 12 + heldN zs) : decE zs = 2 := by
  unfold decE; rw [if_neg (fun e => e h), if_pos h2]
theorem decE_sum {zs : List Int} (h : headE zs = 0) (h2 : ¬ zs.length < 12 + heldN zs) (h3 : ((sumOf (zs.take (8 + heldN zs)) : Nat) : Int) ≠ fourV ((zs.drop (8 + heldN zs)).take 4)) : decE zs = 4 := by
  unfold decE; rw [if_neg (fun e => e h), if_neg h2, if_pos h3]
theorem decE_good {zs : List Int} (h : headE zs = 0) (h2 : ¬ zs.length < 12 + heldN zs) (h3 : ((sumOf (zs.take (8 + heldN zs)) : Nat) : Int) = fourV ((zs.drop (8 + heldN zs)).take 4)) : decE zs = 0 := by
  unfold decE; rw [if_neg (fun e => e h), if_neg h2, if_neg (fun e => e h3)]
theorem decE_inv {zs : List Int} (h : decE zs = 0) : headE zs = 0 ∧ 12 + heldN zs ≤ zs.length := by
  by_cases h1 : headE zs = 0
  · refine ⟨h1, ?_⟩
    by_cases h2 : zs.length < 12 + heldN zs
    · rw [decE_short h1 h2] at h; cases h
    · omega
  · rw [decE_head h1] at h; exact absurd h h1
theorem decP_bad {zs : List Int} (h : decE zs ≠ 0) : decP zs = [] := if_neg h
theorem decN_bad {zs : List Int} (h : decE zs ≠ 0) : decN zs = 0 := if_neg h
theorem decP_good {zs : List Int} (h : decE zs = 0) : decP zs = (zs.drop 8).take (heldN zs) := if_pos h
theorem decN_good {zs : List Int} (h : decE zs = 0) : decN zs = 12 + heldN zs := if_pos h
theorem heldN_le {zs : List Int} (h : headE zs = 0) : heldN zs ≤ 65536 := by
  have := (headE_inv h).2.2
  unfold heldN
  omega
theorem decN_le (zs : List Int) : decN zs ≤ zs.length := by
  by_cases h : decE zs = 0
  · rw [decN_good h]; exact (decE_inv h).2
  · rw [decN_bad h]; exact Nat.zero_le _
theorem decN_pos {zs : List Int} (h : decE zs = 0) : 12 ≤ decN zs := by rw [decN_good h]; omega
theorem decP_byt {zs : List Int} (h : Byt zs) : Byt (decP zs) := by
  by_cases h1 : decE zs = 0
  · rw [decP_good h1]; exact (h.drop 8).take _
  · rw [decP_bad h1]; intro z hz; cases hz
theorem decE_nil : decE [] = 2 := by
  have : headE [] = 2 := headE_short (by decide)
  rw [decE_head (by rw [this]; decide), this]

/-- A head that stands at the beginning. -/
theorem head_at (n : Nat) (r : List Int) (hn : n ≤ 65536) : headE (headN n ++ r) = 0 ∧ heldN (headN n ++ r) = n := by
  have e1 : (headN n ++ r).take 4 = fourB (n : Int) := by
    rw [headN, List.append_assoc]; exact List.take_left' (fourB_len _)
  have e2 : ((headN n ++ r).drop 4).take 4 = fourB (sumOf (fourB (n : Int)) : Nat) := by
    rw [headN, List.append_assoc, List.drop_left' (fourB_len _)]; exact List.take_left' (fourB_len _)
  have v1 : fourV (fourB (n : Int)) = n := fourV_fourB _ (by omega) (by omega)
  have hs := sumOf_range _ (fourB_byt (n : Int))
  have v2 : fourV (fourB (sumOf (fourB (n : Int)) : Nat)) = (sumOf (fourB (n : Int)) : Nat) := fourV_fourB _ (by omega) (by omega)
  refine ⟨headE_good (by simp [headN_len]) (by rw [e1, e2, v2]) (by rw [e1, v1]; omega), ?_⟩
  unfold heldN
  rw [e1, v1]
  exact Int.toNat_natCast n
/-- Decode of a record, whatever stands behind. -/
theorem dec_rec (p r : List Int) (hp : Byt p) (hn : p.length ≤ 65536) : decE (recN p ++ r) = 0 ∧ decP (recN p ++ r) = p ∧ decN (recN p ++ r) = p.length + 12 := by
  have e0 : recN p ++ r = headN p.length ++ (p ++ (fourB (sumOf (headN p.length ++ p) : Nat) ++ r)) := by simp [recN, List.append_assoc]
  have e1 : recN p ++ r = (headN p.length ++ p) ++ (fourB (sumOf (headN p.length ++ p) : Nat) ++ r) := by simp [recN, List.append_assoc]
  obtain ⟨h1, h2⟩ := head_at p.length (p ++ (fourB (sumOf (headN p.length ++ p) : Nat) ++ r)) hn
  rw [← e0] at h1 h2
  have l8 : (headN p.length ++ p).length = 8 + p.length := by simp [headN_len]
  have hs := sumOf_range _ ((headN_byt p.length).app hp)
  have g : decE (recN p ++ r) = 0 := by
    refine decE_good h1 (by rw [h2, List.length_append, recN_len]; omega) ?_
    rw [h2, e1, List.take_left' l8, List.drop_left' l8, List.take_left' (fourB_len _), fourV_fourB _ (by omega) (by omega)]
  refine ⟨g, ?_, by rw [decN_good g, h2]; omega⟩
  rw [decP_good g, h2, e0, List.drop_left' (headN_len _)]
  exact List.take_left' rfl

theorem fourV_inj {a b : List Int} (ha : a.length = 4) (hb : b.length = 4) (hab : Byt a) (hbb : Byt b) (h : fourV a = fourV b) : a = b := by
  match a, ha, b, hb with
  | [a0, a1, a2, a3], _, [b0, b1, b2, b3], _ =>
    have := hab a0 (by simp); have := hab a1 (by simp); have := hab a2 (by simp); have := hab a3 (by simp)
    have := hbb b0 (by simp); have := hbb b1 (by simp); have := hbb b2 (by simp); have := hbb b3 (by simp)
    simp only [fourV, List.getD, List.getElem?_cons_zero, List.getElem?_cons_succ, Option.getD_some] at h
    have h0 : a0 = b0 := by omega
    have h1 : a1 = b1 := by omega
    have h2 : a2 = b2 := by omega
    have h3 : a3 = b3 := by omega
    rw [h0, h1, h2, h3]

/-- A record of which one byte is another one is refused, whatever stands behind. -/
theorem dec_other (p r : List Int) (hp : Byt p) (hn : p.length ≤ 65536) (i : Nat) (x : Int) (hi : i < (recN p).length) (hx : 0 ≤ x ∧ x < 256) (hne : x ≠ (recN p).getD i 0) :
    decE ((recN p).set i x ++ r) ≠ 0 := by
  obtain ⟨A, hA⟩ : ∃ A, A = fourB (p.length : Int) := ⟨_, rfl⟩
  obtain ⟨B, hB⟩ : ∃ B, B = fourB (sumOf A : Nat) := ⟨_, rfl⟩
  obtain ⟨C, hC⟩ : ∃ C, C = fourB (sumOf (A ++ B ++ p) : Nat) := ⟨_, rfl⟩
  have eR : recN p = A ++ (B ++ (p ++ C)) := by rw [hC, hB, hA]; simp [recN, headN, List.append_assoc]
  have lA : A.length = 4 := by rw [hA]; rfl
  have lB : B.length = 4 := by rw [hB]; rfl
  have lC : C.length = 4 := by rw [hC]; rfl
  have bA : Byt A := by rw [hA]; exact fourB_byt _
  have bB : Byt B := by rw [hB]; exact fourB_byt _
  have bC : Byt C := by rw [hC]; exact fourB_byt _
  have sA := sumOf_range _ bA
  have sP := sumOf_range _ ((bA.app bB).app hp)
  have vB : fourV B = (sumOf A : Nat) := by rw [hB]; exact fourV_fourB _ (by omega) (by omega)
  have vC : fourV C = (sumOf (A ++ B ++ p) : Nat) := by rw [hC]; exact fourV_fourB _ (by omega) (by omega)
  have vA : fourV A = (p.length : Int) := by rw [hA]; exact fourV_fourB _ (by omega) (by omega)
  rw [recN_len] at hi
  rw [eR] at hne ⊢
  have set_ne : ∀ (l : List Int) (j : Nat), j < l.length → x ≠ l.getD j 0 → l.set j x ≠ l := by
    intro l j hj h e
    apply h
    have : (l.set j x).getD j 0 = x := by simp [List.getD, hj]
    rw [e] at this
    exact this.symm
  by_cases h4 : i < 4
  · rw [List.set_append_left _ _ (by omega), List.append_assoc]
    have hg : x ≠ A.getD i 0 := by
      rw [List.getD_eq_getElem?_getD, List.getElem?_append_left (by omega)] at hne
      rwa [List.getD_eq_getElem?_getD]
    have hl : (A.set i x).length = 4 := by simpa using lA
    have hsum := sumOf_set A i x bA hx (by omega) hg
    have hh : headE (A.set i x ++ (B ++ (p ++ C) ++ r)) = 4 := by
      refine headE_sum (by simp; omega) ?_
      rw [List.take_left' hl, List.drop_left' hl, List.append_assoc, List.take_left' lB, vB]
      intro e; exact hsum (Int.ofNat.inj e)
    rw [decE_head (by rw [hh]; decide), hh]; decide
  by_cases h8 : i < 8
  · rw [List.set_append_right _ _ (by omega), List.set_append_left _ _ (by omega)]
    rw [List.getD_eq_getElem?_getD, List.getElem?_append_right (by omega), List.getElem?_append_left (by omega), ← List.getD_eq_getElem?_getD] at hne
    generalize hj : i - A.length = j at *
    have hjl : j < B.length := by omega
    have hl : (B.set j x).length = 4 := by simpa using lB
    have hh : headE (A ++ (B.set j x ++ (p ++ C)) ++ r) = 4 := by
      refine headE_sum (by simp; omega) ?_
      rw [List.append_assoc, List.take_left' lA, List.drop_left' lA, List.append_assoc, List.take_left' hl, ← vB]
      intro e
      exact set_ne B j hjl hne (fourV_inj hl lB (bB.set j hx) bB e.symm)
    rw [decE_head (by rw [hh]; decide), hh]; decide
  have eAB : A ++ B = headN p.length := by rw [hB, hA]; rfl
  have head0 : ∀ s : List Int, headE (A ++ (B ++ s)) = 0 ∧ heldN (A ++ (B ++ s)) = p.length := by
    intro s
    rw [← List.append_assoc, eAB]
    exact head_at _ _ hn
  by_cases h12 : i < 8 + p.length
  · rw [List.set_append_right _ _ (by omega), List.set_append_right _ _ (by omega), List.set_append_left _ _ (by omega)]
    rw [List.getD_eq_getElem?_getD, List.getElem?_append_right (by omega), List.getElem?_append_right (by omega), List.getElem?_append_left (by omega), ← List.getD_eq_getElem?_getD] at hne
    generalize hj : i - A.length - B.length = j at *
    have hjl : j < p.length := by omega
    have ee : A ++ (B ++ (p.set j x ++ C)) ++ r = A ++ (B ++ (p.set j x ++ (C ++ r))) := by simp [List.append_assoc]
    have e2 : A ++ (B ++ (p.set j x ++ (C ++ r))) = (A ++ B ++ p.set j x) ++ (C ++ r) := by simp [List.append_assoc]
    have hl : (A ++ B ++ p.set j x).length = 8 + p.length := by simp; omega
    obtain ⟨k1, k2⟩ := head0 (p.set j x ++ (C ++ r))
    rw [ee, decE_sum k1 (by rw [k2, e2]; simp; omega) (by
      rw [k2, e2, List.take_left' hl, List.drop_left' hl, List.take_left' lC, vC]
      intro e
      have e3 : A ++ B ++ p.set j x = (A ++ B ++ p).set (8 + j) x := by
        rw [List.set_append_right _ _ (by simp; omega)]
        congr 2
        simp; omega
      rw [e3] at e
      refine sumOf_set (A ++ B ++ p) (8 + j) x ((bA.app bB).app hp) hx (by simp; omega) ?_ (Int.ofNat.inj e)
      rw [List.getD_eq_getElem?_getD, List.getElem?_append_right (by simp; omega), ← List.getD_eq_getElem?_getD]
      rw [show 8 + j - (A ++ B).length = j by simp; omega]
      exact hne)]
    decide
  · rw [List.set_append_right _ _ (by omega), List.set_append_right _ _ (by omega), List.set_append_right _ _ (by omega)]
    rw [List.getD_eq_getElem?_getD, List.getElem?_append_right (by omega), List.getElem?_append_right (by omega), List.getElem?_append_right (by omega), ← List.getD_eq_getElem?_getD] at hne
    generalize hj : i - A.length - B.length - p.length = j at *
    have hjl : j < C.length := by omega
    have ee : A ++ (B ++ (p ++ C.set j x)) ++ r = A ++ (B ++ (p ++ (C.set j x ++ r))) := by simp [List.append_assoc]
    have e2 : A ++ (B ++ (p ++ (C.set j x ++ r))) = (A ++ B ++ p) ++ (C.set j x ++ r) := by simp [List.append_assoc]
    have hl : (A ++ B ++ p).length = 8 + p.length := by simp; omega
    have hlc : (C.set j x).length = 4 := by simpa using lC
    obtain ⟨k1, k2⟩ := head0 (p ++ (C.set j x ++ r))
    rw [ee, decE_sum k1 (by rw [k2, e2]; simp; omega) (by
      rw [k2, e2, List.take_left' hl, List.drop_left' hl, List.take_left' hlc, ← vC]
      intro e
      exact set_ne C j hjl hne (fourV_inj hlc lC (bC.set j hx) bC e.symm))]
    decide

/-- A record that is cut short is refused. -/
theorem dec_cut (p : List Int) (hn : p.length ≤ 65536) (k : Nat) (hk : k < (recN p).length) : decE ((recN p).take k) ≠ 0 := by
  rw [recN_len] at hk
  have hl : ((recN p).take k).length = k := by rw [List.length_take, recN_len]; omega
  by_cases h8 : k < 8
  · have := headE_short (zs := (recN p).take k) (by omega)
    rw [decE_head (by rw [this]; decide), this]; decide
  · have e : (recN p).take k = headN p.length ++ ((p ++ fourB (sumOf (headN p.length ++ p) : Nat)).take (k - 8)) := by
      rw [recN, List.append_assoc, List.take_append, List.take_of_length_le (by rw [headN_len]; omega), headN_len]
    obtain ⟨k1, k2⟩ := head_at p.length ((p ++ fourB (sumOf (headN p.length ++ p) : Nat)).take (k - 8)) hn
    rw [← e] at k1 k2
    rw [decE_short k1 (by rw [k2, hl]; omega)]
    decide

/-- The rows xs are what records hold, one behind the other from the beginning of zs on, m bytes of it. -/
def Sc (zs : List Int) : List (List Int) → Nat → Prop
  | [], m => m = 0
  | p :: xs, m => decE zs = 0 ∧ decP zs = p ∧ decN zs ≤ m ∧ Sc (zs.drop (decN zs)) xs (m - decN zs)
theorem Sc.le {xs : List (List Int)} : ∀ {zs : List Int} {m : Nat}, Sc zs xs m → m ≤ zs.length := by
  induction xs with
  | nil => intro zs m h; have : m = 0 := h; omega
  | cons p xs ih =>
    intro zs m ⟨_, _, h3, h4⟩
    have := ih h4
    rw [List.length_drop] at this
    have := decN_le zs
    omega
theorem Sc.snoc {xs : List (List Int)} : ∀ {zs : List Int} {m : Nat}, Sc zs xs m → decE (zs.drop m) = 0 → Sc zs (xs ++ [decP (zs.drop m)]) (m + decN (zs.drop m)) := by
  induction xs with
  | nil =>
    intro zs m h h2
    have e : m = 0 := h
    subst e
    simp only [List.drop_zero, Nat.zero_add] at *
    exact ⟨h2, rfl, Nat.le_refl _, by show _ = _; omega⟩
  | cons p xs ih =>
    intro zs m ⟨h1, h2, h3, h4⟩ hd
    have e : (zs.drop (decN zs)).drop (m - decN zs) = zs.drop m := by rw [List.drop_drop]; congr 1; omega
    have := ih h4 (by rw [e]; exact hd)
    rw [e] at this
    refine ⟨h1, h2, by omega, ?_⟩
    rw [show m + decN (zs.drop m) - decN zs = m - decN zs + decN (zs.drop m) by omega]
    exact this
/-- As far as records go: another row that goes so far, or less far, is its beginning. -/
theorem Sc.front {xs : List (List Int)} : ∀ {ys : List (List Int)} {zs : List Int} {m k : Nat}, Sc zs xs m → decE (zs.drop m) ≠ 0 → Sc zs ys k → k ≤ m ∧ ∃ qs, xs = ys ++ qs := by
  induction xs with
  | nil =>
    intro ys zs m k h h2 h3
    have e : m = 0 := h
    subst e
    match ys with
    | [] => exact ⟨by have : k = 0 := h3; omega, [], rfl⟩
    | y :: ys => exact absurd h3.1 (by simpa using h2)
  | cons p xs ih =>
    intro ys zs m k h h2 h3
    match ys with
    | [] => exact ⟨by have : k = 0 := h3; omega, p :: xs, rfl⟩
    | y :: ys =>
      obtain ⟨a1, a2, a3, a4⟩ := h
      obtain ⟨b1, b2, b3, b4⟩ := h3
      have e : (zs.drop (decN zs)).drop (m - decN zs) = zs.drop m := by rw [List.drop_drop]; congr 1; omega
      obtain ⟨c1, qs, c2⟩ := ih a4 (by rw [e]; exact h2) b4
      exact ⟨by omega, qs, by rw [← a2, ← b2, c2]; rfl⟩
theorem Sc.uniq {xs ys : List (List Int)} {zs : List Int} {m k : Nat} (h : Sc zs xs m) (h2 : decE (zs.drop m) ≠ 0) (h3 : Sc zs ys k) (h4 : decE (zs.drop k) ≠ 0) : xs = ys ∧ m = k := by
  obtain ⟨a1, q1, a2⟩ := h.front h2 h3
  obtain ⟨b1, q2, b2⟩ := h3.front h4 h
  have : xs.length = ys.length := by
    have h5 := congrArg List.length a2
    have h6 := congrArg List.length b2
    simp at h5 h6
    omega
  have hq : q1 = [] := by
    have h5 := congrArg List.length a2
    simp at h5
    exact List.eq_nil_of_length_eq_zero (by omega)
  rw [hq, List.append_nil] at a2
  exact ⟨a2, by omega⟩

/-- Records one behind the other. -/
def allN (ps : List (List Int)) : List Int := ps.flatMap recN
theorem allN_nil : allN [] = [] := rfl
theorem allN_cons (p : List Int) (ps : List (List Int)) : allN (p :: ps) = recN p ++ allN ps := by simp [allN]
theorem allN_append (a b : List (List Int)) : allN (a ++ b) = allN a ++ allN b := by simp [allN]
theorem allN_one (p : List Int) : allN [p] = recN p := by simp [allN]
theorem Sc.all (ps : List (List Int)) (r : List Int) (h : ∀ p ∈ ps, Byt p ∧ p.length ≤ 65536) : Sc (allN ps ++ r) ps (allN ps).length := by
  induction ps with
  | nil => rfl
  | cons p ps ih =>
    obtain ⟨h1, h2⟩ := h p (by simp)
    rw [allN_cons, List.append_assoc]
    obtain ⟨a1, a2, a3⟩ := dec_rec p (allN ps ++ r) h1 h2
    refine ⟨a1, a2, by rw [a3, List.length_append, recN_len]; omega, ?_⟩
    rw [a3, List.drop_left' (recN_len p), List.length_append, recN_len, show p.length + 12 + (allN ps).length - (p.length + 12) = (allN ps).length by omega]
    exact ih fun q hq => h q (by simp [hq])
theorem allN_byt (ps : List (List Int)) (h : ∀ p ∈ ps, Byt p) : Byt (allN ps) := by
  induction ps with
  | nil => intro z hz; cases hz
  | cons p ps ih => rw [allN_cons]; exact (recN_byt (h p (by simp))).app (ih fun q hq => h q (by simp [hq]))
theorem allN_len (ps : List (List Int)) : ps.length * 12 ≤ (allN ps).length := by
  induction ps with
  | nil => simp
  | cons p ps ih => rw [allN_cons, List.length_append, recN_len, List.length_cons]; omega

/-- Records that are cut short: those that are whole. -/
theorem Sc.tears (ps : List (List Int)) (h : ∀ p ∈ ps, Byt p ∧ p.length ≤ 65536) (k n : Nat) (hn : n ≤ ps.length) (h1 : (allN (ps.take n)).length ≤ k) (h2 : n < ps.length → k < (allN (ps.take (n + 1))).length) :
    Sc ((allN ps).take k) (ps.take n) (allN (ps.take n)).length ∧ decE (((allN ps).take k).drop (allN (ps.take n)).length) ≠ 0 := by
  have e : allN ps = allN (ps.take n) ++ allN (ps.drop n) := by rw [← allN_append, List.take_append_drop]
  have e2 : (allN ps).take k = allN (ps.take n) ++ (allN (ps.drop n)).take (k - (allN (ps.take n)).length) := by
    rw [e, List.take_append, List.take_of_length_le h1]
  rw [e2]
  refine ⟨Sc.all _ _ fun p hp => h p (List.mem_of_mem_take hp), ?_⟩
  rw [List.drop_left' rfl]
  by_cases hl : n < ps.length
  · have h3 := h2 hl
    have e3 : ps.drop n = ps[n] :: ps.drop (n + 1) := List.drop_eq_getElem_cons hl
    rw [List.take_succ_eq_append_getElem hl, allN_append, allN_one, List.length_append] at h3
    obtain ⟨_, b2⟩ := h ps[n] (List.getElem_mem hl)
    rw [e3, allN_cons, List.take_append_of_le_length (by omega)]
    exact dec_cut _ b2 _ (by omega)
  · have e3 : ps.drop n = [] := List.drop_eq_nil_of_le (by omega)
    rw [e3, allN_nil]
    simp [decE_nil]
end Go.Proofs.YtahodgmdikaedaaDoor
end

section
/-
  Slices of bytes: the front and the rest of one, and what a step leaves of one. No walk.
-/
namespace Go.Proofs.YtahodgmdikaedaaDoor
open Go.RowKit
theorem Bs.front {w : World} {b off cap len : Nat} {zs : List Int} (h : Bs w (.slice (some ⟨b, off, none⟩) len cap) zs) (n : Nat) (hn : n ≤ zs.length) : Bs w (.slice (some ⟨b, off, none⟩) n cap) (zs.take n) := by
  have hl : (zs.take n).length = n := by simp; omega
  rcases h with ⟨rfl, ao, c, he, hc, hx⟩ | ⟨hz, b', off', cap', he, h1, h2, hcell⟩
  · simp only [Value.slice.injEq] at he
    obtain ⟨rfl, rfl, rfl⟩ := he
    have : n = 0 := by simpa using hn
    subst this
    exact Or.inl ⟨rfl, _, cap, rfl, hc, fun e => by cases e⟩
  · simp only [Value.slice.injEq, Option.some.injEq, Addr.mk.injEq, and_true] at he
    obtain ⟨⟨rfl, rfl⟩, rfl, rfl⟩ := he
    by_cases h0 : n = 0
    · subst h0; exact Or.inl ⟨by simp, _, cap, rfl, h2, fun e => by cases e⟩
    · refine Or.inr ⟨fun e => by rw [e] at hl; simp at hl; omega, b, off, cap, by rw [hl], by omega, h2, fun i hi => ?_⟩
      rw [hcell i (by omega)]
      simp [List.getD, show i < n by omega]
theorem Bs.suffix {w : World} {b off cap len : Nat} {zs : List Int} (h : Bs w (.slice (some ⟨b, off, none⟩) len cap) zs) (n : Nat) (hn : n ≤ zs.length) (hne : zs ≠ []) : Bs w (.slice (some ⟨b, off + n, none⟩) (len - n) (cap - n)) (zs.drop n) := by
  have hl : (zs.drop n).length = zs.length - n := by simp
  rcases h with ⟨h0, _⟩ | ⟨hz, b', off', cap', he, h1, h2, hcell⟩
  · exact absurd h0 hne
  · simp only [Value.slice.injEq, Option.some.injEq, Addr.mk.injEq, and_true] at he
    obtain ⟨⟨rfl, rfl⟩, rfl, rfl⟩ := he
    by_cases h0 : zs.drop n = []
    · have e0 : zs.length - n = 0 := by rw [← hl, h0]; rfl
      rw [e0, h0]
      exact Or.inl ⟨rfl, _, cap - n, rfl, by unfold maxLen at *; omega, fun e => by cases e⟩
    · refine Or.inr ⟨h0, b, off + n, cap - n, by rw [hl], by omega, by unfold maxLen at *; omega, fun i hi => ?_⟩
      have := hcell (n + i) (by omega)
      rw [show off + n + i = off + (n + i) by omega, this]
      simp [List.getD]
theorem Ow.setBelow {w : World} {base b : Nat} {v u : Value} {xs : List Int} (h : Ow w base v xs) (hb : b < base) : Ow (w.setCell ⟨b, 0, none⟩ u) base v xs := ownsRow_setCell_below (a := ⟨b, 0, none⟩) h hb u
theorem Bs.lt {w : World} {v : Value} {zs : List Int} (h : Bs w v zs) (hz : zs ≠ []) : ∀ k, v.ownBlock = some k → k < w.heap.size := by
  rcases h with ⟨h0, _⟩ | ⟨_, b, off, cap, rfl, _, _, hcell⟩
  · exact absurd h0 hz
  · intro k hk
    have hk' : b = k := by simpa [Value.ownBlock] using hk
    subst hk'
    exact World.block_lt_of_cell? w _ (hcell 0 (List.length_pos_iff.2 hz))
theorem Ow.keep {w w' : World} {base : Nat} {v : Value} {zs : List Int} (h : Ow w base v zs) (hk : ∀ k, v.ownBlock = some k → k < w.heap.size → w'.heap[k]? = w.heap[k]?) : Ow w' base v zs := by
  refine ⟨h.1, ?_⟩
  rcases h.2 with h2 | ⟨g, cap, cur, rfl, hb, hg, rest⟩
  · exact Or.inl h2
  · exact Or.inr ⟨g, cap, cur, rfl, hb, by rw [hk g rfl (Array.getElem?_eq_some_iff.1 hg).1]; exact hg, rest⟩
end Go.Proofs.YtahodgmdikaedaaDoor
end

section
/-
  The law's spoil, by contract: it writes into the slice's own row and into new memory alone.
-/
namespace Go.Proofs.YtahodgmdikaedaaDoor
open Go.RowKit

theorem grown_set {w w' : World} {row : Option Nat} (h : w.grownBy w' row) (g i : Nat) (u : Value) (hg : row = some g ∨ w.heap.size ≤ g) : w.grownBy (w'.setCell ⟨g, i, none⟩ u) row :=
  ⟨h.os, h.tape, h.output, by simpa [World.setCell] using h.size, fun k hk hr => (Below.heap_setCell _ _ _ _ (fun e => by
    have e' : k = g := e
    rcases hg with hg | hg
    · exact hr (by rw [hg, e'])
    · omega)).trans (h.block k hk hr)⟩

set_option maxHeartbeats 1600000 in
theorem spoil_any (base : Nat) (v : Value) (zs : List Int) (w : World) (ho : Ow w base v zs) (hb : base ≤ w.heap.size) (hz : zs.length ≤ 100000000000) :
    Calls Tryd.prog 28 #[v] w fun e w' => e = .returned (.tuple #[]) ∧ w.grownBy w' v.ownBlock := by
  obtain ⟨ao, cap, hv, hj⟩ := ho.form
  clear hj
  subst hv
  have ho1 : Ow (w.alloc (.cells #[.int .u8 99] 5)) base (.slice ao zs.length cap) zs := World.ownsRow.alloc ho _
  have hbs1 : Bs (w.alloc (.cells #[.int .u8 99] 5)) (.slice (some ⟨w.heap.size, 0, none⟩) 1 1) [99] := Bs_of_block (heap_alloc_new w _) (by simp [maxLen])
  go_enter Tryd.func28, Tryd.ntmps28
  go_wp2_with (at_builtin; refine wpList_append_bs _ rfl (.tmp 4) (.tmp 5) rfl base _ zs rfl ho1 _ [99] rfl hbs1 (by simp; omega) (by simp; omega) ?_)
  intro ao2 cap2 w2 ho2 hg2 hat2
  obtain ⟨g, rfl, hg0, hglt, hgl, hgc, hgm⟩ := ho2.grow_form (by simp)
  unfold maxLen at hgm
  have G2 : w.grownBy w2 (Value.slice ao zs.length cap).ownBlock := ⟨hg2.os, hg2.tape, hg2.output, by have := hg2.size; simp at this; omega, fun k hk hr => (hg2.block k (by simp; omega) hr).trans (Below.heap_alloc _ _ _ hk)⟩
  have hrow : (Value.slice ao zs.length cap).ownBlock = some g ∨ w.heap.size ≤ g := by
    rcases hat2 with h | h
    · exact Or.inl h.symm
    · right
      have : g = w.heap.size + 1 := by simpa [Value.ownBlock] using h
      omega
  have hlen : (zs ++ [(99 : Int)]).length = zs.length + 1 := by simp
  clear hat2 hg2 ho1 hbs1 ho hgl
  generalize hys : zs ++ [(99 : Int)] = ys at *
  clear hys
  have hyl1 : ys.length ≤ zs.length + 1 := by omega
  have hyl2 : zs.length + 1 ≤ ys.length := by omega
  have HLEN : Hid (ys.length = zs.length + 1) := hlen
  clear hlen
  go_wp2
  go_loopw [3] (fun i wr => ∃ (k : Nat) (ys' : List Int), k ≤ zs.length + 1 ∧ i = .int .i64 k ∧ Ow wr base (.slice (some ⟨g, 0, none⟩) (zs.length + 1) cap2) ys' ∧ Hid (ys'.length = zs.length + 1) ∧ w.grownBy wr (Value.slice ao zs.length cap).ownBlock) (fun i _ => zs.length + 1 - (intOf i).toNat)
  case atStart => exact ⟨0, ys, Nat.zero_le _, rfl, ho2, HLEN, G2⟩
  case round =>
    obtain ⟨k, ys', hk, rfl, hok, HY, Gk⟩ := hrel
    by_cases hlt : k < zs.length + 1
    · have hck := hok.cell k (by rw [HY.out]; exact hlt)
      have hfk := hok.frozen k
      have hok2 := hok.set k 98
      have HY2 : Hid ((ys'.set k 98).length = zs.length + 1) := by show _ = _; rw [List.length_set]; exact HY.out
      have Gk2 := grown_set Gk g k (.int .u8 98) hrow
      clear hok Gk
      go_wp2
      go_roundw
      case rel => exact ⟨k + 1, _, by omega, by go_num, hok2, HY2, Gk2⟩
      case measure => simp [intOf]; omega
    · go_wp2
      go_end0
      exact ⟨rfl, Gk⟩
end Go.Proofs.YtahodgmdikaedaaDoor
end

section
/-
  The Reader's Bytes, by contract: whatever is left.
-/
namespace Go.Proofs.YtahodgmdikaedaaDoor
open Go.RowKit

theorem numR_err (f k u : Nat) (zs : List Int) (h : (numR f k u zs).2.2 ≠ 0) : (numR f k u zs).1 = 0 ∧ (numR f k u zs).2.1 = [] := by
  induction f generalizing k u zs with
  | zero => exact ⟨rfl, rfl⟩
  | succ f ih =>
    cases zs with
    | nil => exact ⟨rfl, rfl⟩
    | cons z r =>
      by_cases hz : 128 ≤ z
      · rw [numR_more hz] at h ⊢; exact ih _ _ _ h
      · cases hb : badB k z with
        | true => rw [numR_bad hz hb]; exact ⟨rfl, rfl⟩
        | false => rw [numR_good hz hb] at h; exact absurd rfl h
theorem numR_byt (f k u : Nat) (zs : List Int) (h : Byt zs) : Byt (numR f k u zs).2.1 ∧ (numR f k u zs).2.1.length ≤ zs.length := by
  induction f generalizing k u zs with
  | zero => exact ⟨fun z hz => (by cases hz), by simp [numR]⟩
  | succ f ih =>
    cases zs with
    | nil => exact ⟨fun z hz => (by cases hz), by simp [numR]⟩
    | cons z r =>
      have hr : Byt r := fun y hy => h y (by simp [hy])
      by_cases hz : 128 ≤ z
      · rw [numR_more hz]
        have := ih (k + 1) (u + (z.toNat % 128) * 128 ^ k) r hr
        exact ⟨this.1, by have := this.2; simp only [List.length_cons]; omega⟩
      · cases hb : badB k z with
        | true => rw [numR_bad hz hb]; exact ⟨fun z hz => (by cases hz), by simp⟩
        | false => rw [numR_good hz hb]; exact ⟨hr, by simp⟩

/-- Bytes with their length: what is taken, what is left, the error. -/
def bytesR (zs : List Int) (e : Int) : List Int × List Int × Int :=
  if e ≠ 0 then ([], zs, e)
  else if (numR 10 0 0 zs).2.2 ≠ 0 then ([], (numR 10 0 0 zs).2.1, (numR 10 0 0 zs).2.2)
  else if (numR 10 0 0 zs).1 < 0 ∨ 16777216 < (numR 10 0 0 zs).1 then ([], [], 3)
  else if ((numR 10 0 0 zs).2.1.length : Int) < (numR 10 0 0 zs).1 then ([], [], 2)
  else ((numR 10 0 0 zs).2.1.take (numR 10 0 0 zs).1.toNat, (numR 10 0 0 zs).2.1.drop (numR 10 0 0 zs).1.toNat, 0)

set_option maxHeartbeats 3200000 in
theorem rbytes_any (b : Nat) (v : Value) (zs : List Int) (e : Int) (w : World) (hr : Rd w b v zs e) (hz : Byt zs) :
    Calls Tryd.prog 63 #[.pointer (some ⟨b, 0, none⟩)] w fun r w' => ∃ ao cap, r = .returned (.slice ao (bytesR zs e).1.length cap) ∧ Ow w' w.heap.size (.slice ao (bytesR zs e).1.length cap) (bytesR zs e).1 ∧ Rleft w b v w' (bytesR zs e).2.1 (bytesR zs e).2.2 := by
  generalize hres : bytesR zs e = R
  have HR : Hid (bytesR zs e = R) := hres
  clear hres
  by_cases he : e = 0
  · subst he
    have hby := (numR_byt 10 0 0 zs hz).1
    have herr := numR_err 10 0 0 zs
    generalize hN : numR 10 0 0 zs = N at *
    obtain ⟨n, zr, e1⟩ := N
    have HN : Hid (numR 10 0 0 zs = (n, zr, e1)) := hN
    have HR2 : Hid (R = if e1 ≠ 0 then ([], zr, e1) else if n < 0 ∨ 16777216 < n then ([], [], 3) else if (zr.length : Int) < n then ([], [], 2) else (zr.take n.toNat, zr.drop n.toNat, 0)) := by
      show _ = _
      rw [← HR.out]; unfold bytesR; rw [hN]; simp
    clear hN HR
    by_cases he1 : e1 = 0
    · subst he1
      by_cases hn1 : n < 0
      · have HF : Hid (R = ([], [], 3)) := by show _ = _; rw [HR2.out]; simp [hn1]
        clear HR2 herr
        go_enter Tryd.func63, Tryd.ntmps63
        go_wp2_with fail
        refine (rnum_any b v zs _ hr hz).mono ?_
        rw [HN.out]
        rintro e w1 ⟨rfl, v1, hr1, hs1, hv1⟩
        go_wp2_with fail
        refine (fail_any b _ _ _ 3 _ hr1).mono ?_
        rintro e w2 ⟨rfl, hr2, hs2⟩
        go_wp2
        go_ret
        rw [HF.out]
        exact ⟨none, 0, rfl, World.ownsRow_nil _ _ _ _, _, hr2, hs1.trans hs2, Or.inr rfl⟩
      by_cases hn2 : 16777216 < n
      · have HF : Hid (R = ([], [], 3)) := by show _ = _; rw [HR2.out]; simp [hn2]
        clear HR2 herr
        go_enter Tryd.func63, Tryd.ntmps63
        go_wp2_with fail
        refine (rnum_any b v zs _ hr hz).mono ?_
        rw [HN.out]
        rintro e w1 ⟨rfl, v1, hr1, hs1, hv1⟩
        go_wp2_with fail
        refine (fail_any b _ _ _ 3 _ hr1).mono ?_
        rintro e w2 ⟨rfl, hr2, hs2⟩
        go_wp2
        go_ret
        rw [HF.out]
        exact ⟨none, 0, rfl, World.ownsRow_nil _ _ _ _, _, hr2, hs1.trans hs2, Or.inr rfl⟩
      by_cases hn3 : (zr.length : Int) < n
      · have HF : Hid (R = ([], [], 2)) := by show _ = _; rw [HR2.out]; simp [hn1, hn2, hn3]
        clear HR2 herr
        go_enter Tryd.func63, Tryd.ntmps63
        go_wp2_with fail
        refine (rnum_any b v zs _ hr hz).mono ?_
        rw [HN.out]
        rintro e w1 ⟨rfl, v1, hr1, hs1, hv1⟩
        go_wp2_with fail
        refine (has_no b _ _ _ _ hr1 hn3).mono ?_
        rintro e w2 ⟨rfl, hr2, hs2⟩
        go_wp2
        go_ret
        rw [HF.out]
        exact ⟨none, 0, rfl, World.ownsRow_nil _ _ _ _, _, hr2, hs1.trans hs2, Or.inr rfl⟩
      · have HF : Hid (R = (zr.take n.toNat, zr.drop n.toNat, 0)) := by show _ = _; rw [HR2.out]; simp [hn1, hn2, hn3]
        clear HR2 herr
        obtain ⟨m, rfl⟩ := Int.eq_ofNat_of_zero_le (show 0 ≤ n by omega)
        rw [Int.toNat_natCast] at HF
        have hml : m ≤ zr.length := by omega
        clear hn3 hn1
        go_enter Tryd.func63, Tryd.ntmps63
        go_wp2_with fail
        refine (rnum_any b v zs _ hr hz).mono ?_
        rw [HN.out]
        rintro e w1 ⟨rfl, v1, hr1, hs1, hv1⟩
        go_wp2_with fail
        refine (has_yes b _ _ _ _ hr1 (by omega)).mono ?_
        rintro e w2 ⟨rfl, rfl⟩
        have hc0 := hr1.cell0
        obtain ⟨ao, cap, hvv, hm⟩ := hr1.2.1.len
        subst hvv
        by_cases hz0 : zr = []
        · subst hz0
          obtain rfl : m = 0 := by simpa using hml
          rcases hr1.2.1 with ⟨_, ao', cap', hsl, hcm, hcn⟩ | ⟨h, _⟩
          · simp only [Value.slice.injEq] at hsl
            obtain ⟨rfl, _, rfl⟩ := hsl
            have HF2 : Hid (R = ([], [], 0)) := HF
            clear HF
            have hf0 := hr1.frozen 0
            cases ao with
            | none =>
              obtain rfl := hcn rfl
              go_wp2_with fail
              refine (clone_any _ [] _ (Bs_nil _) (by simp)).mono ?_
              rintro e w2 ⟨ao2, cap2, rfl, ho2, B2⟩
              have hr2 := hr1.below B2 (Nat.le_refl _)
              have hc2 := hr2.cell0
              have hf2 := hr2.frozen 0
              have R2 := hr2.set0 (Bs_nil _) (by simp [Value.ownBlock])
              have ho3 : Ow (w2.setCell ⟨b, 0, none⟩ (.slice none 0 0)) w.heap.size (.slice ao2 0 cap2) [] := (ho2.setBelow hr1.lt).mono hs1.size
              clear ho2
              go_wp2
              go_ret
              rw [HF2.out]
              exact ⟨ao2, cap2, rfl, ho3, _, R2.1, (hs1.trans (Rstep.of_below B2 (Nat.le_refl _))).trans R2.2, Or.inr rfl⟩
            | some a =>
              go_wp2_with fail
              refine (clone_any _ [] _ hr1.2.1 (by simp)).mono ?_
              rintro e w2 ⟨ao2, cap2, rfl, ho2, B2⟩
              have hr2 := hr1.below B2 (Nat.le_refl _)
              have hc2 := hr2.cell0
              have hf2 := hr2.frozen 0
              have R2 := hr2.set0 (zs' := []) hr2.2.1 hr2.2.2
              have ho3 : Ow (w2.setCell ⟨b, 0, none⟩ (.slice (some a) 0 cap)) w.heap.size (.slice ao2 0 cap2) [] := (ho2.setBelow hr1.lt).mono hs1.size
              clear ho2
              go_wp2
              go_ret
              rw [HF2.out]
              exact ⟨ao2, cap2, rfl, ho3, _, R2.1, (hs1.trans (Rstep.of_below B2 (Nat.le_refl _))).trans R2.2, hv1⟩
          · exact absurd rfl h
        · rcases hr1.2.1 with ⟨h, _⟩ | ⟨_, b2, off, cap', hsl, hca, hcb, hcell⟩
          · exact absurd h hz0
          simp only [Value.slice.injEq] at hsl
          obtain ⟨rfl, _, rfl⟩ := hsl
          have hpre := hr1.2.1.front m hml
          have htk : (zr.take m).length = m := by simp; omega
          have hf0 := hr1.frozen 0
          clear hcell
          unfold maxLen at hcb
          go_wp2_with fail
          refine (clone_any _ _ _ hpre (by omega)).mono ?_
          rintro e w2 ⟨ao2, cap2, rfl, ho2, B2⟩
          have hr2 := hr1.below B2 (Nat.le_refl _)
          have hc2 := hr2.cell0
          have hf2 := hr2.frozen 0
          have hsuf := hr2.2.1.suffix m hml hz0
          have hnb : b2 ≠ b := fun e => hr1.2.2 (by simp [Value.ownBlock, e])
          rw [htk] at ho2
          have HF1 : Hid (R.1 = zr.take m ∧ R.2.1 = zr.drop m ∧ R.2.2 = 0) := by rw [HF.out]; exact ⟨rfl, rfl, rfl⟩
          by_cases hcm : cap = m
          · have hd : zr.drop m = [] := List.drop_eq_nil_of_le (by omega)
            have R2 := hr2.set0 (v' := .slice (some ⟨b2, off, none⟩) 0 0) (zs' := []) (Or.inl ⟨rfl, _, 0, rfl, by simp [maxLen], fun e => by cases e⟩) (by simpa [Value.ownBlock] using hnb)
            have ho3 : Ow (w2.setCell ⟨b, 0, none⟩ (.slice (some ⟨b2, off, none⟩) 0 0)) w.heap.size (.slice ao2 m cap2) (zr.take m) := (ho2.setBelow hr1.lt).mono hs1.size
            have hzm : zr.length - m = 0 := by omega
            have HD : Hid (zr.drop m = []) := hd
            have HTK : Hid ((zr.take m).length = m) := htk
            clear hsuf hpre ho2 hd htk HF
            go_wp2
            go_ret
            rw [HF1.out.1, HF1.out.2.1, HF1.out.2.2, HTK.out, HD.out]
            exact ⟨ao2, cap2, rfl, ho3, _, R2.1, (hs1.trans (Rstep.of_below B2 (Nat.le_refl _))).trans R2.2, hv1⟩
          · have R2 := hr2.set0 hsuf (by simpa [Value.ownBlock] using hnb)
            have ho3 : Ow (w2.setCell ⟨b, 0, none⟩ (.slice (some ⟨b2, off + m, none⟩) (zr.length - m) (cap - m))) w.heap.size (.slice ao2 m cap2) (zr.take m) := (ho2.setBelow hr1.lt).mono hs1.size
            have HTK : Hid ((zr.take m).length = m) := htk
            clear hsuf hpre ho2 htk HF
            go_wp2
            go_ret
            rw [HF1.out.1, HF1.out.2.1, HF1.out.2.2, HTK.out]
            exact ⟨ao2, cap2, rfl, ho3, _, R2.1, (hs1.trans (Rstep.of_below B2 (Nat.le_refl _))).trans R2.2, hv1⟩
    · have HF : Hid (R = ([], zr, e1)) := by show _ = _; rw [HR2.out]; simp [he1]
      obtain ⟨rfl, rfl⟩ := herr he1
      clear HR2 herr
      go_enter Tryd.func63, Tryd.ntmps63
      go_wp2_with fail
      refine (rnum_any b v zs _ hr hz).mono ?_
      rw [HN.out]
      rintro e w1 ⟨rfl, v1, hr1, hs1, hv1⟩
      go_wp2_with fail
      refine (has_err b _ _ _ _ _ hr1 he1).mono ?_
      rintro e w2 ⟨rfl, rfl⟩
      go_wp2
      go_ret
      rw [HF.out]
      exact ⟨none, 0, rfl, World.ownsRow_nil _ _ _ _, v1, hr1, hs1, hv1⟩
  · have HF : Hid (R = ([], zs, e)) := by show _ = _; rw [← HR.out]; simp [bytesR, he]
    clear HR
    go_enter Tryd.func63, Tryd.ntmps63
    go_wp2_with fail
    refine (rnum_err b v zs e _ hr he).mono ?_
    rintro e w1 ⟨rfl, rfl⟩
    go_wp2_with fail
    refine (has_err b _ _ _ _ _ hr he).mono ?_
    rintro e w2 ⟨rfl, rfl⟩
    go_wp2
    go_ret
    rw [HF.out]
    exact ⟨none, 0, rfl, World.ownsRow_nil _ _ _ _, v, hr, Rstep.refl _ _, Or.inl rfl⟩
end Go.Proofs.YtahodgmdikaedaaDoor
end

section
/-
  The document's bytes of a field (the law's bytes), by contract.
-/
namespace Go.Proofs.YtahodgmdikaedaaDoor
open Go.RowKit

theorem refFour_any (x : Int) (w : World) : Calls Tryd.prog 48 #[.int .u32 x] w fun e w' => ∃ ao cap, e = .returned (.slice ao (fourB x).length cap) ∧ Ow w' w.heap.size (.slice ao (fourB x).length cap) (fourB x) ∧ Below w.heap.size w w' := by
  have ho : Ow (w.alloc (.cells #[.int .u8 (x % 256), .int .u8 (x / 256 % 256), .int .u8 (x / 65536 % 256), .int .u8 (x / 16777216 % 256)] 5)) w.heap.size (.slice (some ⟨w.heap.size, 0, none⟩) 4 4) (fourB x) := Ow_of_block (zs := fourB x) (heap_alloc_new w _) (by simp [fourB, maxLen]) (Nat.le_refl _)
  go_enter Tryd.func48, Tryd.ntmps48
  go_wp2
  go_ret
  exact ⟨_, _, rfl, ho, (Below.refl _ _).alloc (Nat.le_refl _) _⟩

set_option maxHeartbeats 800000 in
theorem refBytes_any (sv : Value) (zs : List Int) (w : World) (hb : Bs w sv zs) (hz : zs.length ≤ 100000000000000) :
    Calls Tryd.prog 32 #[sv] w fun e w' => ∃ ao cap, e = .returned (.slice ao (numOf zs.length ++ zs).length cap) ∧ Ow w' w.heap.size (.slice ao (numOf zs.length ++ zs).length cap) (numOf zs.length ++ zs) ∧ Below w.heap.size w w' := by
  obtain ⟨ao, cap, hsv, hm⟩ := hb.len
  subst hsv
  have hnl := numOf_length (zs.length : Int)
  have HA : Hid ((numOf zs.length ++ zs).length = (numOf zs.length).length + zs.length) := by show _ = _; rw [List.length_append]
  go_enter Tryd.func32, Tryd.ntmps32
  go_wp2_with fail
  refine (refNum_any _ _ (by omega) (by omega)).mono ?_
  rintro e w1 ⟨ao1, cap1, rfl, ho1, B1⟩
  have hb1 := hb.below B1 (Nat.le_refl _)
  go_wp2_with (at_builtin; refine wpList_append_bs _ rfl (.tmp 5) (.tmp 6) rfl w.heap.size _ _ rfl ho1 _ zs rfl hb1 (by omega) B1.size ?_)
  intro ao2 cap2 w2 ho2 hg2 hat2
  have B2 : Below w.heap.size w w2 := B1.grown hg2 B1.size (fun k hk => (World.ownsRow.lt ho1 k hk).1)
  clear ho1 hg2 hat2 hb1
  go_wp2
  go_ret
  rw [HA.out]
  exact ⟨ao2, cap2, rfl, ho2, B2⟩

end Go.Proofs.YtahodgmdikaedaaDoor
end
