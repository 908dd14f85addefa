/-
  Both disks' files as one plain list (names, bytes, how many last): what each of the five answers and leaves, in these words alone. Plain facts; no walk.
-/
import Derived.Test.YthkgmnmdojmfgaaPlaySync
namespace Go.Proofs.Ythkgmnmdojmfgaa
open Go.RowKit Go.Maps Go.Sort

abbrev Us := List (List UInt8 × List Int × Nat)
def lkU (us : Us) (x : List UInt8) : Option (List Int × Nat) := (us.find? fun p => p.1 == x).map (·.2)
def dlU (us : Us) (x : List UInt8) : Us := us.filter fun p => !(p.1 == x)
def insU (x : List UInt8) (f : List Int × Nat) : Us → Us
  | [] => [(x, f)]
  | y :: r => if bytesBefore x y.1 then (x, f) :: y :: r else y :: insU x f r
def ptU (us : Us) (x : List UInt8) (f : List Int × Nat) : Us := insU x f (dlU us x)
def totU (us : Us) : Nat := (us.map fun p => p.2.1.length).sum
/-- The names rise. -/
def RisU (us : Us) : Prop := us.Pairwise fun p q => bytesBefore p.1 q.1 = true

/-- A disk in plain words: room, files, what the fuse lets (-1: there is none). -/
structure Ud where
  room : Int
  us : Us
  left : Int
/-- One of the five: what is ahead of all else, what is done, the fuse. -/
def Ud.five (u : Ud) (ns : List (List UInt8)) (f : Us → Int × Us) : Int × Ud :=
  if mayE u.left ns ≠ 0 then (mayE u.left ns, u) else ((f u.us).1, ⟨u.room, (f u.us).2, if (f u.us).1 = 0 then didL u.left else u.left⟩)
def syU (x : List UInt8) (us : Us) : Int × Us := match lkU us x with | none => (7, us) | some f => (0, ptU us x (f.1, f.1.length))
def rmU (x : List UInt8) (us : Us) : Int × Us := match lkU us x with | none => (7, us) | some _ => (0, dlU us x)
def cuU (x : List UInt8) (n : Int) (us : Us) : Int × Us := match lkU us x with | none => (7, us) | some f => if n < 0 ∨ (f.1.length : Int) < n then (1, us) else (0, ptU us x (f.1.take n.toNat, min f.2 n.toNat))
def rnU (x y : List UInt8) (us : Us) : Int × Us := match lkU us x with | none => (7, us) | some f => (0, ptU (dlU us x) y f)
def at0U (us : Us) (x : List UInt8) : List Int × Nat := (lkU us x).getD ([], 0)
def fullU (us : Us) (x : List UInt8) (m : Nat) (room : Int) : Bool := decide (room - (totU us : Int) < (m : Int)) || (!(lkU us x).isSome && decide (4096 ≤ us.length))
def wrU (x : List UInt8) (ps : List Int) (room : Int) (us : Us) : Int × Us := if fullU us x ps.length room then (6, us) else (0, ptU us x ((at0U us x).1 ++ ps, (at0U us x).2))

theorem before_lt3 : ∀ (a b : List UInt8), bytesBefore a b = true ↔ a < b
  | [], [] => by simp [bytesBefore]
  | [], _ :: _ => by simp [bytesBefore]
  | _ :: _, [] => by simp [bytesBefore]
  | a :: r, b :: s => by
    have ih := before_lt3 r s
    simp only [bytesBefore, Bool.or_eq_true, Bool.and_eq_true, decide_eq_true_eq, beq_iff_eq, ih, List.cons_lt_cons_iff]
theorem less_before : ∀ (a b : List UInt8), Op.bytesLess a b = bytesBefore a b
  | [], [] => by simp [Op.bytesLess, bytesBefore]
  | _ :: _, [] => by simp [Op.bytesLess, bytesBefore]
  | [], _ :: _ => by simp [Op.bytesLess, bytesBefore]
  | a :: r, b :: s => by
    have ih := less_before r s
    by_cases h1 : a < b <;> by_cases h2 : a = b <;> simp [Op.bytesLess, bytesBefore, ih, h1, h2]
theorem bef_trans {a b c : List UInt8} (h : bytesBefore a b = true) (k : bytesBefore b c = true) : bytesBefore a c = true := (before_lt3 a c).2 (List.lt_trans ((before_lt3 a b).1 h) ((before_lt3 b c).1 k))
theorem bef_irrefl (a : List UInt8) : bytesBefore a a = false := by
  cases hb : bytesBefore a a with
  | false => rfl
  | true => exact absurd ((before_lt3 a a).1 hb) (List.lt_irrefl a)
theorem bef_total {a b : List UInt8} (h : bytesBefore a b = false) (hne : a ≠ b) : bytesBefore b a = true := by
  refine (before_lt3 b a).2 ?_
  have h1 : ¬ a < b := fun e => by rw [(before_lt3 a b).2 e] at h; cases h
  have h2 : b ≤ a := List.not_lt.1 h1
  exact Std.lt_of_le_of_ne h2 (Ne.symm hne)
theorem bef_ne {a b : List UInt8} (h : bytesBefore a b = true) : a ≠ b := fun e => by rw [e, bef_irrefl] at h; cases h
theorem bef_asymm {a b : List UInt8} (h : bytesBefore a b = true) : bytesBefore b a = false := by
  cases hb : bytesBefore b a with
  | false => rfl
  | true => have := bef_trans h hb; rw [bef_irrefl] at this; cases this

theorem lkU_cons (p : List UInt8 × List Int × Nat) (us : Us) (x : List UInt8) : lkU (p :: us) x = if p.1 = x then some p.2 else lkU us x := by
  simp only [lkU, List.find?_cons]
  by_cases h : p.1 = x
  · simp [h]
  · simp [h, beq_eq_false_iff_ne.2 h]
theorem dlU_cons (p : List UInt8 × List Int × Nat) (us : Us) (x : List UInt8) : dlU (p :: us) x = if p.1 = x then dlU us x else p :: dlU us x := by
  by_cases h : p.1 = x <;> simp [dlU, h]
theorem dlU_none {us : Us} {x : List UInt8} (h : ∀ p ∈ us, p.1 ≠ x) : dlU us x = us := by
  simp only [dlU, List.filter_eq_self]
  intro p hp
  simp [h p hp]
theorem lkU_none {us : Us} {x : List UInt8} (h : ∀ p ∈ us, p.1 ≠ x) : lkU us x = none := by
  simp only [lkU, Option.map_eq_none_iff, List.find?_eq_none, beq_iff_eq]
  exact h
theorem lkU_none' {us : Us} {x : List UInt8} (h : lkU us x = none) : ∀ p ∈ us, p.1 ≠ x := by
  intro p hp
  simp only [lkU, Option.map_eq_none_iff, List.find?_eq_none, beq_iff_eq] at h
  exact h p hp
theorem insU_front (x : List UInt8) (f : List Int × Nat) : ∀ r : Us, (∀ q ∈ r, bytesBefore x q.1 = true) → insU x f r = (x, f) :: r
  | [], _ => rfl
  | y :: r, h => by simp only [insU, h y (by simp), if_true]

/-- Where a name stands, or would stand: spotN parts a rising row. -/
theorem spotN_cons (n : List UInt8) (ns : List (List UInt8)) (x : List UInt8) : spotN (n :: ns) x = if bytesBefore n x then spotN ns x + 1 else 0 := by
  simp only [spotN, List.takeWhile_cons, less_before]
  cases bytesBefore n x <;> simp
theorem spotU : ∀ (us : Us) (x : List UInt8), RisU us →
    (match lkU us x with
     | some f => us[spotN (us.map (·.1)) x]? = some (x, f) ∧ dlU us x = us.eraseIdx (spotN (us.map (·.1)) x) ∧ ∀ g, ptU us x g = us.set (spotN (us.map (·.1)) x) (x, g)
     | none => (us.map (·.1))[spotN (us.map (·.1)) x]? ≠ some x ∧ dlU us x = us ∧ ∀ g, ptU us x g = us.take (spotN (us.map (·.1)) x) ++ (x, g) :: us.drop (spotN (us.map (·.1)) x))
  | [], x, _ => by simp [lkU, dlU, ptU, insU, spotN]
  | p :: r, x, h => by
    obtain ⟨h1, h2⟩ := List.pairwise_cons.1 h
    have ih := spotU r x h2
    rw [lkU_cons]
    simp only [List.map_cons, spotN_cons]
    by_cases hp : p.1 = x
    · have hd : dlU r x = r := dlU_none fun q hq e => bef_ne (h1 q hq) (hp.trans e.symm)
      have hb : bytesBefore p.1 x = false := by rw [hp]; exact bef_irrefl x
      have hf : ∀ q ∈ r, bytesBefore x q.1 = true := fun q hq => by rw [← hp]; exact h1 q hq
      simp only [if_pos hp, hb, Bool.false_eq_true, if_false]
      refine ⟨by subst hp; rfl, by rw [dlU_cons, if_pos hp, hd]; rfl, fun g => ?_⟩
      unfold ptU
      rw [dlU_cons, if_pos hp, hd, insU_front x g r hf]
      rfl
    · simp only [if_neg hp]
      cases hb : bytesBefore p.1 x with
      | true =>
        simp only [if_true]
        have hx : bytesBefore x p.1 = false := bef_asymm hb
        cases hl : lkU r x with
        | some f =>
          rw [hl] at ih
          obtain ⟨i1, i2, i3⟩ := ih
          refine ⟨by simpa using i1, by rw [dlU_cons, if_neg hp, i2]; rfl, fun g => ?_⟩
          have := i3 g
          unfold ptU at this ⊢
          rw [dlU_cons, if_neg hp, insU, if_neg (by rw [hx]; simp), this]
          rfl
        | none =>
          rw [hl] at ih
          obtain ⟨i1, i2, i3⟩ := ih
          refine ⟨by simpa using i1, by rw [dlU_cons, if_neg hp, i2], fun g => ?_⟩
          have := i3 g
          unfold ptU at this ⊢
          rw [dlU_cons, if_neg hp, insU, if_neg (by rw [hx]; simp), this]
          rfl
      | false =>
        simp only [Bool.false_eq_true, if_false]
        have hx : bytesBefore x p.1 = true := bef_total hb hp
        have hall : ∀ q ∈ p :: r, bytesBefore x q.1 = true := fun q hq => by
          rcases List.mem_cons.1 hq with rfl | hq
          · exact hx
          · exact bef_trans hx (h1 q hq)
        have hn : ∀ q ∈ r, q.1 ≠ x := fun q hq e => bef_ne (hall q (List.mem_cons_of_mem _ hq)) e.symm
        rw [lkU_none hn]
        have hd : dlU (p :: r) x = p :: r := dlU_none fun q hq e => bef_ne (hall q hq) e.symm
        refine ⟨by simpa using fun e => hp e, hd, fun g => ?_⟩
        unfold ptU
        rw [hd, insU_front x g _ hall]
        rfl
theorem spot_some_of {us : Us} {x : List UInt8} {f : List Int × Nat} (h : RisU us) (hl : lkU us x = some f) : us[spotN (us.map (·.1)) x]? = some (x, f) ∧ dlU us x = us.eraseIdx (spotN (us.map (·.1)) x) ∧ ∀ g, ptU us x g = us.set (spotN (us.map (·.1)) x) (x, g) := by
  have := spotU us x h
  rw [hl] at this
  exact this
theorem spot_none_of {us : Us} {x : List UInt8} (h : RisU us) (hl : lkU us x = none) : (us.map (·.1))[spotN (us.map (·.1)) x]? ≠ some x ∧ dlU us x = us ∧ ∀ g, ptU us x g = us.take (spotN (us.map (·.1)) x) ++ (x, g) :: us.drop (spotN (us.map (·.1)) x) := by
  have := spotU us x h
  rw [hl] at this
  exact this
theorem insU_mem {x : List UInt8} {f : List Int × Nat} : ∀ {us : Us} {q : List UInt8 × List Int × Nat}, q ∈ insU x f us → q = (x, f) ∨ q ∈ us
  | [], q, h => by simp [insU] at h; exact Or.inl h
  | y :: r, q, h => by
    simp only [insU] at h
    split at h
    · rcases List.mem_cons.1 h with h | h
      · exact Or.inl h
      · exact Or.inr h
    · rcases List.mem_cons.1 h with h | h
      · exact Or.inr (by rw [h]; simp)
      · rcases insU_mem h with h | h
        · exact Or.inl h
        · exact Or.inr (List.mem_cons_of_mem _ h)
theorem RisU.ins {x : List UInt8} {f : List Int × Nat} : ∀ {us : Us}, RisU us → (∀ q ∈ us, q.1 ≠ x) → RisU (insU x f us)
  | [], _, _ => by simp [insU, RisU]
  | y :: r, h, hn => by
    obtain ⟨h1, h2⟩ := List.pairwise_cons.1 h
    simp only [insU]
    by_cases hb : bytesBefore x y.1 = true
    · rw [if_pos hb]
      refine List.pairwise_cons.2 ⟨fun q hq => ?_, h⟩
      rcases List.mem_cons.1 hq with rfl | hq
      · exact hb
      · exact bef_trans hb (h1 q hq)
    · rw [if_neg hb]
      refine List.pairwise_cons.2 ⟨fun q hq => ?_, RisU.ins h2 fun q hq => hn q (List.mem_cons_of_mem _ hq)⟩
      rcases insU_mem hq with rfl | hq
      · exact bef_total (by simpa using hb) (Ne.symm (hn y (by simp)))
      · exact h1 q hq
theorem RisU.dl {us : Us} (h : RisU us) (x : List UInt8) : RisU (dlU us x) := List.Pairwise.filter _ h
theorem dlU_ne {us : Us} {x : List UInt8} : ∀ q ∈ dlU us x, q.1 ≠ x := by
  intro q hq
  simp [dlU] at hq
  exact hq.2
theorem RisU.pt {us : Us} (h : RisU us) (x : List UInt8) (f : List Int × Nat) : RisU (ptU us x f) := (h.dl x).ins dlU_ne
theorem rnU_same {us : Us} {x : List UInt8} {f : List Int × Nat} (h : RisU us) (hl : lkU us x = some f) : ptU (dlU us x) x f = us := by
  obtain ⟨h1, h2, h3⟩ := spot_some_of h hl
  have e : dlU (dlU us x) x = dlU us x := dlU_none dlU_ne
  have e2 : ptU (dlU us x) x f = ptU us x f := by unfold ptU; rw [e]
  rw [e2, h3 f]
  obtain ⟨hi, e3⟩ := List.getElem?_eq_some_iff.1 h1
  rw [← e3, List.set_getElem_self]
end Go.Proofs.Ythkgmnmdojmfgaa
