/-
  A line that is none among a program's lines. Plain facts; no walk.
-/
import Derived.Test.YtddmnpfebajnmaaDoorParse
namespace Go.Proofs.YtddmnpfebajnmaaDoor
open Go.RowKit
/-- A text is looked through: how many 0a, and the place behind the one with the number cut. -/
def scanF (cut : Nat) : Nat → Nat → Nat → List UInt8 → Nat × Nat
  | n, k, _, [] => (n, k)
  | n, k, i, c :: r => if c = 10 then scanF cut (n + 1) (if n + 1 = cut then i + 1 else k) (i + 1) r else scanF cut n k (i + 1) r
theorem scanF_line (cut : Nat) : ∀ (a : List UInt8) (n k i : Nat) (r : List UInt8), (10 : UInt8) ∉ a → scanF cut n k i (a ++ 10 :: r) = scanF cut (n + 1) (if n + 1 = cut then i + a.length + 1 else k) (i + a.length + 1) r
  | [], n, k, i, r, _ => by simp [scanF]
  | c :: a, n, k, i, r, h => by
    simp only [List.mem_cons, not_or] at h
    rw [List.cons_append, scanF, if_neg (fun e => h.1 e.symm), scanF_line cut a n k (i + 1) r h.2]
    simp only [List.length_cons]
    rw [show i + 1 + a.length + 1 = i + (a.length + 1) + 1 by omega]
theorem scanF_text (cut : Nat) : ∀ (l : List Ii) (n k i : Nat), (∀ x ∈ l, 1 ≤ x.1 ∧ x.1 ≤ 22) → scanF cut n k i (textL l) = (n + l.length, if n < cut ∧ cut ≤ n + l.length then i + (textL (l.take (cut - n))).length else k)
  | [], n, k, i, _ => by
    rw [if_neg (by simp only [List.length_nil]; omega)]
    simp [textL, scanF]
  | x :: l, n, k, i, h => by
    rw [textL_cons, scanF_line cut _ n k i _ (lineL_ten x (h x (by simp))), scanF_text cut l _ _ _ fun y hy => h y (by simp [hy])]
    simp only [List.length_cons]
    refine Prod.ext (by simp only; omega) ?_
    simp only
    by_cases h1 : n + 1 = cut
    · rw [if_pos h1, if_neg (by omega), if_pos (by omega)]
      have e : cut - n = 0 + 1 := by omega
      rw [e, List.take_succ_cons, List.take_zero]
      simp [textL]
      omega
    · rw [if_neg h1]
      by_cases h2 : n + 1 < cut ∧ cut ≤ n + 1 + l.length
      · rw [if_pos h2, if_pos (by omega)]
        have e : cut - n = (cut - (n + 1)) + 1 := by omega
        rw [e, List.take_succ_cons, textL_cons]
        simp
        omega
      · rw [if_neg h2, if_neg (by omega)]
theorem textL_app (a b : List Ii) : textL (a ++ b) = textL a ++ textL b := by simp [textL]
theorem read_bad {bad : List UInt8} (h : ∀ c ∈ bad, 120 ≤ c.toNat ∧ c.toNat ≤ 122) : readL bad = none := by
  refine readL_none ?_
  rintro ⟨x, hx⟩
  have ho := hx.op
  obtain ⟨c, hc, hlt⟩ := name_odd ⟨x.1.toNat, by omega⟩ (by simp only; omega)
  have : c ∈ bad := by
    rw [← hx.line]
    exact List.mem_append_left _ hc
  have := h c this
  omega
theorem parLs_bad (bad : List UInt8) (hb : readL bad = none) (r : List (List UInt8)) : ∀ (l : List Ii) (k : Nat) (n : Int), (∀ x ∈ l, mayI x n = true) → n ≤ 256 → k + l.length < 256 → parLs k (l.map lineL ++ bad :: r) = .error (((k + l.length : Nat) : Int), 19)
  | [], k, n, _, _, hk => by
    rw [List.map_nil, List.nil_append, parLs_none (by simp at hk; omega) hb]
    rfl
  | x :: l, k, n, h, hn, hk => by
    simp only [List.length_cons] at hk
    rw [List.map_cons, List.cons_append, parLs_some (by omega) (readL_some (Ln_of_may (h x (by simp)) hn)), parLs_bad bad hb r l (k + 1) n (fun y hy => h y (by simp [hy])) hn (by omega)]
    simp only [Except.map, List.length_cons]
    rw [show k + 1 + l.length = k + (l.length + 1) by omega]
theorem parS_bad {l : List Ii} (h : Okp l) (hl : l.length ≤ 200) {bad : List UInt8} (hb : ∀ c ∈ bad, 120 ≤ c.toNat ∧ c.toNat ≤ 122) {cut : Nat} (hc : cut ≤ l.length) :
    parS (textL (l.take cut) ++ (bad ++ 10 :: textL (l.drop cut))) = ([], (cut : Int), 19) := by
  have h10 : (10 : UInt8) ∉ bad := fun e => by have := hb 10 e; simp at this
  have e : linesL (textL (l.take cut) ++ (bad ++ 10 :: textL (l.drop cut))) = (l.take cut).map lineL ++ bad :: linesL (textL (l.drop cut)) := by
    rw [linesL_text _ _ fun x hx => mayI_op (h.may x (List.mem_of_mem_take hx)), linesL_line _ _ h10]
  unfold parS
  rw [e, parLs_bad bad (read_bad hb) _ (l.take cut) 0 l.length (fun x hx => h.may x (List.mem_of_mem_take hx)) (by omega) (by rw [List.length_take]; omega)]
  simp only [List.length_take, Nat.zero_add, Nat.min_eq_left hc]
theorem and16 (a : Int) : ∃ A : Nat, bits .and .i64 a 65535 = (A : Int) ∧ A < 65536 := by
  have e : bits .and .i64 a 65535 = IntKind.i64.wrap (((BitVec.ofInt 64 a &&& BitVec.ofInt 64 65535).toNat : Nat) : Int) := rfl
  have hb : (BitVec.ofInt 64 a &&& BitVec.ofInt 64 65535).toNat < 65536 := by
    rw [BitVec.toNat_and]
    have : (BitVec.ofInt 64 65535).toNat = 65535 := by decide
    rw [this]
    exact Nat.lt_of_le_of_lt Nat.and_le_right (by decide)
  refine ⟨_, ?_, hb⟩
  rw [e]
  generalize (BitVec.ofInt 64 a &&& BitVec.ofInt 64 65535).toNat = n at *
  simp [IntKind.wrap, IntKind.bits, IntKind.signed]
  omega
end Go.Proofs.YtddmnpfebajnmaaDoor
