/-
  The laws' games in plain words: what a frame of each leaves. No walk.
-/
import Derived.Test.YtlknolbfhfcflabFuelPlain
namespace Go.Proofs.Ytlknolbfhfcflab
theorem may_push {v : Int} (n : Int) (hv : In32 v) : mayI (1, v) n = true := by show decide (-2147483648 ≤ v ∧ v ≤ 2147483647) = true; simp only [decide_eq_true_eq]; exact hv
theorem may_store {c : Int} (n : Int) (hc : 0 ≤ c ∧ c < 16) : mayI (3, c) n = true := by show decide (0 ≤ c ∧ c < 16) = true; simp only [decide_eq_true_eq]; exact hc

def scode (a b : Int) : List Ii := [(1, a), (1, b), (14, 0), (3, 2), (13, 0), (3, 3), (12, 0), (3, 4), (1, 9), (15, 0)]
def sst (a b : Int) : Sp := ⟨1, [0, 0, a, b, truI (decide (b = 0)), 0, 0, 0, 0, 0, 0, 0, 0, 0, 0, 0], 1, false, 0⟩
theorem swaps_step (a b : Int) (ha : In32 a) (hb : In32 b) : stepF (scode a b) 5 20 (startS 1) 0 0 = (sst a b, 0) := by
  have he : stepE (scode a b) 5 20 (startS 1) = 0 := by
    refine stepE_of (chk_of (by show 10 ≤ 256; omega) ?_) (by omega) (by omega) (by omega) (by omega) (by show (0 : Int) ≤ 0; omega) (by show (0 : Int) < 5; omega) rfl rfl (by show (1 : Int) ≠ 0; omega)
    intro x hx
    simp only [scode, List.mem_cons, List.not_mem_nil, or_false] at hx
    rcases hx with rfl | rfl | rfl | rfl | rfl | rfl | rfl | rfl | rfl | rfl
    · exact may_push _ ha
    · exact may_push _ hb
    all_goals rfl
  rw [stepF_of he (R := some ⟨[0, 0, a, b, truI (decide (b = 0)), 0, 0, 0, 0, 0, 0, 0, 0, 0, 0, 0], 1, [], 10, none⟩) rfl]
  rfl
theorem sst_wf (a b : Int) (ha : In32 a) (hb : In32 b) : (sst a b).Wf := by
  refine ⟨rfl, ?_, by show (0 : Int) ≤ 1 ∧ (1 : Int) < 4294967296; omega⟩
  intro x hx
  simp only [sst, List.mem_cons, List.not_mem_nil, or_false, or_self] at hx
  rcases hx with rfl | rfl | rfl | rfl | rfl | rfl
  · exact zero_in
  · exact zero_in
  · exact ha
  · exact hb
  · exact truI_in _
  · exact zero_in

def lcode (n : Int) : List Ii := [(1, n), (3, 5), (2, 5), (19, 13), (2, 5), (1, 1), (5, 0), (3, 5), (2, 6), (1, 3), (4, 0), (3, 6), (18, 2)]
def lcs (a b : Int) : List Int := [0, 0, 0, 0, 0, a, b, 0, 0, 0, 0, 0, 0, 0, 0, 0]
theorem held_small {x : Int} (h : -2147483648 ≤ x ∧ x ≤ 2147483647) : heldI x = x := by unfold heldI; rw [if_neg (by omega), if_neg (by omega)]
theorem loop_round (n : Int) (k b : Int) (hk : 0 < k ∧ k ≤ 100) (hb : 0 ≤ b ∧ b ≤ 1000) (f : Nat) : runI 0 0 0 (lcode n) (f + 11) ⟨lcs k b, 1, [], 2, none⟩ = runI 0 0 0 (lcode n) f ⟨lcs (k - 1) (b + 3), 1, [], 2, none⟩ := by
  have h1 : heldI (k - 1) = k - 1 := held_small ⟨by omega, by omega⟩
  have h2 : heldI (b + 3) = b + 3 := held_small ⟨by omega, by omega⟩
  have e1 : runI 0 0 0 (lcode n) (f + 11) ⟨lcs k b, 1, [], 2, none⟩ = runI 0 0 0 (lcode n) (f + 9) ⟨lcs k b, 1, [], if k = 0 then 13 else 4, none⟩ := rfl
  have e2 : runI 0 0 0 (lcode n) (f + 9) ⟨lcs k b, 1, [], 4, none⟩ = runI 0 0 0 (lcode n) f ⟨lcs (heldI (k - 1)) (heldI (b + 3)), 1, [], 2, none⟩ := rfl
  rw [e1, if_neg (by omega), e2, h1, h2]
theorem loop_short (n k b : Int) (hk : 0 < k) : ∀ f, f < 11 → runI 0 0 0 (lcode n) f ⟨lcs k b, 1, [], 2, none⟩ = none
  | 0, _ => rfl
  | 1, _ => rfl
  | f + 2, h => by
    have e1 : runI 0 0 0 (lcode n) (f + 2) ⟨lcs k b, 1, [], 2, none⟩ = runI 0 0 0 (lcode n) f ⟨lcs k b, 1, [], if k = 0 then 13 else 4, none⟩ := rfl
    rw [e1, if_neg (by omega)]
    match f, h with
    | 0, _ => rfl
    | 1, _ => rfl
    | 2, _ => rfl
    | 3, _ => rfl
    | 4, _ => rfl
    | 5, _ => rfl
    | 6, _ => rfl
    | 7, _ => rfl
    | 8, _ => rfl
    | f + 9, h => exact absurd h (by omega)
theorem loop_all (n : Int) : ∀ (k : Nat) (b : Int), k ≤ 100 → 0 ≤ b → b + 3 * k ≤ 1000 → ∀ f, runI 0 0 0 (lcode n) f ⟨lcs k b, 1, [], 2, none⟩ = if 11 * k + 2 ≤ f then some ⟨lcs 0 (b + 3 * k), 1, [], 13, none⟩ else none
  | 0, b, _, _, _, 0 => rfl
  | 0, b, _, _, _, 1 => rfl
  | 0, b, _, _, _, f + 2 => by
    have e : runI 0 0 0 (lcode n) (f + 2) ⟨lcs 0 b, 1, [], 2, none⟩ = runI 0 0 0 (lcode n) f ⟨lcs 0 b, 1, [], 13, none⟩ := rfl
    show runI 0 0 0 (lcode n) (f + 2) ⟨lcs 0 b, 1, [], 2, none⟩ = _
    rw [e, if_pos (by omega), runI_end _ (by show 13 ≤ 13; omega)]
    simp
  | k + 1, b, hk, hb, hs, f => by
    by_cases hf : f < 11
    · rw [if_neg (by omega)]
      exact loop_short n _ b (by omega) f hf
    · obtain ⟨g, rfl⟩ : ∃ g, f = g + 11 := ⟨f - 11, by omega⟩
      rw [loop_round n _ b (by omega) (by omega) g, show ((k + 1 : Nat) : Int) - 1 = (k : Int) by omega, loop_all n k (b + 3) (by omega) (by omega) (by omega) g]
      by_cases h2 : 11 * k + 2 ≤ g
      · rw [if_pos h2, if_pos (by omega), show b + 3 + 3 * (k : Int) = b + 3 * ((k + 1 : Nat) : Int) by omega]
      · rw [if_neg h2, if_neg (by omega)]
def lst (b : Int) : Sp := ⟨1, lcs 0 b, 1, false, 0⟩
theorem loops_step (n : Nat) (fuel : Nat) (hn : 1 ≤ n ∧ n ≤ 100) (hf : 1 ≤ fuel ∧ fuel ≤ 2000) : stepF (lcode n) 9 fuel (startS 1) 0 0 = (lst (if 2 + 11 * n + 2 ≤ fuel then 3 * (n : Int) else 0), 0) := by
  have he : stepE (lcode n) 9 fuel (startS 1) = 0 := by
    refine stepE_of (chk_of (by show 13 ≤ 256; omega) ?_) (by omega) (by omega) (by omega) (by omega) (by show (0 : Int) ≤ 0; omega) (by show (0 : Int) < 9; omega) rfl rfl (by show (1 : Int) ≠ 0; omega)
    intro x hx
    simp only [lcode, List.mem_cons, List.not_mem_nil, or_false] at hx
    rcases hx with rfl | rfl | rfl | rfl | rfl | rfl | rfl | rfl | rfl | rfl | rfl | rfl | rfl
    · exact may_push _ ⟨by omega, by omega⟩
    all_goals rfl
  have hr : runI 0 0 0 (lcode n) fuel (startM (startS 1)) = if 2 + 11 * n + 2 ≤ fuel then some ⟨lcs 0 (3 * (n : Int)), 1, [], 13, none⟩ else none := by
    match fuel, hf with
    | 0, h => exact absurd h.1 (by omega)
    | 1, _ => rw [if_neg (by omega)]; rfl
    | f + 2, _ =>
      have e : runI 0 0 0 (lcode n) (f + 2) (startM (startS 1)) = runI 0 0 0 (lcode n) f ⟨lcs n 0, 1, [], 2, none⟩ := rfl
      rw [e, loop_all n n 0 hn.2 (by omega) (by omega) f]
      by_cases h2 : 11 * n + 2 ≤ f
      · rw [if_pos h2, if_pos (by omega), show (0 : Int) + 3 * (n : Int) = 3 * (n : Int) by omega]
      · rw [if_neg h2, if_neg (by omega)]
  rw [stepF_of he (R := if 2 + 11 * n + 2 ≤ fuel then some ⟨lcs 0 (3 * (n : Int)), 1, [], 13, none⟩ else none) (by rw [show ((fuel : Nat) : Int).toNat = fuel by simp]; exact hr)]
  by_cases h : 2 + 11 * n + 2 ≤ fuel
  · rw [if_pos h, if_pos h]; rfl
  · rw [if_neg h, if_neg h]; rfl
theorem lst_wf (b : Int) (hb : In32 b) : (lst b).Wf := by
  refine ⟨rfl, ?_, by show (0 : Int) ≤ 1 ∧ (1 : Int) < 4294967296; omega⟩
  intro x hx
  simp only [lst, lcs, List.mem_cons, List.not_mem_nil, or_false, or_self] at hx
  rcases hx with rfl | rfl | rfl | rfl | rfl | rfl | rfl | rfl
  all_goals first | exact zero_in | exact hb
end Go.Proofs.Ytlknolbfhfcflab
