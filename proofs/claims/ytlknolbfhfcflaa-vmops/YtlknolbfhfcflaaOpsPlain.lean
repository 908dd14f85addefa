/-
  VmOps' games in plain words. No walk.
-/
import Derived.Test.YtlknolbfhfcflaaFuelPlain
namespace Go.Proofs.Ytlknolbfhfcflaa
def ocode (k : Int) (b a : Int) : List Ii := [(1, b), (1, a), (k, 0), (3, 5)]
def ocode2 (k : Int) (a : Int) : List Ii := [(1, a), (k, 0), (3, 5)]
def ost (r : Int) : Sp := ⟨1, [0, 0, 0, 0, 0, r, 0, 0, 0, 0, 0, 0, 0, 0, 0, 0], 1, false, 0⟩
theorem may_push {v : Int} (n : Int) (hv : In32 v) : mayI (1, v) n = true := by show decide (-2147483648 ≤ v ∧ v ≤ 2147483647) = true; simp only [decide_eq_true_eq]; exact hv
theorem may_two (n : Int) : ∀ k : Nat, 4 ≤ k → k ≤ 11 → mayI ((k : Int), 0) n = true
  | 4, _, _ => rfl
  | 5, _, _ => rfl
  | 6, _, _ => rfl
  | 7, _, _ => rfl
  | 8, _, _ => rfl
  | 9, _, _ => rfl
  | 10, _, _ => rfl
  | 11, _, _ => rfl
  | 0, h, _ => absurd h (by omega)
  | 1, h, _ => absurd h (by omega)
  | 2, h, _ => absurd h (by omega)
  | 3, h, _ => absurd h (by omega)
  | k + 12, _, h => absurd h (by omega)
theorem ops_run (b a : Int) : ∀ k : Nat, 4 ≤ k → k ≤ 11 → runI 0 0 0 (ocode k b a) 10 (startM (startS 1)) = some ⟨[0, 0, 0, 0, 0, twoI k b a, 0, 0, 0, 0, 0, 0, 0, 0, 0, 0], 1, [], 4, none⟩
  | 4, _, _ => rfl
  | 5, _, _ => rfl
  | 6, _, _ => rfl
  | 7, _, _ => rfl
  | 8, _, _ => rfl
  | 9, _, _ => rfl
  | 10, _, _ => rfl
  | 11, _, _ => rfl
  | 0, h, _ => absurd h (by omega)
  | 1, h, _ => absurd h (by omega)
  | 2, h, _ => absurd h (by omega)
  | 3, h, _ => absurd h (by omega)
  | k + 12, _, h => absurd h (by omega)
theorem ops_run2 (a : Int) : ∀ k : Nat, 4 ≤ k → k ≤ 11 → runI 0 0 0 (ocode2 k a) 10 (startM (startS 1)) = none
  | 4, _, _ => rfl
  | 5, _, _ => rfl
  | 6, _, _ => rfl
  | 7, _, _ => rfl
  | 8, _, _ => rfl
  | 9, _, _ => rfl
  | 10, _, _ => rfl
  | 11, _, _ => rfl
  | 0, h, _ => absurd h (by omega)
  | 1, h, _ => absurd h (by omega)
  | 2, h, _ => absurd h (by omega)
  | 3, h, _ => absurd h (by omega)
  | k + 12, _, h => absurd h (by omega)
theorem ops_step (b a : Int) (k : Nat) (h4 : 4 ≤ k) (h11 : k ≤ 11) (ha : In32 a) (hb : In32 b) : stepF (ocode k b a) 5 10 (startS 1) 0 0 = (ost (twoI k b a), 0) := by
  have he : stepE (ocode k b a) 5 10 (startS 1) = 0 := by
    refine stepE_of (chk_of (by show 4 ≤ 256; omega) ?_) (by omega) (by omega) (by omega) (by omega) (by show (0 : Int) ≤ 0; omega) (by show (0 : Int) < 5; omega) rfl rfl (by show (1 : Int) ≠ 0; omega)
    intro x hx
    simp only [ocode, List.mem_cons, List.not_mem_nil, or_false] at hx
    rcases hx with rfl | rfl | rfl | rfl
    · exact may_push _ hb
    · exact may_push _ ha
    · exact may_two _ k h4 h11
    · rfl
  rw [stepF_of he (ops_run b a k h4 h11)]
  rfl
theorem ops_step2 (a : Int) (k : Nat) (h4 : 4 ≤ k) (h11 : k ≤ 11) (ha : In32 a) : stepF (ocode2 k a) 5 10 (startS 1) 0 0 = (⟨1, zeros, 1, false, 0⟩, 0) := by
  have he : stepE (ocode2 k a) 5 10 (startS 1) = 0 := by
    refine stepE_of (chk_of (by show 3 ≤ 256; omega) ?_) (by omega) (by omega) (by omega) (by omega) (by show (0 : Int) ≤ 0; omega) (by show (0 : Int) < 5; omega) rfl rfl (by show (1 : Int) ≠ 0; omega)
    intro x hx
    simp only [ocode2, List.mem_cons, List.not_mem_nil, or_false] at hx
    rcases hx with rfl | rfl | rfl
    · exact may_push _ ha
    · exact may_two _ k h4 h11
    · rfl
  rw [stepF_of he (ops_run2 a k h4 h11)]
  rfl
theorem ost_wf (r : Int) (hr : In32 r) : (ost r).Wf := by
  refine ⟨rfl, ?_, by show (0 : Int) ≤ 1 ∧ (1 : Int) < 4294967296; omega⟩
  intro x hx
  simp only [ost, List.mem_cons, List.not_mem_nil, or_false, or_self] at hx
  rcases hx with rfl | rfl | rfl | rfl | rfl | rfl | rfl
  all_goals first | exact zero_in | exact hr
end Go.Proofs.Ytlknolbfhfcflaa
