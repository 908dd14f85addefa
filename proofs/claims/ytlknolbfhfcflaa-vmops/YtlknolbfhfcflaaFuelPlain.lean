/-
  Loops of the machine in plain words: one that does not end. No walk.
-/
import Derived.Test.YtlknolbfhfcflaaLaw
namespace Go.Proofs.Ytlknolbfhfcflaa
def fcode (v c : Int) : List Ii := [(1, v), (3, c), (21, 0), (15, 0), (18, 0)]
theorem chk_of {l : List Ii} (h : l.length ≤ 256) (ha : ∀ x ∈ l, mayI x l.length = true) : (chk l).2 = 0 := by rw [chk_ok (by omega) ha]
theorem stepE_of {l : List Ii} {cap fuel : Int} {s : Sp} (hc : (chk l).2 = 0) (h1 : 1 ≤ cap) (h2 : cap ≤ 600) (h3 : 1 ≤ fuel) (h4 : fuel ≤ 2000) (hf0 : 0 ≤ s.frame) (hf : s.frame < cap) (ho : s.over = false) (hw : s.win = 0) (hs : s.seed ≠ 0) : stepE l cap fuel s = 0 := by
  have hg : chkG l cap fuel = 0 := by
    unfold chkG
    rw [if_neg (by omega), if_neg (by omega)]
  have hi : isS s = true := by simp only [isS, decide_eq_true_eq]; exact ⟨hf0, by omega, by omega, by omega, Or.inr hw⟩
  unfold stepE
  rw [if_neg (by omega), if_neg (by rw [hi]; simp [hs]), if_neg (by rw [ho]; simp; omega)]
theorem stepF_of {l : List Ii} {cap fuel : Int} {s : Sp} {i0 i1 : Int} (he : stepE l cap fuel s = 0) {R : Option Mp} (hr : runI s.frame i0 i1 l fuel.toNat (startM s) = R) : stepF l cap fuel s i0 i1 = (endS cap (ranS s R), 0) := by
  unfold stepF stepS
  rw [if_pos he, hr]
theorem loops (v c : Int) : ∀ (f : Nat) (cells : List Int) (seed : Int), runI 0 0 0 (fcode v c) f ⟨cells, seed, [], 0, none⟩ = none
  | 0, _, _ => rfl
  | 1, _, _ => rfl
  | 2, _, _ => rfl
  | 3, _, _ => rfl
  | 4, _, _ => rfl
  | f + 5, cells, seed => loops v c f (cells.set c.toNat v) (rndI seed)
theorem fuel_step (fuel c v : Int) (hf : 1 ≤ fuel ∧ fuel ≤ 2000) (hc : 0 ≤ c ∧ c < 16) (hv : In32 v) : stepF (fcode v c) 5 fuel (startS 7) 0 0 = (⟨1, zeros, 7, false, 0⟩, 0) := by
  have h1 : mayI (1, v) 5 = true := by show decide (-2147483648 ≤ v ∧ v ≤ 2147483647) = true; simp only [decide_eq_true_eq]; exact hv
  have h2 : mayI (3, c) 5 = true := by show decide (0 ≤ c ∧ c < 16) = true; simp only [decide_eq_true_eq]; exact hc
  have he : stepE (fcode v c) 5 fuel (startS 7) = 0 := by
    refine stepE_of (chk_of (by show 5 ≤ 256; omega) ?_) (by omega) (by omega) hf.1 hf.2 (by show (0 : Int) ≤ 0; omega) (by show (0 : Int) < 5; omega) rfl rfl (by show (7 : Int) ≠ 0; omega)
    intro x hx
    simp only [fcode, List.mem_cons, List.not_mem_nil, or_false] at hx
    rcases hx with rfl | rfl | rfl | rfl | rfl
    · exact h1
    · exact h2
    · rfl
    · rfl
    · rfl
  rw [stepF_of he (R := none) (loops v c _ _ _)]
  rfl
end Go.Proofs.Ytlknolbfhfcflaa
