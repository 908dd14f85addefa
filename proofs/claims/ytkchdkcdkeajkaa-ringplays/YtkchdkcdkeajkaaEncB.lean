/-
  A state's bytes, and back. No walk.
-/
import Derived.Test.YtkchdkcdkeajkaaEncW
namespace Go.Proofs.Ytkchdkcdkeajkaa
open Oc
theorem fourV_fourB (x : Int) (h0 : 0 ≤ x) (h1 : x < 4294967296) : fourV (fourB x) = x := by
  simp only [fourV, fourB, List.getD_cons_zero, List.getD_cons_succ]
  omega
theorem uI_in (c : Int) : 0 ≤ uI c ∧ uI c < 4294967296 := by
  unfold uI
  simp [IntKind.wrap, IntKind.bits, IntKind.signed]
  omega
theorem sgnI_uI {c : Int} (h : In32 c) : sgnI (uI c) = c := by
  unfold In32 at h
  unfold sgnI uI
  simp [IntKind.wrap, IntKind.bits, IntKind.signed]
  split <;> omega
theorem snoc_of {cs : List Int} {k : Nat} (h : cs.length = k + 1) : ∃ a c, cs = a ++ [c] ∧ a.length = k := by
  have hne : cs ≠ [] := by intro e; rw [e] at h; cases h
  exact ⟨cs.dropLast, cs.getLast hne, (List.dropLast_concat_getLast hne).symm, by rw [List.length_dropLast]; omega⟩
theorem fk_enc : ∀ (k : Nat) (cs r : List Int), cs.length = k → (∀ x ∈ cs, In32 x) → fk k (encC cs ++ r) 0 = (cs, r, 0)
  | 0, cs, r, h, _ => by
    obtain rfl := List.eq_nil_of_length_eq_zero h
    rfl
  | k + 1, cs, r, h, hin => by
    obtain ⟨a, c, rfl, ha⟩ := snoc_of h
    have e1 : encC (a ++ [c]) ++ r = encC a ++ (fourB (uI c) ++ r) := by rw [encC_append, List.append_assoc]; simp [encC]
    rw [e1, fk, fk_enc k a (fourB (uI c) ++ r) ha (fun x hx => hin x (List.mem_append_left _ hx))]
    have hl : z4.length ≤ (fourB (uI c) ++ r).length := by simp [z4, fourB]
    rw [rowR_yes hl]
    have h4 : (fourB (uI c) ++ r).take z4.length = fourB (uI c) := by simp [z4, fourB]
    have h5 : (fourB (uI c) ++ r).drop z4.length = r := by simp [z4, fourB]
    have hu := uI_in c
    simp only [h4, h5, fourV_fourB _ hu.1 hu.2, sgnI_uI (hin c (by simp))]
theorem enc_back {s : Sp} (hs : s.Wf) (h : isS s = true) : decP (encS s) = (s, 0) := by
  have hi := h
  simp only [isS, decide_eq_true_eq] at hi
  obtain ⟨fr, cells, seed, over, win⟩ := s
  simp only at hi
  have hc : cells.length = 16 := hs.cells
  have hsd : 0 ≤ seed ∧ seed < 4294967296 := hs.seed
  have hA : dA (encS ⟨fr, cells, seed, over, win⟩) = (fr, encC cells ++ (fourB seed ++ [(if over = true then 1 else 0), win % 256]), 0) := numR_numOf fr _ (by omega) (by omega)
  have hB : dB (encS ⟨fr, cells, seed, over, win⟩) = (cells, fourB seed ++ [(if over = true then 1 else 0), win % 256], 0) := by
    unfold dB; rw [hA]; exact fk_enc 16 cells _ hc hs.cin
  have hC : dC (encS ⟨fr, cells, seed, over, win⟩) = (fourB seed, [(if over = true then 1 else 0), win % 256], 0) := by
    unfold dC; rw [hB, rowR_yes (by simp [z4, fourB])]; simp [z4, fourB]
  have hD : dD (encS ⟨fr, cells, seed, over, win⟩) = ([if over = true then 1 else 0], [win % 256], 0) := by
    unfold dD; rw [hC, rowR_yes (by simp)]; simp
  have hG : dG (encS ⟨fr, cells, seed, over, win⟩) = ([win % 256], [], 0) := by
    unfold dG; rw [hD, rowR_yes (by simp)]; simp
  have hE : dE (encS ⟨fr, cells, seed, over, win⟩) = 0 := by unfold dE; rw [hG]; simp [endR]
  have hO : dOv (encS ⟨fr, cells, seed, over, win⟩) = if over = true then 1 else 0 := by unfold dOv; rw [hD]; rfl
  have hS : dS (encS ⟨fr, cells, seed, over, win⟩) = ⟨fr, cells, seed, over, win⟩ := by
    unfold dS
    rw [hA, hB, hC, hG, hO, fourV_fourB _ hsd.1 hsd.2]
    have e1 : decide ((if over = true then (1 : Int) else 0) = 1) = over := by cases over <;> rfl
    have e2 : win % 256 = win := by omega
    rw [e1, e2]
    rfl
  unfold decP
  rw [hE, if_neg (by simp), hO, hS, h, if_neg]
  cases over <;> simp
theorem encS_byt {s : Sp} (h0 : -9223372036854775808 ≤ s.frame) (h1 : s.frame ≤ 9223372036854775807) : Byt (encS s) := by
  have four : ∀ x : Int, Byt (fourB x) := by
    intro x z hz
    simp only [fourB, List.mem_cons, List.not_mem_nil, or_false] at hz
    omega
  intro z hz
  unfold encS at hz
  simp only [List.mem_append, List.mem_cons, List.not_mem_nil, or_false] at hz
  rcases hz with hz | hz | hz | hz | hz
  · exact numOf_byt s.frame h0 h1 z hz
  · unfold encC at hz
    obtain ⟨c, _, hc⟩ := List.mem_flatMap.1 hz
    exact four _ z hc
  · exact four _ z hz
  · rw [hz]; split <;> omega
  · omega
theorem encS_len (s : Sp) (hs : s.Wf) : (encS s).length ≤ 100 := by
  have h9 := numOf_length s.frame
  unfold encS
  simp only [List.length_append, encC_len, hs.cells, fourB, List.length_cons, List.length_nil]
  omega
end Go.Proofs.Ytkchdkcdkeajkaa
