/-
  Chapter 15 in plain words, for both sides: messages under way (Mg), Send, Give, Twice, Late, Drop on a list of them; what the laws ask of them. No walk, no number of a seat.
-/
namespace Go.Proofs.Ytnfmhcljncdkgaa
/-- A message: from whom, to whom, its bytes. -/
structure Mg where
  fr : Int
  to : Int
  d : List Int
/-- Which one is picked of so many. -/
def pkN (pick : Int) (n : Nat) : Nat := (max 0 pick).toNat % n
theorem pkN_lt {pick : Int} {n : Nat} (h : 0 < n) : pkN pick n < n := Nat.mod_lt _ h
theorem pkN_small {k n : Nat} (h : k < n) : pkN (k : Int) n = k := by
  unfold pkN
  rw [show (max 0 (k : Int)).toNat = k by omega, Nat.mod_eq_of_lt h]
def sendN (L : List Mg) (m : Mg) : List Mg := if 1024 ≤ L.length then L else L ++ [m]
def sendB (L : List Mg) : Bool := decide (L.length < 1024)
def giveN (L : List Mg) (pick : Int) : List Mg := L.eraseIdx (pkN pick L.length)
def giveM (L : List Mg) (pick : Int) : Option Mg := L[pkN pick L.length]?
def twiceN (L : List Mg) (pick : Int) : List Mg := match giveM L pick with
  | none => L
  | some m => sendN L m
def twiceB (L : List Mg) : Bool := decide (L ≠ []) && sendB L
def lateN (L : List Mg) (pick : Int) : List Mg := match giveM L pick with
  | none => L
  | some m => giveN L pick ++ [m]
def dropN (L : List Mg) (node : Int) : List Mg := L.filter fun m => decide (m.fr ≠ node ∧ m.to ≠ node)
theorem giveM_none {pick : Int} : giveM [] pick = none := rfl
theorem giveM_some {L : List Mg} (h : L ≠ []) (pick : Int) : ∃ m, giveM L pick = some m ∧ m ∈ L := by
  have hl : 0 < L.length := List.length_pos_iff.2 h
  exact ⟨L[pkN pick L.length]'(pkN_lt hl), List.getElem?_eq_getElem (pkN_lt hl), List.getElem_mem _⟩
theorem giveN_nil (pick : Int) : giveN [] pick = [] := rfl
/-- The one that is picked stands between two rows. -/
theorem give_cut {L : List Mg} (h : L ≠ []) (pick : Int) : ∃ A m B, L = A ++ m :: B ∧ A.length = pkN pick L.length ∧ giveM L pick = some m ∧ giveN L pick = A ++ B := by
  have hl := pkN_lt (pick := pick) (List.length_pos_iff.2 h)
  refine ⟨L.take (pkN pick L.length), L[pkN pick L.length], L.drop (pkN pick L.length + 1), ?_, by rw [List.length_take]; omega, List.getElem?_eq_getElem hl, List.eraseIdx_eq_take_drop_succ ..⟩
  rw [← List.drop_eq_getElem_cons hl, List.take_append_drop]
theorem giveN_len {L : List Mg} (h : L ≠ []) (pick : Int) : (giveN L pick).length + 1 = L.length := by
  have hl := pkN_lt (pick := pick) (List.length_pos_iff.2 h)
  unfold giveN
  rw [List.length_eraseIdx]
  rw [if_pos hl]; omega
theorem give_first {m : Mg} {L : List Mg} : giveM (m :: L) 0 = some m ∧ giveN (m :: L) 0 = L := by
  have e : pkN 0 (m :: L).length = 0 := pkN_small (k := 0) (by simp)
  unfold giveM giveN
  rw [e]
  exact ⟨rfl, rfl⟩
theorem twice_cut {A B : List Mg} {m : Mg} (h : (A ++ m :: B).length < 1024) : twiceN (A ++ m :: B) (A.length : Int) = A ++ m :: (B ++ [m]) := by
  have e : giveM (A ++ m :: B) (A.length : Int) = some m := by
    unfold giveM
    rw [pkN_small (by simp)]
    simp
  unfold twiceN
  rw [e]
  show sendN _ m = _
  unfold sendN
  rw [if_neg (by omega)]
  simp
theorem late_cut {A B : List Mg} {m : Mg} : lateN (A ++ m :: B) (A.length : Int) = A ++ (B ++ [m]) := by
  have hk : pkN (A.length : Int) (A ++ m :: B).length = A.length := pkN_small (by simp)
  have e : giveM (A ++ m :: B) (A.length : Int) = some m := by
    unfold giveM
    rw [hk]
    simp
  unfold lateN
  rw [e]
  show giveN _ _ ++ [m] = _
  unfold giveN
  rw [hk, List.eraseIdx_append_of_length_le (Nat.le_refl _)]
  simp
theorem drop_mem {L : List Mg} {node : Int} {m : Mg} : m ∈ dropN L node ↔ m ∈ L ∧ m.fr ≠ node ∧ m.to ≠ node := by
  unfold dropN
  rw [List.mem_filter, decide_eq_true_eq]
theorem drop_len (L : List Mg) (node : Int) : (dropN L node).length ≤ L.length := List.length_filter_le _ _
theorem drop_snoc (L : List Mg) (m : Mg) (node : Int) : dropN (L ++ [m]) node = if m.fr ≠ node ∧ m.to ≠ node then dropN L node ++ [m] else dropN L node := by
  unfold dropN
  rw [List.filter_append]
  by_cases h : m.fr ≠ node ∧ m.to ≠ node
  · rw [if_pos h]; simp [h]
  · rw [if_neg h]
    have e : decide (m.fr ≠ node ∧ m.to ≠ node) = false := decide_eq_false h
    simp only [List.filter_cons, e, List.filter_nil, Bool.false_eq_true, if_false, List.append_nil]
/-- No more than may be. -/
theorem sendN_le {L : List Mg} (m : Mg) (h : L.length ≤ 1024) : (sendN L m).length ≤ 1024 := by
  unfold sendN
  split
  · exact h
  · rw [List.length_append]; simp; omega
theorem twiceN_le {L : List Mg} (pick : Int) (h : L.length ≤ 1024) : (twiceN L pick).length ≤ 1024 := by
  unfold twiceN
  split
  · exact h
  · exact sendN_le _ h
theorem lateN_len (L : List Mg) (pick : Int) : (lateN L pick).length = L.length := by
  by_cases h : L = []
  · subst h; rfl
  · obtain ⟨m, hm, _⟩ := giveM_some h pick
    unfold lateN
    rw [hm]
    show (giveN L pick ++ [m]).length = _
    rw [List.length_append]
    have := giveN_len h pick
    simp; omega
/-- Messages that were sent, numbered. -/
def sentN (l : List (List Int)) (k : Nat) : List Mg := (List.range k).map fun (i : Nat) => ⟨(i : Int), 1, l.getD i []⟩
theorem sentN_succ (l : List (List Int)) (k : Nat) : sentN l (k + 1) = sentN l k ++ [⟨k, 1, l.getD k []⟩] := by simp [sentN, List.range_succ]
theorem sentN_len (l : List (List Int)) (k : Nat) : (sentN l k).length = k := by simp [sentN]
theorem sentN_at (l : List (List Int)) {k i : Nat} (h : i < k) : (sentN l k)[i]? = some ⟨i, 1, l.getD i []⟩ := by simp [sentN, h]
theorem sentN_cut (l : List (List Int)) {n k : Nat} (h : k < n) : ∃ B, sentN l n = sentN l k ++ ⟨k, 1, l.getD k []⟩ :: B ∧ B = (sentN l n).drop (k + 1) := by
  refine ⟨_, ?_, rfl⟩
  have hk : k < (sentN l n).length := by rw [sentN_len]; exact h
  have e1 : (sentN l n).take k = sentN l k := by
    apply List.ext_getElem?
    intro i
    rw [List.getElem?_take]
    by_cases c : i < k
    · rw [if_pos c, sentN_at l (show i < n by omega), sentN_at l c]
    · rw [if_neg c, List.getElem?_eq_none (by rw [sentN_len]; omega)]
  have e2 : (sentN l n)[k] = ⟨k, 1, l.getD k []⟩ := by
    have := sentN_at l h
    rw [List.getElem?_eq_getElem hk] at this
    exact Option.some.inj this
  rw [← e1, ← e2, ← List.drop_eq_getElem_cons hk, List.take_append_drop]
/-- Behind Twice and Late of the k-th of n (NetTwice): all but it in order, then it twice. -/
theorem twice_late (l : List (List Int)) {n k : Nat} (h : k < n) (hn : n < 1024) : lateN (twiceN (sentN l n) (k : Int)) (k : Int) = sentN l k ++ ((sentN l n).drop (k + 1) ++ [⟨k, 1, l.getD k []⟩] ++ [⟨k, 1, l.getD k []⟩]) := by
  obtain ⟨B, hB, hd⟩ := sentN_cut l h
  have hl : (sentN l k ++ (⟨k, 1, l.getD k []⟩ : Mg) :: B).length < 1024 := by rw [← hB, sentN_len]; exact hn
  have e1 : twiceN (sentN l n) (k : Int) = sentN l k ++ (⟨k, 1, l.getD k []⟩ : Mg) :: (B ++ [⟨k, 1, l.getD k []⟩]) := by
    have := twice_cut (A := sentN l k) (B := B) (m := ⟨k, 1, l.getD k []⟩) hl
    rw [sentN_len] at this
    rw [hB]
    exact this
  have e2 := late_cut (A := sentN l k) (B := B ++ [(⟨k, 1, l.getD k []⟩ : Mg)]) (m := ⟨k, 1, l.getD k []⟩)
  rw [sentN_len] at e2
  rw [e1, e2, ← hd]
end Go.Proofs.Ytnfmhcljncdkgaa
