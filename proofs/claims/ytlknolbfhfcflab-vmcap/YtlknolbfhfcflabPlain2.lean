/-
  The laws' games in plain words, more of them: many numbers on the stack, seeds, what is read, the last frame. No walk.
-/
import Derived.Test.YtlknolbfhfcflabPlain
namespace Go.Proofs.Ytlknolbfhfcflab
def vcode (n : Nat) (v : Int) : List Ii := List.replicate n (1, v) ++ [(3, 2)]
theorem vcode_len (n : Nat) (v : Int) : (vcode n v).length = n + 1 := by simp [vcode]
theorem doI_push {fr i0 i1 : Int} {n : Nat} {v : Int} {m : Mp} : doI fr i0 i1 n (1, v) m = m.next.push v := rfl
theorem stack_run (n : Nat) (v : Int) (hn : 1 ≤ n) : ∀ (d j : Nat), n = j + d → j ≤ 32 → ∀ f, d + 1 ≤ f → runI 0 0 0 (vcode n v) f ⟨zeros, 3, List.replicate j v, j, none⟩ = if n ≤ 32 then some ⟨zeros.set 2 v, 3, List.replicate (n - 1) v, n + 1, none⟩ else none
  | 0, j, h, hj, f, hf => by
    obtain rfl : n = j := by omega
    obtain ⟨g, rfl⟩ : ∃ g, f = g + 1 := ⟨f - 1, by omega⟩
    obtain ⟨k, rfl⟩ : ∃ k, n = k + 1 := ⟨n - 1, by omega⟩
    have hx : (vcode (k + 1) v)[k + 1]? = some (3, 2) := by
      rw [vcode, List.getElem?_append_right (by simp)]; simp
    rw [runI_step (x := (3, 2)) g hx, if_pos hj]
    have e : doI 0 0 0 (vcode (k + 1) v).length (3, 2) ⟨zeros, 3, List.replicate (k + 1) v, k + 1, none⟩ = some ⟨zeros.set 2 v, 3, List.replicate k v, k + 1 + 1, none⟩ := rfl
    rw [e]
    show runI 0 0 0 (vcode (k + 1) v) g _ = _
    rw [runI_end g (by rw [vcode_len]; exact Nat.le_refl _)]
    rfl
  | d + 1, j, h, hj, f, hf => by
    obtain ⟨g, rfl⟩ : ∃ g, f = g + 1 := ⟨f - 1, by omega⟩
    have hx : (vcode n v)[j]? = some (1, v) := by
      rw [vcode, List.getElem?_append_left (by simp; omega), List.getElem?_replicate, if_pos (by omega)]
    rw [runI_step (x := (1, v)) g hx, doI_push]
    unfold Mp.push
    by_cases h32 : j < 32
    · rw [if_pos (by show (List.replicate j v).length < 32; simpa using h32)]
      show runI 0 0 0 (vcode n v) g ⟨zeros, 3, v :: List.replicate j v, j + 1, none⟩ = _
      rw [← List.replicate_succ]
      exact stack_run n v hn d (j + 1) (by omega) (by omega) g (by omega)
    · rw [if_neg (by show ¬ (List.replicate j v).length < 32; simpa using h32), if_neg (by omega)]
      rfl
def vst (v : Int) : Sp := ⟨1, [0, 0, v, 0, 0, 0, 0, 0, 0, 0, 0, 0, 0, 0, 0, 0], 3, false, 0⟩
theorem stack_step (n : Nat) (v : Int) (hn : 1 ≤ n ∧ n ≤ 60) (hv : In32 v) : stepF (vcode n v) 5 500 (startS 3) 0 0 = (vst (if n ≤ 32 then v else 0), 0) := by
  have he : stepE (vcode n v) 5 500 (startS 3) = 0 := by
    refine stepE_of (chk_of (by rw [vcode_len]; omega) ?_) (by omega) (by omega) (by omega) (by omega) (by show (0 : Int) ≤ 0; omega) (by show (0 : Int) < 5; omega) rfl rfl (by show (3 : Int) ≠ 0; omega)
    intro x hx
    simp only [vcode, List.mem_append, List.mem_cons, List.not_mem_nil, or_false, List.mem_replicate] at hx
    rcases hx with ⟨_, rfl⟩ | rfl
    · exact may_push _ hv
    · exact may_store _ ⟨by omega, by omega⟩
  have hr := stack_run n v hn.1 n 0 (by omega) (by omega) 500 (by omega)
  rw [stepF_of he (R := if n ≤ 32 then some ⟨zeros.set 2 v, 3, List.replicate (n - 1) v, n + 1, none⟩ else none) hr]
  by_cases h : n ≤ 32
  · rw [if_pos h, if_pos h]; rfl
  · rw [if_neg h, if_neg h]; rfl
theorem vst_wf (v : Int) (hv : In32 v) : (vst v).Wf := by
  refine ⟨rfl, ?_, by show (0 : Int) ≤ 3 ∧ (3 : Int) < 4294967296; omega⟩
  intro x hx
  simp only [vst, List.mem_cons, List.not_mem_nil, or_false, or_self] at hx
  rcases hx with rfl | rfl | rfl | rfl
  all_goals first | exact zero_in | exact hv

/-- A frame that goes on. -/
theorem endS_on {cap : Int} {s : Sp} (h : s.frame + 1 ≠ cap) : endS cap s = { s with frame := s.frame + 1 } := by unfold endS; rw [if_neg (fun e => h e.1)]
def rcode : List Ii := [(21, 0), (3, 4)]
def rst (i x c : Int) : Sp := ⟨i, [0, 0, 0, 0, c, 0, 0, 0, 0, 0, 0, 0, 0, 0, 0, 0], x, false, 0⟩
theorem rand_step (i x c : Int) (hi : 0 ≤ i ∧ i < 60) (hx : x ≠ 0) : stepF rcode 100 9 (rst i x c) 0 0 = (rst (i + 1) (rndI x) (rndI x % 65536), 0) := by
  have he : stepE rcode 100 9 (rst i x c) = 0 := stepE_of rfl (by omega) (by omega) (by omega) (by omega) hi.1 (by show i < 100; omega) rfl rfl hx
  rw [stepF_of he (R := some ⟨[0, 0, 0, 0, rndI x % 65536, 0, 0, 0, 0, 0, 0, 0, 0, 0, 0, 0], rndI x, [], 2, none⟩) rfl]
  show (endS 100 ⟨i, [0, 0, 0, 0, rndI x % 65536, 0, 0, 0, 0, 0, 0, 0, 0, 0, 0, 0], rndI x, false, 0⟩, (0 : Int)) = _
  rw [endS_on (by show i + 1 ≠ 100; omega)]
  rfl
theorem rst_wf (i x c : Int) (hc : In32 c) (hx : 0 ≤ x ∧ x < 4294967296) : (rst i x c).Wf := by
  refine ⟨rfl, ?_, hx⟩
  intro y hy
  simp only [rst, List.mem_cons, List.not_mem_nil, or_false, or_self] at hy
  rcases hy with rfl | rfl | rfl | rfl | rfl | rfl
  all_goals first | exact zero_in | exact hc

def dcode (c : Int) : List Ii := [(16, 0), (3, 0), (16, 1), (3, 1), (17, 0), (3, c)]
theorem reads_step (i : Int) (cs : List Int) (c i0 i1 : Int) (hi : 0 ≤ i ∧ i < 30) (hc : 2 ≤ c ∧ c < 16) : stepF (dcode c) 100 20 ⟨i, cs, 1, false, 0⟩ i0 i1 = (⟨i + 1, ((cs.set 0 i0).set 1 i1).set c.toNat i, 1, false, 0⟩, 0) := by
  have he : stepE (dcode c) 100 20 ⟨i, cs, 1, false, 0⟩ = 0 := by
    refine stepE_of (chk_of (by show 6 ≤ 256; omega) ?_) (by omega) (by omega) (by omega) (by omega) hi.1 (by show i < 100; omega) rfl rfl (by show (1 : Int) ≠ 0; omega)
    intro x hx
    simp only [dcode, List.mem_cons, List.not_mem_nil, or_false] at hx
    rcases hx with rfl | rfl | rfl | rfl | rfl | rfl
    all_goals first | rfl | exact may_store _ ⟨by omega, by omega⟩
  rw [stepF_of he (R := some ⟨((cs.set 0 i0).set 1 i1).set c.toNat i, 1, [], 6, none⟩) rfl]
  show (endS 100 ⟨i, ((cs.set 0 i0).set 1 i1).set c.toNat i, 1, false, 0⟩, (0 : Int)) = _
  rw [endS_on (by show i + 1 ≠ 100; omega)]

def ccode (a b : Int) : List Ii := [(1, a), (3, 0), (1, b), (3, 1)]
def wcode (a b k : Int) : List Ii := [(1, a), (3, 0), (1, b), (3, 1), (20, k)]
def cst (i : Int) (a b : Int) (o : Bool) (k : Int) : Sp := ⟨i, [a, b, 0, 0, 0, 0, 0, 0, 0, 0, 0, 0, 0, 0, 0, 0], 1, o, k⟩
theorem cap_on (i x y a b cap : Int) (hi : 0 ≤ i ∧ i + 1 < cap) (hcap : cap ≤ 40) (ha : In32 a) (hb : In32 b) : stepF (ccode a b) cap 20 (cst i x y false 0) 0 0 = (cst (i + 1) a b false 0, 0) := by
  have he : stepE (ccode a b) cap 20 (cst i x y false 0) = 0 := by
    refine stepE_of (chk_of (by show 4 ≤ 256; omega) ?_) (by omega) (by omega) (by omega) (by omega) hi.1 (by show i < cap; omega) rfl rfl (by show (1 : Int) ≠ 0; omega)
    intro z hz
    simp only [ccode, List.mem_cons, List.not_mem_nil, or_false] at hz
    rcases hz with rfl | rfl | rfl | rfl
    all_goals first | rfl | exact may_push _ ha | exact may_push _ hb
  rw [stepF_of he (R := some ⟨[a, b, 0, 0, 0, 0, 0, 0, 0, 0, 0, 0, 0, 0, 0, 0], 1, [], 4, none⟩) rfl]
  show (endS cap (cst i a b false 0), (0 : Int)) = _
  rw [endS_on (by show i + 1 ≠ cap; omega)]
  rfl
theorem cap_last (i x y a b cap : Int) (hi : 0 ≤ i ∧ i + 1 = cap) (hcap : cap ≤ 40) (ha : In32 a) (hb : In32 b) : stepF (ccode a b) cap 20 (cst i x y false 0) 0 0 = (cst (i + 1) a b true (moreI a b), 0) := by
  have he : stepE (ccode a b) cap 20 (cst i x y false 0) = 0 := by
    refine stepE_of (chk_of (by show 4 ≤ 256; omega) ?_) (by omega) (by omega) (by omega) (by omega) hi.1 (by show i < cap; omega) rfl rfl (by show (1 : Int) ≠ 0; omega)
    intro z hz
    simp only [ccode, List.mem_cons, List.not_mem_nil, or_false] at hz
    rcases hz with rfl | rfl | rfl | rfl
    all_goals first | rfl | exact may_push _ ha | exact may_push _ hb
  rw [stepF_of he (R := some ⟨[a, b, 0, 0, 0, 0, 0, 0, 0, 0, 0, 0, 0, 0, 0, 0], 1, [], 4, none⟩) rfl]
  show (endS cap (cst i a b false 0), (0 : Int)) = _
  unfold endS
  rw [if_pos ⟨hi.2, rfl⟩]
  rfl
theorem win_step (x y a b k cap : Int) (hk : 0 ≤ k ∧ k ≤ 2) (hcap : 1 ≤ cap ∧ cap ≤ 40) (ha : In32 a) (hb : In32 b) : stepF (wcode a b k) cap 20 (cst 0 x y false 0) 0 0 = (cst 1 a b true k, 0) := by
  have he : stepE (wcode a b k) cap 20 (cst 0 x y false 0) = 0 := by
    refine stepE_of (chk_of (by show 5 ≤ 256; omega) ?_) (by omega) (by omega) (by omega) (by omega) (by show (0 : Int) ≤ 0; omega) (by show (0 : Int) < cap; omega) rfl rfl (by show (1 : Int) ≠ 0; omega)
    intro z hz
    simp only [wcode, List.mem_cons, List.not_mem_nil, or_false] at hz
    rcases hz with rfl | rfl | rfl | rfl | rfl
    all_goals first | rfl | exact may_push _ ha | exact may_push _ hb | (show decide (0 ≤ k ∧ k ≤ 2) = true; simp only [decide_eq_true_eq]; exact hk)
  rw [stepF_of he (R := some ⟨[a, b, 0, 0, 0, 0, 0, 0, 0, 0, 0, 0, 0, 0, 0, 0], 1, [], 5, some k⟩) rfl]
  show (endS cap (cst 0 a b true k), (0 : Int)) = _
  unfold endS
  rw [if_neg (fun e => by cases e.2)]
  rfl
theorem over_step (l : List Ii) (hl : (chk l).2 = 0) (s : Sp) (cap : Int) (hcap : 1 ≤ cap ∧ cap ≤ 40) (hs : isS s = true) (hseed : s.seed ≠ 0) (ho : s.over = true) : stepF l cap 20 s 0 0 = (noS, 12) := by
  have hg : chkG l cap 20 = 0 := by unfold chkG; rw [if_neg (by omega), if_neg (by omega)]
  have he : stepE l cap 20 s = 12 := by
    unfold stepE
    rw [if_neg (by omega), if_neg (by rw [hs]; simp [hseed]), if_pos (Or.inl ho)]
  unfold stepF
  rw [he, if_neg (by omega)]
theorem cst_wf (i a b : Int) (o : Bool) (k : Int) (ha : In32 a) (hb : In32 b) : (cst i a b o k).Wf := by
  refine ⟨rfl, ?_, by show (0 : Int) ≤ 1 ∧ (1 : Int) < 4294967296; omega⟩
  intro x hx
  simp only [cst, List.mem_cons, List.not_mem_nil, or_false, or_self] at hx
  rcases hx with rfl | rfl | rfl
  · exact ha
  · exact hb
  · exact zero_in
end Go.Proofs.Ytlknolbfhfcflab
