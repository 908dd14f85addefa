/-
  Joined from: DecP.
-/
import Derived.Test.YtbfldcieibdapabGreatM15
import Derived.Test.YtbfldcieibdapabGreatM07
section
/-
  A State as bytes, in plain words: what Decode takes (decP), what Encode lays (encS); what is read is written so. Plain facts; no walk.
-/
namespace Go.Proofs.YtbfldcieibdapabGreat.Oc
theorem fold_unfold (u : Nat) : foldI (unfoldI u) = u := by
  by_cases h : u % 2 = 1
  · rw [unfoldI_odd h, foldI_neg (by omega)]; omega
  · rw [unfoldI_even h, foldI_pos (by omega)]; omega
theorem numR_canon : ∀ (f k u : Nat) (zs r : List Int) (v : Int), f + k = 9 → Byt zs → numR (f + 1) k u zs = (v, r, 0) → ∃ t : Nat, zs = numB f t ++ r ∧ v = unfoldI (u + t * 128 ^ k) ∧ (k ≠ 0 → 1 ≤ t) ∧ t < 2 * 128 ^ f
  | f, k, u, [], r, v, _, _, h => by simp [numR] at h
  | f, k, u, z :: zs, r, v, hk, hb, h => by
    obtain ⟨z0, z1⟩ := hb z (by simp)
    by_cases hz : 128 ≤ z
    · rw [numR_more hz] at h
      cases f with
      | zero => simp [numR] at h
      | succ f =>
        obtain ⟨t, h1, h2, h3, h4⟩ := numR_canon f (k + 1) _ zs r v (by omega) (fun y hy => hb y (by simp [hy])) h
        have h3' := h3 (by omega)
        refine ⟨z.toNat % 128 + 128 * t, ?_, ?_, fun _ => by omega, ?_⟩
        · have hn : ¬ (((z.toNat % 128 + 128 * t : Nat) : Int) < 128) := by omega
          rw [numB_more f _ hn]
          have e1 : (((z.toNat % 128 + 128 * t : Nat) : Int)) / 128 = t := by omega
          have e2 : (((z.toNat % 128 + 128 * t : Nat) : Int)) % 128 + 128 = z := by omega
          rw [e1, e2, h1]
          rfl
        · rw [h2, Nat.add_mul, Nat.pow_succ, Nat.add_assoc]
          congr 2
          rw [Nat.mul_comm 128 t, Nat.mul_assoc, Nat.mul_comm (128 ^ k) 128]
        · rw [Nat.pow_succ]
          omega
    · by_cases hbad : badB k z = true
      · rw [numR_bad hz hbad] at h
        simp at h
      · have hbad' : badB k z = false := by simpa using hbad
        rw [numR_good hz hbad'] at h
        simp only [Prod.mk.injEq, and_true] at h
        obtain ⟨rfl, rfl⟩ := h
        simp only [badB, Bool.or_eq_false_iff, Bool.and_eq_false_iff, decide_eq_false_iff_not] at hbad'
        refine ⟨z.toNat, ?_, rfl, fun h0 => ?_, ?_⟩
        · have e : ((z.toNat : Nat) : Int) = z := by omega
          rw [e, numB_small f z (by omega)]
          rfl
        · omega
        · cases f with
          | zero =>
            have : k = 9 := by omega
            simp only [Nat.pow_zero]
            omega
          | succ f =>
            have : 1 ≤ 128 ^ f := Nat.one_le_pow _ _ (by decide)
            rw [Nat.pow_succ]
            omega
theorem numR_back {zs r : List Int} {v : Int} (hb : Byt zs) (h : numR 10 0 0 zs = (v, r, 0)) : zs = numOf v ++ r := by
  obtain ⟨t, h1, h2, _, _⟩ := numR_canon 9 0 0 zs r v rfl hb h
  simp only [Nat.zero_add, Nat.pow_zero, Nat.mul_one] at h2
  rw [numOf, h2, fold_unfold]
  exact h1
theorem numR_rest {zs : List Int} (hb : Byt zs) (h : (numR 10 0 0 zs).2.2 = 0) : zs = numOf (numR 10 0 0 zs).1 ++ (numR 10 0 0 zs).2.1 := by
  refine numR_back hb ?_
  rw [← h]
theorem numR_byt (f k u : Nat) (zs : List Int) (h : Byt zs) : Byt (numR f k u zs).2.1 ∧ (numR f k u zs).2.1.length ≤ zs.length := by
  induction f generalizing k u zs with
  | zero => exact ⟨fun z hz => (by cases hz), by simp [numR]⟩
  | succ f ih =>
    cases zs with
    | nil => exact ⟨fun z hz => (by cases hz), by simp [numR]⟩
    | cons z r =>
      have hr : Byt r := fun y hy => h y (by simp [hy])
      by_cases hz : 128 ≤ z
      · rw [numR_more hz]
        have := ih (k + 1) (u + (z.toNat % 128) * 128 ^ k) r hr
        exact ⟨this.1, by have := this.2; simp only [List.length_cons]; omega⟩
      · cases hb : badB k z with
        | true => rw [numR_bad hz hb]; exact ⟨fun z hz => (by cases hz), by simp⟩
        | false => rw [numR_good hz hb]; exact ⟨hr, by simp⟩

end Go.Proofs.YtbfldcieibdapabGreat.Oc
namespace Go.Proofs.YtbfldcieibdapabGreat
open Oc
def z4 : List Int := [0, 0, 0, 0]
def sgnI (x : Int) : Int := IntKind.i32.wrap x
/-- The first k numbers of four bytes, the rest, the error. -/
def fk : Nat → List Int → Int → List Int × List Int × Int
  | 0, zs, e => ([], zs, e)
  | k + 1, zs, e => ((fk k zs e).1 ++ [sgnI (fourV (rowR z4 (fk k zs e).2.1 (fk k zs e).2.2).1)], (rowR z4 (fk k zs e).2.1 (fk k zs e).2.2).2.1, (rowR z4 (fk k zs e).2.1 (fk k zs e).2.2).2.2)
theorem fk_len (zs : List Int) (e : Int) : ∀ k, (fk k zs e).1.length = k
  | 0 => rfl
  | k + 1 => by rw [fk, List.length_append, fk_len zs e k]; rfl
theorem z4_byt : Byt z4 := by intro z hz; simp [z4] at hz; omega
theorem fk_byt {zs : List Int} (e : Int) (hz : Byt zs) : ∀ k, Byt (fk k zs e).2.1
  | 0 => hz
  | k + 1 => (rowR_byt z4_byt (fk_byt e hz k)).2
theorem sgnI_in (x : Int) : In32 (sgnI x) := by
  unfold sgnI In32
  simp [IntKind.wrap, IntKind.bits, IntKind.signed]
  omega
theorem fk_in (zs : List Int) (e : Int) : ∀ k, ∀ x ∈ (fk k zs e).1, In32 x
  | 0, x, hx => by cases hx
  | k + 1, x, hx => by
    rw [fk] at hx
    rcases List.mem_append.1 hx with h | h
    · exact fk_in zs e k x h
    · rw [List.mem_singleton.1 h]; exact sgnI_in _
/-- What is taken, one behind the other. -/
def dA (zs : List Int) := numR 10 0 0 zs
def dB (zs : List Int) := fk 16 (dA zs).2.1 (dA zs).2.2
def dC (zs : List Int) := rowR z4 (dB zs).2.1 (dB zs).2.2
def dD (zs : List Int) := rowR [0] (dC zs).2.1 (dC zs).2.2
def dG (zs : List Int) := rowR [0] (dD zs).2.1 (dD zs).2.2
def dOv (zs : List Int) : Int := (dD zs).1.getD 0 0
def dS (zs : List Int) : Sp := ⟨(dA zs).1, (dB zs).1, fourV (dC zs).1, decide (dOv zs = 1), (dG zs).1.getD 0 0⟩
def dE (zs : List Int) : Int := endR (dG zs).2.1 (dG zs).2.2
def decP (zs : List Int) : Sp × Int := if dE zs ≠ 0 then (noS, dE zs) else if 1 < dOv zs ∨ isS (dS zs) = false then (noS, 3) else (dS zs, 0)
def uI (x : Int) : Int := IntKind.u32.wrap x
def encC (cs : List Int) : List Int := cs.flatMap fun c => fourB (uI c)
def encS (s : Sp) : List Int := numOf s.frame ++ (encC s.cells ++ (fourB s.seed ++ [(if s.over = true then 1 else 0), s.win % 256]))
theorem rowR_ok {ys zs : List Int} {e : Int} (h : (rowR ys zs e).2.2 = 0) : e = 0 ∧ ys.length ≤ zs.length ∧ (rowR ys zs e).1 = zs.take ys.length ∧ (rowR ys zs e).2.1 = zs.drop ys.length := by
  by_cases he : e = 0
  · subst he
    by_cases hl : ys.length ≤ zs.length
    · rw [rowR_yes hl]; exact ⟨rfl, hl, rfl, rfl⟩
    · rw [rowR_no hl] at h; cases h
  · rw [rowR_err he] at h; exact absurd h he
theorem four4 {l : List Int} (h : l.length = 4) (hb : Byt l) : fourB (fourV l) = l ∧ 0 ≤ fourV l ∧ fourV l < 4294967296 := by
  match l, h with
  | [a, b, c, d], _ =>
    have h1 := hb a (by simp)
    have h2 := hb b (by simp)
    have h3 := hb c (by simp)
    have h4 := hb d (by simp)
    simp only [fourV, List.getD_cons_zero, List.getD_cons_succ, fourB]
    refine ⟨?_, by omega, by omega⟩
    simp only [List.cons.injEq, and_true]
    refine ⟨by omega, by omega, by omega, by omega⟩
theorem uI_sgnI {x : Int} (h0 : 0 ≤ x) (h1 : x < 4294967296) : uI (sgnI x) = x := by
  unfold uI sgnI
  simp [IntKind.wrap, IntKind.bits, IntKind.signed]
  omega
theorem encC_append (a b : List Int) : encC (a ++ b) = encC a ++ encC b := by simp [encC]
theorem fk_back {zs : List Int} (hz : Byt zs) : ∀ k, (fk k zs 0).2.2 = 0 → zs = encC (fk k zs 0).1 ++ (fk k zs 0).2.1
  | 0, _ => rfl
  | k + 1, h => by
    rw [fk] at h
    obtain ⟨h1, h2, h3, h4⟩ := rowR_ok h
    have ih := fk_back hz k h1
    have hb := fk_byt 0 hz k
    have hl : ((fk k zs 0).2.1.take z4.length).length = 4 := by rw [List.length_take]; simp [z4] at h2 ⊢; omega
    have hf := four4 hl (fun z hz2 => hb z (List.mem_of_mem_take hz2))
    rw [fk]
    show zs = encC ((fk k zs 0).1 ++ [sgnI (fourV (rowR z4 (fk k zs 0).2.1 (fk k zs 0).2.2).1)]) ++ (rowR z4 (fk k zs 0).2.1 (fk k zs 0).2.2).2.1
    rw [h3, h4, encC_append]
    have e1 : encC [sgnI (fourV ((fk k zs 0).2.1.take z4.length))] = (fk k zs 0).2.1.take z4.length := by
      simp only [encC, List.flatMap_cons, List.flatMap_nil, List.append_nil]
      rw [uI_sgnI hf.2.1 hf.2.2]
      exact hf.1
    rw [e1, List.append_assoc, List.take_append_drop]
    exact ih
theorem dec_back {zs : List Int} (hz : Byt zs) (h : (decP zs).2 = 0) : encS (decP zs).1 = zs := by
  unfold decP at h ⊢
  by_cases h1 : dE zs ≠ 0
  · rw [if_pos h1] at h; exact absurd h h1
  · rw [if_neg h1] at h ⊢
    by_cases h2 : 1 < dOv zs ∨ isS (dS zs) = false
    · rw [if_pos h2] at h; cases h
    · rw [if_neg h2]
      have hE : dE zs = 0 := by omega
      have h3 : (dG zs).2.2 = 0 ∧ (dG zs).2.1 = [] := by
        unfold dE endR at hE
        by_cases hc : (dG zs).2.2 = 0 ∧ (dG zs).2.1 ≠ []
        · rw [if_pos hc] at hE; cases hE
        · rw [if_neg hc] at hE
          refine ⟨hE, ?_⟩
          by_cases hn : (dG zs).2.1 = []
          · exact hn
          · exact absurd ⟨hE, hn⟩ hc
      obtain ⟨g1, g2, g3, g4⟩ := rowR_ok (ys := [0]) h3.1
      obtain ⟨d1, d2, d3, d4⟩ := rowR_ok (ys := [0]) g1
      obtain ⟨c1, c2, c3, c4⟩ := rowR_ok (ys := z4) d1
      have hA : (dA zs).2.2 = 0 := by
        have : ∀ k, (fk k (dA zs).2.1 (dA zs).2.2).2.2 = 0 → (dA zs).2.2 = 0 := by
          intro k
          induction k with
          | zero => exact fun h => h
          | succ k ih => exact fun h => ih (rowR_ok (by rw [fk] at h; exact h)).1
        exact this 16 c1
      have hnA := numR_rest hz hA
      have hbA : Byt (dA zs).2.1 := fun z hz2 => hz z (by rw [hnA]; exact List.mem_append_right _ hz2)
      have c1' := c1
      unfold dB at c1'
      rw [hA] at c1'
      have hF := fk_back hbA 16 c1'
      have hdB : dB zs = fk 16 (dA zs).2.1 0 := by unfold dB; rw [hA]
      rw [← hdB] at hF
      have hbB : Byt (dB zs).2.1 := by rw [hdB]; exact fk_byt 0 hbA 16
      have hl4 : ((dB zs).2.1.take z4.length).length = 4 := by rw [List.length_take]; simp [z4] at c2 ⊢; omega
      have hf4 := four4 hl4 (fun z hz2 => hbB z (List.mem_of_mem_take hz2))
      have hC : (dC zs).1 = (dB zs).2.1.take z4.length := c3
      have hC2 : (dC zs).2.1 = (dB zs).2.1.drop z4.length := c4
      have hbC : Byt (dC zs).2.1 := by rw [hC2]; exact fun z hz2 => hbB z (List.mem_of_mem_drop hz2)
      have hD : (dD zs).1 = (dC zs).2.1.take 1 := d3
      have hD2 : (dD zs).2.1 = (dC zs).2.1.drop 1 := d4
      have hbD : Byt (dD zs).2.1 := by rw [hD2]; exact fun z hz2 => hbC z (List.mem_of_mem_drop hz2)
      have hG : (dG zs).1 = (dD zs).2.1.take 1 := g3
      have hG2 : (dG zs).2.1 = (dD zs).2.1.drop 1 := g4
      rw [h3.2] at hG2
      obtain ⟨o, r1, ho⟩ : ∃ o r, (dC zs).2.1 = o :: r := by
        cases hq : (dC zs).2.1 with
        | nil => rw [hq] at d2; simp at d2
        | cons o r => exact ⟨o, r, rfl⟩
      obtain ⟨x, r2, hx⟩ : ∃ x r, (dD zs).2.1 = x :: r := by
        cases hq : (dD zs).2.1 with
        | nil => rw [hq] at g2; simp at g2
        | cons o r => exact ⟨o, r, rfl⟩
      rw [hx] at hG2 hG
      have hr2 : r2 = [] := hG2.symm
      rw [ho] at hD hD2
      have hr1 : r1 = [x] := by rw [hx, hr2] at hD2; exact hD2.symm
      have hov : dOv zs = o := by unfold dOv; rw [hD]; rfl
      have hwn : (dG zs).1.getD 0 0 = x := by rw [hG]; rfl
      have hob := hbC o (by rw [ho]; simp)
      have hxb := hbD x (by rw [hx]; simp)
      have ho1 : ¬ 1 < o := fun e => h2 (Or.inl (by rw [hov]; exact e))
      have hbyte : (if decide (dOv zs = 1) = true then (1 : Int) else 0) = o := by
        rw [hov]
        by_cases e : o = 1
        · simp [e]
        · simp [e]; omega
      show numOf (dA zs).1 ++ (encC (dB zs).1 ++ (fourB (fourV (dC zs).1) ++ [(if decide (dOv zs = 1) = true then 1 else 0), (dG zs).1.getD 0 0 % 256])) = zs
      rw [hbyte, hwn, hC, hf4.1]
      have e1 : [o, x % 256] = (dC zs).2.1 := by rw [ho, hr1, show x % 256 = x by omega]
      rw [e1, hC2, List.take_append_drop, ← hF]
      exact hnA.symm
theorem dA_byt {zs : List Int} (hz : Byt zs) : Byt (dA zs).2.1 := (numR_byt 10 0 0 zs hz).1
theorem dB_byt {zs : List Int} (hz : Byt zs) : Byt (dB zs).2.1 := fk_byt _ (dA_byt hz) 16
theorem dC_byt {zs : List Int} (hz : Byt zs) : Byt (dC zs).1 ∧ Byt (dC zs).2.1 := rowR_byt z4_byt (dB_byt hz)
theorem one_byt : Byt [0] := by intro z hz; simp at hz; omega
theorem dD_byt {zs : List Int} (hz : Byt zs) : Byt (dD zs).1 ∧ Byt (dD zs).2.1 := rowR_byt one_byt (dC_byt hz).2
theorem dG_byt {zs : List Int} (hz : Byt zs) : Byt (dG zs).1 ∧ Byt (dG zs).2.1 := rowR_byt one_byt (dD_byt hz).2
theorem dC_in {zs : List Int} (hz : Byt zs) : 0 ≤ fourV (dC zs).1 ∧ fourV (dC zs).1 < 4294967296 := (four4 (rowR_len z4 _ _) (dC_byt hz).1).2
theorem getD_byt {l : List Int} (h : Byt l) : 0 ≤ l.getD 0 0 ∧ l.getD 0 0 < 256 := by
  cases l with
  | nil => simp
  | cons x l => exact h x (by simp)
theorem dS_wf {zs : List Int} (hz : Byt zs) : (dS zs).Wf := ⟨fk_len _ _ 16, fk_in _ _ 16, dC_in hz⟩
theorem decP_wf {zs : List Int} (hz : Byt zs) : (decP zs).1.Wf := by
  unfold decP
  split
  · exact noS_wf
  · split
    · exact noS_wf
    · exact dS_wf hz
/-- The state behind k numbers. -/
def cellsK (zs : List Int) (k : Nat) : List Int := (fk k (dA zs).2.1 (dA zs).2.2).1 ++ List.replicate (16 - k) 0
theorem cellsK_len (zs : List Int) {k : Nat} (hk : k ≤ 16) : (cellsK zs k).length = 16 := by
  unfold cellsK
  rw [List.length_append, fk_len, List.length_replicate]; omega
theorem cellsK_zero (zs : List Int) : cellsK zs 0 = zeros := rfl
theorem cellsK_end (zs : List Int) : cellsK zs 16 = (dB zs).1 := by
  unfold cellsK dB
  simp
theorem cellsK_step (zs : List Int) {k : Nat} (hk : k < 16) : (cellsK zs k).set k (sgnI (fourV (rowR z4 (fk k (dA zs).2.1 (dA zs).2.2).2.1 (fk k (dA zs).2.1 (dA zs).2.2).2.2).1)) = cellsK zs (k + 1) := by
  unfold cellsK
  obtain ⟨m, hm⟩ : ∃ m, 16 - k = m + 1 := ⟨15 - k, by omega⟩
  rw [hm, List.replicate_succ, show 16 - (k + 1) = m by omega, fk]
  rw [List.set_append_right _ _ (by rw [fk_len]; exact Nat.le_refl _), fk_len, Nat.sub_self, List.set_cons_zero, List.append_assoc]
  rfl
end Go.Proofs.YtbfldcieibdapabGreat
end
