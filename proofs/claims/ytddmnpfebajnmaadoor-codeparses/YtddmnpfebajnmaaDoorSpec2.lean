/-
  Bytes that are read as a program are that program's bytes. Plain facts; no walk.
-/
import Derived.Test.YtddmnpfebajnmaaDoorSpec
import Derived.Test.YtddmnpfebajnmaaDoorSum
namespace Go.Proofs.YtddmnpfebajnmaaDoor
theorem fold_unfold (u : Nat) : foldI (unfoldI u) = u := by
  by_cases h : u % 2 = 1
  · rw [unfoldI_odd h, foldI_neg (by omega)]; omega
  · rw [unfoldI_even h, foldI_pos (by omega)]; omega
theorem numR_canon : ∀ (f k u : Nat) (zs r : List Int) (v : Int), f + k = 9 → Byt zs → numR (f + 1) k u zs = (v, r, 0) → ∃ t : Nat, zs = numB f t ++ r ∧ v = unfoldI (u + t * 128 ^ k) ∧ (k ≠ 0 → 1 ≤ t) ∧ t < 2 * 128 ^ f
  | f, k, u, [], r, v, _, _, h => by simp [numR] at h
  | f, k, u, z :: zs, r, v, hk, hb, h => by
    obtain ⟨z0, z1⟩ := hb z (by simp)
    by_cases hz : 128 ≤ z
    · rw [numR_more hz] at h
      cases f with
      | zero => simp [numR] at h
      | succ f =>
        obtain ⟨t, h1, h2, h3, h4⟩ := numR_canon f (k + 1) _ zs r v (by omega) (fun y hy => hb y (by simp [hy])) h
        have h3' := h3 (by omega)
        refine ⟨z.toNat % 128 + 128 * t, ?_, ?_, fun _ => by omega, ?_⟩
        · have hn : ¬ (((z.toNat % 128 + 128 * t : Nat) : Int) < 128) := by omega
          rw [numB_more f _ hn]
          have e1 : (((z.toNat % 128 + 128 * t : Nat) : Int)) / 128 = t := by omega
          have e2 : (((z.toNat % 128 + 128 * t : Nat) : Int)) % 128 + 128 = z := by omega
          rw [e1, e2, h1]
          rfl
        · rw [h2, Nat.add_mul, Nat.pow_succ, Nat.add_assoc]
          congr 2
          rw [Nat.mul_comm 128 t, Nat.mul_assoc, Nat.mul_comm (128 ^ k) 128]
        · rw [Nat.pow_succ]
          omega
    · by_cases hbad : badB k z = true
      · rw [numR_bad hz hbad] at h
        simp at h
      · have hbad' : badB k z = false := by simpa using hbad
        rw [numR_good hz hbad'] at h
        simp only [Prod.mk.injEq, and_true] at h
        obtain ⟨rfl, rfl⟩ := h
        simp only [badB, Bool.or_eq_false_iff, Bool.and_eq_false_iff, decide_eq_false_iff_not] at hbad'
        refine ⟨z.toNat, ?_, rfl, fun h0 => ?_, ?_⟩
        · have e : ((z.toNat : Nat) : Int) = z := by omega
          rw [e, numB_small f z (by omega)]
          rfl
        · omega
        · cases f with
          | zero =>
            have : k = 9 := by omega
            simp only [Nat.pow_zero]
            omega
          | succ f =>
            have : 1 ≤ 128 ^ f := Nat.one_le_pow _ _ (by decide)
            rw [Nat.pow_succ]
            omega
theorem numR_back {zs r : List Int} {v : Int} (hb : Byt zs) (h : numR 10 0 0 zs = (v, r, 0)) : zs = numOf v ++ r := by
  obtain ⟨t, h1, h2, _, _⟩ := numR_canon 9 0 0 zs r v rfl hb h
  simp only [Nat.zero_add, Nat.pow_zero, Nat.mul_one] at h2
  rw [numOf, h2, fold_unfold]
  exact h1
theorem numR_rest {zs : List Int} (hb : Byt zs) (h : (numR 10 0 0 zs).2.2 = 0) : zs = numOf (numR 10 0 0 zs).1 ++ (numR 10 0 0 zs).2.1 := by
  refine numR_back hb ?_
  rw [← h]
theorem takeN_back : ∀ (n : Nat) (zs : List Int) (l : List Ii), Byt zs → takeN n zs = .ok l → zs = bodyB l ∧ l.length = n
  | 0, zs, l, _, h => by
    rw [takeN] at h
    split at h
    · rename_i hz
      simp only [Except.ok.injEq] at h
      subst h
      exact ⟨hz, rfl⟩
    · cases h
  | n + 1, [], l, _, h => by cases h
  | n + 1, z :: zs, l, hb, h => by
    have hb' : Byt zs := fun y hy => hb y (by simp [hy])
    rw [takeN] at h
    split at h
    · rename_i ho
      have ho' := opI_iff.1 ho
      split at h
      · rename_i ha
        split at h
        · rename_i he
          have hr := numR_rest hb' he
          cases ht : takeN n (numR 10 0 0 zs).2.1 with
          | error e => rw [ht] at h; cases h
          | ok l' =>
            rw [ht] at h
            simp only [Except.map, Except.ok.injEq] at h
            subst h
            have hb2 : Byt (numR 10 0 0 zs).2.1 := fun y hy => hb' y (by rw [hr]; simp [hy])
            obtain ⟨i1, i2⟩ := takeN_back n _ l' hb2 ht
            refine ⟨?_, by simp [i2]⟩
            rw [bodyB_cons, ← i1]
            have e : insB (z, (numR 10 0 0 zs).1) = z :: numOf (numR 10 0 0 zs).1 := by
              simp only [insB, ha, if_true]
              rw [show z % 256 = z by omega]
            rw [e, List.cons_append, ← hr]
        · cases h
      · rename_i ha
        cases ht : takeN n zs with
        | error e => rw [ht] at h; cases h
        | ok l' =>
          rw [ht] at h
          simp only [Except.map, Except.ok.injEq] at h
          subst h
          obtain ⟨i1, i2⟩ := takeN_back n zs l' hb' ht
          refine ⟨?_, by simp [i2]⟩
          rw [bodyB_cons, ← i1]
          have e : insB (z, 0) = [z] := by
            simp only [insB, ha]
            rw [show z % 256 = z by omega]
            rfl
          rw [e]
          rfl
    · cases h
theorem takeN_len {n : Nat} {zs : List Int} {l : List Ii} (hb : Byt zs) (h : takeN n zs = .ok l) : l.length = n := (takeN_back n zs l hb h).2
theorem decP_back {zs : List Int} {l : List Ii} (hb : Byt zs) (h : decP zs = (l, 0)) : Okp l ∧ encB l = zs := by
  unfold decP at h
  split at h
  · rename_i h1
    exact absurd (congrArg Prod.snd h) h1
  · rename_i h1
    have h1' : (numR 10 0 0 zs).2.2 = 0 := by simpa using h1
    have hr := numR_rest hb h1'
    split at h
    · exact absurd (congrArg Prod.snd h) (by simp)
    · rename_i h2
      have hb2 : Byt (numR 10 0 0 zs).2.1 := fun y hy => hb y (by rw [hr]; simp [hy])
      split at h
      · rename_i e he
        have h3 : e = 0 := congrArg Prod.snd h
        exact absurd he (by
          subst h3
          generalize (numR 10 0 0 zs).1.toNat = n
          generalize (numR 10 0 0 zs).2.1 = ys
          intro hh
          exact takeN_ne n ys hh)
      · rename_i l' ht
        obtain ⟨i1, i2⟩ := takeN_back _ _ l' hb2 ht
        split at h
        · rename_i hc
          have e : l' = l := congrArg Prod.fst h
          subst e
          refine ⟨hc, ?_⟩
          have e2 : (l'.length : Int) = (numR 10 0 0 zs).1 := by rw [i2]; omega
          rw [encB, ← i1, e2]
          exact hr.symm
        · rename_i hc
          exact absurd (congrArg Prod.snd h) hc
where
  numR_two (f k u : Nat) (ys : List Int) : (numR f k u ys).2.2 = 0 ∨ (numR f k u ys).2.2 = 2 ∨ (numR f k u ys).2.2 = 3 := by
    induction f generalizing k u ys with
    | zero => simp [numR]
    | succ f ih =>
      cases ys with
      | nil => simp [numR]
      | cons z ys =>
        by_cases hz : 128 ≤ z
        · rw [numR_more hz]; exact ih _ _ _
        · by_cases hb : badB k z = true
          · rw [numR_bad hz hb]; simp
          · rw [numR_good hz (by simpa using hb)]; simp
  takeN_ne : ∀ (n : Nat) (ys : List Int), takeN n ys ≠ .error 0
    | 0, ys, h => by
      rw [takeN] at h
      split at h
      · cases h
      · cases h
    | n + 1, [], h => by cases h
    | n + 1, z :: ys, h => by
      rw [takeN] at h
      split at h
      · split at h
        · split at h
          · cases ht : takeN n (numR 10 0 0 ys).2.1 with
            | error e =>
              rw [ht] at h
              simp only [Except.map, Except.error.injEq] at h
              subst h
              exact takeN_ne n _ ht
            | ok l' => rw [ht] at h; cases h
          · rename_i he
            simp only [Except.error.injEq] at h
            exact he h
        · cases ht : takeN n ys with
          | error e =>
            rw [ht] at h
            simp only [Except.map, Except.error.injEq] at h
            subst h
            exact takeN_ne n _ ht
          | ok l' => rw [ht] at h; cases h
      · cases h
end Go.Proofs.YtddmnpfebajnmaaDoor
