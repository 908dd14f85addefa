/-
  Joined from: SegOpen, SegPl, SegRm.
-/
import Derived.Test.YtnkjhooeklodcaaGreatDoorM31
import Derived.Test.YtnkjhooeklodcaaGreatDoorM34
import Derived.Test.YtnkjhooeklodcaaGreatDoorM37
import Derived.Test.YtnkjhooeklodcaaGreatDoorM32
section
/-
  What stands in a segment is one thing alone; the opening in plain words.
-/
namespace Go.Proofs.YtnkjhooeklodcaaGreatDoor
open Go.RowKit Go.Maps Go.Sort
open Fr (Rw2 Osl bytesOf2 Sc takeR decN decE decP numR)

theorem Tk.uniq : ∀ {ps qs : List (List Int)} {n : Nat} {zs : List Int} {m k : Nat}, Tk n zs ps m → takeR (((n + ps.length : Nat) : Int) + 1) (zs.drop m) = none → Tk n zs qs k → takeR (((n + qs.length : Nat) : Int) + 1) (zs.drop k) = none → ps = qs ∧ m = k
  | [], [], _, _, m, k, h1, _, h2, _ => by
    have e1 : m = 0 := h1
    have e2 : k = 0 := h2
    exact ⟨rfl, by omega⟩
  | [], q :: qs, n, zs, m, k, h1, h3, h2, _ => by
    have e1 : m = 0 := h1
    subst e1
    obtain ⟨h4, _⟩ := h2
    simp at h3
    rw [h3] at h4
    cases h4
  | p :: ps, [], n, zs, m, k, h1, _, h2, h3 => by
    have e1 : k = 0 := h2
    subst e1
    obtain ⟨h4, _⟩ := h1
    simp at h3
    rw [h3] at h4
    cases h4
  | p :: ps, q :: qs, n, zs, m, k, ⟨a1, a2, a3⟩, h3, ⟨b1, b2, b3⟩, h4 => by
    rw [a1] at b1
    have hpq : p = q := Option.some.inj b1
    have e1 : zs.drop m = (zs.drop (decN zs)).drop (m - decN zs) := by rw [List.drop_drop]; congr 1; omega
    have e2 : zs.drop k = (zs.drop (decN zs)).drop (k - decN zs) := by rw [List.drop_drop]; congr 1; omega
    have l1 : n + (p :: ps).length = (n + 1) + ps.length := by simp; omega
    have l2 : n + (q :: qs).length = (n + 1) + qs.length := by simp; omega
    rw [l1, e1] at h3
    rw [l2, e2] at h4
    obtain ⟨r1, r2⟩ := Tk.uniq a3 h3 b3 h4
    exact ⟨by rw [hpq, r1], by omega⟩
theorem Tk.len {ps : List (List Int)} : ∀ {n : Nat} {zs : List Int} {m : Nat}, Tk n zs ps m → ∀ p ∈ ps, p.length ≤ 65536 := by
  induction ps with
  | nil => intro n zs m _ p hp; cases hp
  | cons q ps ih =>
    intro n zs m ⟨h1, _, h3⟩ p hp
    rcases List.mem_cons.1 hp with rfl | hp
    · exact (takeR_some h1).2
    · exact ih h3 p hp
theorem Tk.exists : ∀ (f n : Nat) (zs : List Int), zs.length ≤ f → ∃ ps m, Tk n zs ps m ∧ takeR (((n + ps.length : Nat) : Int) + 1) (zs.drop m) = none
  | 0, n, zs, h => by
    obtain rfl : zs = [] := List.eq_nil_of_length_eq_zero (by omega)
    refine ⟨[], 0, rfl, ?_⟩
    unfold Fr.takeR
    rw [if_neg]
    intro h
    have := Fr.decE_nil
    simp at h
    omega
  | f + 1, n, zs, h => by
    cases ht : takeR ((n : Int) + 1) zs with
    | none => exact ⟨[], 0, rfl, by simpa using ht⟩
    | some p =>
      have hd := (takeR_some ht).1
      have hl := Fr.decN_le zs
      obtain ⟨ps, m, h1, h2⟩ := Tk.exists f (n + 1) (zs.drop (decN zs)) (by rw [List.length_drop]; omega)
      refine ⟨p :: ps, decN zs + m, ⟨ht, by omega, ?_⟩, ?_⟩
      · rw [show decN zs + m - decN zs = m by omega]; exact h1
      · rw [List.drop_drop] at h2
        rw [show n + (p :: ps).length = n + 1 + ps.length by simp; omega]
        exact h2
noncomputable def rdF (n : Nat) (zs : List Int) : List (List Int) × Nat := (Classical.choose (Tk.exists zs.length n zs (Nat.le_refl _)), Classical.choose (Classical.choose_spec (Tk.exists zs.length n zs (Nat.le_refl _))))
theorem rdF_spec (n : Nat) (zs : List Int) : Tk n zs (rdF n zs).1 (rdF n zs).2 ∧ takeR (((n + (rdF n zs).1.length : Nat) : Int) + 1) (zs.drop (rdF n zs).2) = none := Classical.choose_spec (Classical.choose_spec (Tk.exists zs.length n zs (Nat.le_refl _)))
theorem rdF_eq {n : Nat} {zs : List Int} {ps : List (List Int)} {m : Nat} (h1 : Tk n zs ps m) (h2 : takeR (((n + ps.length : Nat) : Int) + 1) (zs.drop m) = none) : rdF n zs = (ps, m) := by
  obtain ⟨k1, k2⟩ := rdF_spec n zs
  obtain ⟨e1, e2⟩ := Tk.uniq k1 k2 h1 h2
  exact Prod.ext e1 e2
theorem ReadP.plain {w w' : World} {n : Nat} {zs : List Int} {e : Ending} (h : ReadP w n zs e w') (hn : 1 ≤ n) : ∃ ao cap, ∃ (rs : List Rw2), e = .returned (.tuple #[.slice ao rs.length cap, .int .i64 ((rdF (n - 1) zs).2 : Int), .bool (decide ((rdF (n - 1) zs).2 = zs.length))]) ∧ Osl w' w.heap.size (.slice ao rs.length cap) rs ∧ bytesOf2 rs = (rdF (n - 1) zs).1 ∧ Below w.heap.size w w' := by
  obtain ⟨ao, cap, rs, m, b, rfl, h1, h2, h3⟩ := h
  obtain ⟨k1, k2, rfl⟩ := h2 hn
  have hb : (bytesOf2 rs).length = rs.length := Fr.bytesOf2_len rs
  have := rdF_eq k1 (by
    rw [hb]
    have e1 : (((n - 1 + rs.length : Nat) : Int) + 1) = (n : Int) + rs.length := by omega
    rw [e1]; exact k2)
  rw [this]
  exact ⟨ao, cap, rs, rfl, h1, rfl, h3⟩
def allU (f : Nm → Us → Int × Us) (u : Ud) : List Nm → Int × Ud
  | [] => (0, u)
  | x :: xs => if (u.five [x] (f x)).1 = 0 then allU f (u.five [x] (f x)).2 xs else u.five [x] (f x)
theorem allU_ok {f : Nm → Us → Int × Us} {u : Ud} {x : Nm} {xs : List Nm} (h : (u.five [x] (f x)).1 = 0) : allU f u (x :: xs) = allU f (u.five [x] (f x)).2 xs := if_pos h
theorem allU_err {f : Nm → Us → Int × Us} {u : Ud} {x : Nm} {xs : List Nm} (h : ¬ (u.five [x] (f x)).1 = 0) : allU f u (x :: xs) = u.five [x] (f x) := if_neg h
noncomputable def opF (pre : List UInt8) (u : Ud) : List Nm → Nat → (Int × Ud) × List (List Int) × List Nat
  | [], _ => ((0, u), [], [])
  | x :: xs, next =>
    if numV (x.drop pre.length) = next ∧ (rdF (next - 1) (at0U u.us x).1).2 = (at0U u.us x).1.length then
      ((opF pre u xs (next + (rdF (next - 1) (at0U u.us x).1).1.length)).1, (rdF (next - 1) (at0U u.us x).1).1 ++ (opF pre u xs (next + (rdF (next - 1) (at0U u.us x).1).1.length)).2.1, next :: (opF pre u xs (next + (rdF (next - 1) (at0U u.us x).1).1.length)).2.2)
    else if (allU rmU u xs.reverse).1 ≠ 0 then (allU rmU u xs.reverse, [], [])
    else if numV (x.drop pre.length) ≠ next ∨ (rdF (next - 1) (at0U u.us x).1).2 = 0 then ((allU rmU u xs.reverse).2.five [x] (rmU x), [], [])
    else ((allU rmU u xs.reverse).2.five [x] (cuU x ((rdF (next - 1) (at0U u.us x).1).2 : Int)), (rdF (next - 1) (at0U u.us x).1).1, [next])
noncomputable def openF (pre : List UInt8) (u : Ud) : (Int × Ud) × List (List Int) × List Nat :=
  if (opF pre u (segsN (u.us.map (·.1)) pre) 1).1.1 ≠ 0 then opF pre u (segsN (u.us.map (·.1)) pre) 1
  else (allU syU (opF pre u (segsN (u.us.map (·.1)) pre) 1).1.2 (namesN pre (opF pre u (segsN (u.us.map (·.1)) pre) 1).2.2), (opF pre u (segsN (u.us.map (·.1)) pre) 1).2)
end Go.Proofs.YtnkjhooeklodcaaGreatDoor
end

section
/-
  Names and numbers of segments; files' lengths; what an opening leaves, in plain words. No walk.
-/
namespace Go.Proofs.YtnkjhooeklodcaaGreatDoor
open Go.RowKit Go.Maps Go.Sort

theorem numV_rep (k : Nat) (l : List UInt8) : numV (List.replicate k 48 ++ l) = numV l := by
  induction k with
  | zero => rfl
  | succ k ih => rw [List.replicate_succ, List.cons_append]; exact ih
theorem dig_of (r : Nat) (h : r < 10) : dig (UInt8.ofNat (48 + r)) = true ∧ (UInt8.ofNat (48 + r)).toNat - 48 = r := by
  have e : (UInt8.ofNat (48 + r)).toNat = 48 + r := by rw [UInt8.toNat_ofNat']; omega
  unfold dig
  rw [e]
  refine ⟨?_, by omega⟩
  rw [decide_eq_true (by omega), decide_eq_true (by omega)]; rfl
theorem numV_dec (n : Nat) : numV (Lib.decDigits n) = n ∧ ∀ d ∈ Lib.decDigits n, dig d = true := by
  induction n using Nat.strongRecOn with
  | ind n ih =>
    by_cases h : n < 10
    · have e : Lib.decDigits n = [UInt8.ofNat (48 + n)] := by rw [Lib.decDigits, dif_pos h]
      rw [e]
      obtain ⟨h1, h2⟩ := dig_of n h
      refine ⟨?_, fun d hd => ?_⟩
      · rw [show numV [UInt8.ofNat (48 + n)] = 0 * 10 + ((UInt8.ofNat (48 + n)).toNat - 48) from rfl, h2]; omega
      · rw [List.mem_singleton.1 hd]; exact h1
    · rw [decDigits_more h]
      obtain ⟨i1, i2⟩ := ih (n / 10) (by omega)
      obtain ⟨h1, h2⟩ := dig_of (n % 10) (by omega)
      refine ⟨by rw [numV_snoc, i1, h2]; omega, fun d hd => ?_⟩
      rcases List.mem_append.1 hd with hd | hd
      · exact i2 d hd
      · rw [List.mem_singleton.1 hd]; exact h1
theorem numV_inj : ∀ (k : Nat) (t s : List UInt8), t.length = k → s.length = k → (∀ d ∈ t, dig d = true) → (∀ d ∈ s, dig d = true) → numV t = numV s → t = s
  | 0, t, s, ht, hs, _, _, _ => by rw [List.eq_nil_of_length_eq_zero ht, List.eq_nil_of_length_eq_zero hs]
  | k + 1, t, s, ht, hs, h1, h2, he => by
    rcases List.eq_nil_or_concat t with rfl | ⟨t', d, rfl⟩
    · simp at ht
    rcases List.eq_nil_or_concat s with rfl | ⟨s', e, rfl⟩
    · simp at hs
    simp only [List.concat_eq_append] at *
    rw [numV_snoc, numV_snoc] at he
    have d1 := h1 d (by simp)
    have d2 := h2 e (by simp)
    unfold dig at d1 d2
    simp only [Bool.and_eq_true, decide_eq_true_eq] at d1 d2
    have e1 : d = e := UInt8.toNat_inj.1 (by omega)
    have e2 : t' = s' := numV_inj k t' s' (by simpa using ht) (by simpa using hs) (fun x hx => h1 x (by simp [hx])) (fun x hx => h2 x (by simp [hx])) (by omega)
    rw [e1, e2]
theorem lkU_dl (x y : Nm) : ∀ us : Us, lkU (dlU us y) x = if x = y then none else lkU us x
  | [] => by simp [lkU, dlU]
  | p :: r => by
    have ih := lkU_dl x y r
    rw [dlU_cons]
    by_cases hp : p.1 = y
    · rw [if_pos hp, ih, lkU_cons]
      by_cases hx : x = y
      · rw [if_pos hx, if_pos hx]
      · rw [if_neg hx, if_neg hx, if_neg (fun e => hx (e.symm.trans hp))]
    · rw [if_neg hp, lkU_cons, ih, lkU_cons]
      by_cases hx : x = y
      · rw [if_pos hx, if_pos hx, if_neg (fun e => hp (e.trans hx))]
      · rw [if_neg hx, if_neg hx]
theorem lkU_ins (x y : Nm) (f : List Int × Nat) : ∀ us : Us, (∀ q ∈ us, q.1 ≠ y) → lkU (insU y f us) x = if x = y then some f else lkU us x
  | [], _ => by
    rw [insU, lkU_cons]
    by_cases hx : x = y
    · rw [if_pos hx.symm, if_pos hx]
    · rw [if_neg (Ne.symm hx), if_neg hx]
  | p :: r, h => by
    have ih := lkU_ins x y f r fun q hq => h q (List.mem_cons_of_mem _ hq)
    have hp := h p (by simp)
    simp only [insU]
    split
    · rw [lkU_cons]
      by_cases hx : x = y
      · rw [if_pos hx.symm, if_pos hx]
      · rw [if_neg (Ne.symm hx), if_neg hx]
    · rw [lkU_cons, ih, lkU_cons]
      by_cases hx : x = y
      · rw [if_pos hx, if_pos hx, if_neg (fun e => hp (e.trans hx))]
      · rw [if_neg hx, if_neg hx]
theorem lkU_pt (us : Us) (x y : Nm) (f : List Int × Nat) : lkU (ptU us y f) x = if x = y then some f else lkU us x := by
  unfold ptU
  rw [lkU_ins x y f _ dlU_ne, lkU_dl]
  split <;> rfl
theorem nameN_form (pre : List UInt8) (n : Nat) (h : n < 100000000) : ∃ t, nameN pre n = pre ++ t ∧ t.length = 8 ∧ (∀ d ∈ t, dig d = true) ∧ numV t = n := by
  have h8 := decDigits_len8 n h
  obtain ⟨h1, h2⟩ := numV_dec n
  refine ⟨_, nameN_pad pre n h, by simp; omega, fun d hd => ?_, by rw [numV_rep]; exact h1⟩
  rcases List.mem_append.1 hd with hd | hd
  · rw [List.eq_of_mem_replicate hd]; decide
  · exact h2 d hd
theorem seg_form {pre x : List UInt8} (h : isSeg x pre = true) : ∃ t, x = pre ++ t ∧ t.length = 8 ∧ (∀ d ∈ t, dig d = true) ∧ x.drop pre.length = t := by
  unfold isSeg at h
  rw [Bool.and_eq_true, Bool.and_eq_true, beq_iff_eq, seg_all] at h
  obtain ⟨h1, h2, h3⟩ := h
  have ht : Lib.trimPrefix x pre = x.drop pre.length := by unfold Lib.trimPrefix; rw [if_pos h1]
  rw [ht] at h2 h3
  have hp := hasPre h1
  refine ⟨x.drop pre.length, ?_, h2, fun d hd => List.all_eq_true.1 h3 d hd, rfl⟩
  have := List.take_append_drop pre.length x
  rw [hp] at this
  exact this.symm
theorem seg_name {pre x : List UInt8} (h : isSeg x pre = true) {n : Nat} (hn : n < 100000000) : x = nameN pre n ↔ numV (x.drop pre.length) = n := by
  obtain ⟨t, hx, h8, hd, he⟩ := seg_form h
  obtain ⟨s, hs, s8, sd, sn⟩ := nameN_form pre n hn
  rw [he]
  constructor
  · intro e
    rw [hx, hs] at e
    rw [List.append_cancel_left e]; exact sn
  · intro e
    rw [hx, hs, numV_inj 8 t s h8 s8 hd sd (by rw [e, sn])]
def lenU (us : Us) (x : Nm) : Nat := (at0U us x).1.length
def tU (us : Us) (xs : List Nm) : Nat := (xs.map (lenU us)).sum
theorem lkU_of_mem : ∀ {us : Us}, RisU us → ∀ {p : List UInt8 × List Int × Nat}, p ∈ us → lkU us p.1 = some p.2
  | [], _, p, hp => by cases hp
  | q :: r, h, p, hp => by
    obtain ⟨h1, h2⟩ := List.pairwise_cons.1 h
    rw [lkU_cons]
    rcases List.mem_cons.1 hp with rfl | hp
    · rw [if_pos rfl]
    · rw [if_neg (bef_ne (h1 p hp)), lkU_of_mem h2 hp]
theorem lenU_of_mem {us : Us} (h : RisU us) {p : List UInt8 × List Int × Nat} (hp : p ∈ us) : lenU us p.1 = p.2.1.length := by
  unfold lenU at0U; rw [lkU_of_mem h hp]; rfl
theorem tU_filter {us : Us} (h : RisU us) (f : Nm → Bool) : tU us ((us.map (·.1)).filter f) ≤ totU us := by
  suffices H : ∀ r : Us, (∀ p ∈ r, p ∈ us) → tU us ((r.map (·.1)).filter f) ≤ totU r from H us fun p hp => hp
  intro r
  induction r with
  | nil => intro _; exact Nat.le_refl _
  | cons q r ih =>
    intro hm
    have i := ih fun p hp => hm p (List.mem_cons_of_mem _ hp)
    have e := lenU_of_mem h (hm q (by simp))
    have e2 : totU (q :: r) = q.2.1.length + totU r := by simp [totU]
    rw [List.map_cons, List.filter_cons, e2]
    split
    · have e3 : tU us (q.1 :: (r.map (·.1)).filter f) = lenU us q.1 + tU us ((r.map (·.1)).filter f) := by simp [tU]
      rw [e3]; omega
    · omega
theorem tU_cons (us : Us) (x : Nm) (xs : List Nm) : tU us (x :: xs) = lenU us x + tU us xs := by simp [tU]
theorem rdF_le (n : Nat) (zs : List Int) : (rdF n zs).1.length ≤ (rdF n zs).2 ∧ (rdF n zs).2 ≤ zs.length := ⟨(rdF_spec n zs).1.many, (rdF_spec n zs).1.le⟩
theorem opF_few (pre : List UInt8) (u : Ud) : ∀ (xs : List Nm) (next : Nat), (opF pre u xs next).2.1.length ≤ tU u.us xs ∧ (opF pre u xs next).2.2.length ≤ xs.length
  | [], next => ⟨Nat.le_refl _, Nat.le_refl _⟩
  | x :: xs, next => by
    obtain ⟨r1, r2⟩ := rdF_le (next - 1) (at0U u.us x).1
    have hl : (at0U u.us x).1.length = lenU u.us x := rfl
    rw [tU_cons]
    simp only [opF]
    split
    · obtain ⟨i1, i2⟩ := opF_few pre u xs (next + (rdF (next - 1) (at0U u.us x).1).1.length)
      simp only [List.length_append, List.length_cons]
      omega
    · split
      · simp
      · split
        · simp
        · simp only [List.length_cons, List.length_nil]
          omega
theorem five_us (u : Ud) (ns : List Nm) (f : Us → Int × Us) : (u.five ns f).2.us = u.us ∨ (u.five ns f).2.us = (f u.us).2 := by
  unfold Ud.five
  split
  · exact Or.inl rfl
  · exact Or.inr rfl
theorem five_done {u : Ud} {ns : List Nm} {f : Us → Int × Us} (h : (u.five ns f).1 = 0) : (f u.us).1 = 0 ∧ (u.five ns f).2.us = (f u.us).2 := by
  unfold Ud.five at h ⊢
  split at h
  · exact absurd h (by assumption)
  · rw [if_neg (by assumption)]
    exact ⟨h, rfl⟩
theorem rm_else (u : Ud) {x y : Nm} (h : x ≠ y) : at0U (u.five [y] (rmU y)).2.us x = at0U u.us x := by
  rcases five_us u [y] (rmU y) with e | e
  · rw [e]
  · rw [e]
    unfold rmU at0U
    cases lkU u.us y with
    | none => rfl
    | some f => simp only; rw [lkU_dl, if_neg h]
theorem cut_else (u : Ud) {x y : Nm} (m : Int) (h : x ≠ y) : at0U (u.five [y] (cuU y m)).2.us x = at0U u.us x := by
  rcases five_us u [y] (cuU y m) with e | e
  · rw [e]
  · rw [e]
    unfold cuU at0U
    cases lkU u.us y with
    | none => rfl
    | some f =>
      simp only
      split
      · rfl
      · rw [lkU_pt, if_neg h]
theorem cut_len {u : Ud} {x : Nm} {m : Nat} (h : (u.five [x] (cuU x (m : Int))).1 = 0) : lenU (u.five [x] (cuU x (m : Int))).2.us x = m ∧ m ≤ lenU u.us x := by
  obtain ⟨h1, h2⟩ := five_done h
  unfold lenU
  rw [h2]
  unfold cuU at h1 ⊢
  unfold at0U
  cases hl : lkU u.us x with
  | none => rw [hl] at h1; cases h1
  | some f =>
    rw [hl] at h1
    simp only at h1 ⊢
    by_cases hc : (m : Int) < 0 ∨ (f.1.length : Int) < (m : Int)
    · rw [if_pos hc] at h1; cases h1
    · rw [if_neg hc, lkU_pt, if_pos rfl]
      simp
      omega
theorem sync_bytes (u : Ud) (x y : Nm) : (at0U (u.five [y] (syU y)).2.us x).1 = (at0U u.us x).1 := by
  rcases five_us u [y] (syU y) with e | e
  · rw [e]
  · rw [e]
    unfold syU at0U
    cases hl : lkU u.us y with
    | none => rfl
    | some f =>
      simp only
      rw [lkU_pt]
      by_cases hx : x = y
      · rw [if_pos hx, hx, hl]; rfl
      · rw [if_neg hx]
theorem allU_rm_else {x : Nm} : ∀ (xs : List Nm) (u : Ud), x ∉ xs → at0U (allU rmU u xs).2.us x = at0U u.us x
  | [], u, _ => rfl
  | y :: ys, u, h => by
    have hx : x ≠ y := fun e => h (by rw [e]; simp)
    simp only [allU]
    split
    · rw [allU_rm_else ys _ fun e => h (List.mem_cons_of_mem _ e), rm_else u hx]
    · exact rm_else u hx
theorem allU_sync_bytes (x : Nm) : ∀ (xs : List Nm) (u : Ud), (at0U (allU syU u xs).2.us x).1 = (at0U u.us x).1
  | [], u => rfl
  | y :: ys, u => by
    simp only [allU]
    split
    · rw [allU_sync_bytes x ys, sync_bytes]
    · exact sync_bytes u x y
noncomputable def opS (pre : List UInt8) (u : Ud) : List Nm → Nat → Nat → Nat
  | [], _, sz => sz
  | x :: xs, next, sz =>
    if numV (x.drop pre.length) = next ∧ (rdF (next - 1) (at0U u.us x).1).2 = (at0U u.us x).1.length then
      opS pre u xs (next + (rdF (next - 1) (at0U u.us x).1).1.length) (rdF (next - 1) (at0U u.us x).1).2
    else if numV (x.drop pre.length) ≠ next ∨ (rdF (next - 1) (at0U u.us x).1).2 = 0 then sz
    else (rdF (next - 1) (at0U u.us x).1).2
theorem opF_else (pre : List UInt8) (u : Ud) {x : Nm} : ∀ (xs : List Nm) (next : Nat), x ∉ xs → at0U (opF pre u xs next).1.2.us x = at0U u.us x
  | [], _, _ => rfl
  | y :: ys, next, h => by
    have hx : x ≠ y := fun e => h (by rw [e]; simp)
    have hy : x ∉ ys := fun e => h (List.mem_cons_of_mem _ e)
    have hr : x ∉ ys.reverse := fun e => hy (List.mem_reverse.1 e)
    simp only [opF]
    split
    · exact opF_else pre u ys _ hy
    · split
      · exact allU_rm_else _ u hr
      · split
        · rw [rm_else _ hx, allU_rm_else _ u hr]
        · rw [cut_else _ _ hx, allU_rm_else _ u hr]
theorem opS_nil (pre : List UInt8) (u : Ud) : ∀ (xs : List Nm) (next sz : Nat), (opF pre u xs next).1.1 = 0 → (opF pre u xs next).2.2 = [] → opS pre u xs next sz = sz
  | [], _, _, _, _ => rfl
  | y :: ys, next, sz, h0, h1 => by
    simp only [opF] at h0 h1
    simp only [opS]
    split at h1
    · cases h1
    · rename_i hc
      rw [if_neg hc] at h0 ⊢
      split at h1
      · rename_i he
        rw [if_pos he] at h0
        exact absurd h0 he
      · rename_i he
        rw [if_neg he] at h0
        split at h1
        · rename_i hn
          rw [if_pos hn]
        · cases h1
theorem opF_last (pre : List UInt8) (u : Ud) : ∀ (xs : List Nm) (next sz : Nat), xs.Nodup → (∀ x ∈ xs, isSeg x pre = true) → (opF pre u xs next).1.1 = 0 → (opF pre u xs next).2.2 ≠ [] → next + tU u.us xs < 100000000 → lenU (opF pre u xs next).1.2.us (nameN pre (lastS (opF pre u xs next).2.2)) = opS pre u xs next sz
  | [], _, _, _, _, _, h1, _ => absurd rfl h1
  | y :: ys, next, sz, hd, hs, h0, h1, hn => by
    obtain ⟨d1, d2⟩ := List.nodup_cons.1 hd
    have sy := hs y (by simp)
    obtain ⟨r1, r2⟩ := rdF_le (next - 1) (at0U u.us y).1
    have hl : (at0U u.us y).1.length = lenU u.us y := rfl
    rw [tU_cons] at hn
    simp only [opF] at h0 h1 ⊢
    simp only [opS]
    by_cases hc : numV (y.drop pre.length) = next ∧ (rdF (next - 1) (at0U u.us y).1).2 = (at0U u.us y).1.length
    · rw [if_pos hc] at h0 h1 ⊢
      rw [if_pos hc]
      simp only at h0 h1 ⊢
      cases hss : (opF pre u ys (next + (rdF (next - 1) (at0U u.us y).1).1.length)).2.2 with
      | nil =>
        rw [opS_nil pre u ys _ _ h0 hss]
        have e : lastS (next :: []) = next := rfl
        have ey : nameN pre next = y := ((seg_name sy (by omega)).2 hc.1).symm
        rw [e, ey]
        unfold lenU
        rw [opF_else pre u ys _ d1, hc.2]
      | cons a bs =>
        have e : lastS (next :: a :: bs) = lastS (a :: bs) := rfl
        rw [e, ← hss]
        exact opF_last pre u ys _ _ d2 (fun x hx => hs x (List.mem_cons_of_mem _ hx)) h0 (by rw [hss]; simp) (by omega)
    · rw [if_neg hc] at h0 h1 ⊢
      rw [if_neg hc]
      by_cases he : (allU rmU u ys.reverse).1 ≠ 0
      · rw [if_pos he] at h1
        exact absurd rfl h1
      · rw [if_neg he] at h0 h1 ⊢
        by_cases hm : numV (y.drop pre.length) ≠ next ∨ (rdF (next - 1) (at0U u.us y).1).2 = 0
        · rw [if_pos hm] at h1
          exact absurd rfl h1
        · rw [if_neg hm] at h0 h1 ⊢
          rw [if_neg hm]
          have e : lastS [next] = next := rfl
          have hnn : numV (y.drop pre.length) = next := Classical.byContradiction fun e => hm (Or.inl e)
          have ey : nameN pre next = y := ((seg_name sy (by omega)).2 hnn).symm
          simp only at h0 ⊢
          rw [e, ey]
          exact (cut_len h0).1
end Go.Proofs.YtnkjhooeklodcaaGreatDoor
end

section
/-
  Remove once more: the disk has no new block behind it (a loop over a function that removes wants it so).
-/
namespace Go.Proofs.YtnkjhooeklodcaaGreatDoor
open Go.RowKit Go.Maps Go.Sort
section
variable {X : Nm → Prop} {w w' : World} {F : Nat → Prop} {sb : Nat} {mb : Option Nat} {room : Int} {fs : Fls} {lit : Bool} {left : Int}

set_option maxRecDepth 20000 in
set_option maxHeartbeats 1600000 in
theorem remove_anyM (h : Dk w F sb mb room fs lit left) (x : Nm) (hx : x.length ≤ maxLen) (o p n : Value) :
    Calls Tryz.prog 131 #[.agg #[.pointer (some ⟨sb, 0, none⟩), encStr x, o, p, n]] w fun e w' => e = .returned (.int .i64 (none7 fs x)) ∧ Dk w' (Pl F w.heap.size) sb mb room (dl fs x) lit left ∧ Grows F w w' := by
  obtain ⟨ao, cap, hf⟩ := at0_form' h x
  go_enter Tryz.func131, Tryz.ntmps131
  refine wp_seq (wp_region_lit (wpList_box_row rfl 118 (.tmp 0) rfl [.pointer (some ⟨sb, 0, none⟩), encStr x, o, p, n] rfl ?_))
  intro W1 hc1 B1 HS1
  have h1 : Dk W1 (Pl F w.heap.size) sb mb room fs lit left := (h.to B1).pl _
  have HLS : Hid (∀ W, Below W1.heap.size W1 W → LookS w.heap.size sb mb x (.agg #[.slice ao (at0 fs x).zs.length cap, .int .i64 ((at0 fs x).l : Int)]) (lk fs x).isSome W) := fun W hW => by
    have := LookS.of h1 hx hc1 hW
    rw [Fl.val, hf] at this
    exact this
  have hz67 := zero67
  go_upto_region 1 with fail
  go_cut [3, 4] (fun pv tv wx => pv = .pointer (some ⟨W1.heap.size, 0, none⟩) ∧ tv = .bool (lk fs x).isSome ∧ Cw wx W1.heap.size [.slice ao (at0 fs x).zs.length cap, .int .i64 ((at0 fs x).l : Int)] 106 ∧ Below W1.heap.size W1 wx)
  case first =>
    go_region_held3 (fun W => W.cell? ⟨w.heap.size, 0, none⟩ = some (.pointer (some ⟨sb, 0, none⟩)) ∧ W.cell? ⟨w.heap.size, 1, none⟩ = some (encStr x) ∧ W.cell? ⟨sb, 2, none⟩ = some (.map mb) ∧
      (Instr.lookup 86 (.map mb) (encStr x) true).run Tryz.prog W = .ok (.tuple #[.agg #[.slice ao (at0 fs x).zs.length cap, .int .i64 ((at0 fs x).l : Int)], .bool (lk fs x).isSome]) W)
      (first | exact HLS.out _ (Below.refl _ _).drew | exact HLS.out _ ((Below.refl _ _).drew.alloc (Nat.le_refl _) _))
      (fail)
    all_goals
      go_wp2_with fail
      go_meet
      exact ⟨rfl, rfl, Cw.new _ _ _, ((Below.refl _ _).alloc (Nat.le_refl _) _).drew⟩
  case rest =>
    rename World => W2
    obtain ⟨rfl, rfl, hc2, B2⟩ := hcut
    have hc12 := hc1.below B2 hc1.lt
    have h2 := h1.to B2
    have d0 : W2.cell? ⟨w.heap.size, 0, none⟩ = some (.pointer (some ⟨sb, 0, none⟩)) := by rw [hc12.cell]; rfl
    have d1 : W2.cell? ⟨w.heap.size, 1, none⟩ = some (encStr x) := by rw [hc12.cell]; rfl
    have d2 : W2.cell? ⟨w.heap.size, 2, none⟩ = some o := by rw [hc12.cell]; rfl
    have d3 : W2.cell? ⟨w.heap.size, 3, none⟩ = some p := by rw [hc12.cell]; rfl
    have d4 : W2.cell? ⟨w.heap.size, 4, none⟩ = some n := by rw [hc12.cell]; rfl
    have g0 : W2.cell? ⟨W1.heap.size, 0, none⟩ = some (.slice ao (at0 fs x).zs.length cap) := by rw [hc2.cell]; rfl
    have g1 : W2.cell? ⟨W1.heap.size, 1, none⟩ = some (.int .i64 ((at0 fs x).l : Int)) := by rw [hc2.cell]; rfl
    have HG2 : Hid (Grows F w W2) := ((Grows.refl F w).bel B1).bel B2
    have hlt := hc1.lt
    clear HLS hz67 h hc1 B1
    cases hl : lk fs x with
    | none =>
      go_wp2_with fail
      go_ret
      exact ⟨by simp [none7, hl], by rw [dl_of_none (lk_none hl)]; exact h2, HG2.out⟩
    | some f =>
      have hp := drop_any h2 x hx
      go_wp2_with fail
      refine hp.mono ?_
      rintro e W4 ⟨rfl, h4, hG4, _⟩
      have HG4 : Hid (Grows F w W4) := HG2.out.pl hG4
      clear hG4
      go_wp2_with fail
      go_ret
      exact ⟨by simp [none7, hl], h4, HG4.out⟩
def GResM (P : Int → Fls → Prop) (mb : Option Nat) (F : Nat → Prop) (sb : Nat) (room : Int) (lit : Bool) (left : Int) (w : World) (e : Ending) (w' : World) : Prop :=
  ∃ ev fs', P ev fs' ∧ e = .returned (.int .i64 ev) ∧ Dk w' (Pl F w.heap.size) sb mb room fs' lit (burnL ev lit left) ∧ Grows F w w'
set_option maxHeartbeats 800000 in
theorem gate_doM (P : Int → Fls → Prop) (h : Dk w F sb mb room fs lit left) (fn : FuncId) (en : ∀ (args : Array Value) (w : World), (callFunc fn args).run Tryz.prog w = .ok (.enter fn args) w) (sa sv : Value) (hb : burntB lit left = false) (hn : ∀ w1, Below w.heap.size w w1 → Calls Tryz.prog 94 #[sv, .func (.func 95) #[] #[]] w1 fun e w' => e = .returned (.bool false) ∧ w' = w1)
    (hdo : ∀ w1, Below w.heap.size w w1 → Calls Tryz.prog fn #[sa] w1 fun e w' => ∃ ev fs', P ev fs' ∧ e = .returned (.int .i64 ev) ∧ Dk w' (Pl F w1.heap.size) sb mb room fs' lit left ∧ Grows F w1 w') :
    Calls Tryz.prog 66 #[.pointer (some ⟨sb, 0, none⟩), .func (.func fn) #[sa] #[], sv] w fun e w' => GResM P mb F sb room lit left w e w' := by
  obtain ⟨c0, c1, c2, c3, c4⟩ := h.cell
  have HN := hid_into hn
  have HD := hid_into hdo
  clear hn hdo
  go_enter Tryz.func66, Tryz.ntmps66
  go_wp2_with fail
  refine (burnt_any lit left w).mono ?_
  rintro e W1 ⟨rfl, B1⟩
  rw [hb]
  go_wp2_with fail
  refine (HN.out W1 B1).mono ?_
  rintro e W2 ⟨rfl, rfl⟩
  have HB := hid_into hb
  have HB1 := hid_into B1
  clear hb B1 h c0 c1 c2 c3 c4
  go_wp2_with fail
  refine (HD.out W2 HB1.out).mono ?_
  rintro e W3 ⟨ev, fs', hP, rfl, h3, hG3⟩
  have HG3 : Hid (Grows F w W3) := ((Grows.refl F w).bel HB1.out).trans hG3 fun _ hk => Or.inl hk
  have HS : Hid (w.heap.size ≤ W2.heap.size) := HB1.out.size
  replace hP := hid_into hP
  clear hG3
  by_cases he : ev = 0
  · subst he
    go_wp2_with fail
    refine (burn_any h3 HB.out).mono ?_
    rintro e W4 ⟨rfl, h4, hG4⟩
    have HG4 : Hid (Grows F w W4) := HG3.out.trans hG4 fun k hk => by
      rcases hk with hk | hk
      · exact Or.inl hk
      · exact Or.inr (Nat.le_trans HS.out hk)
    clear hG4
    go_wp2_with fail
    go_ret
    exact ⟨0, fs', hP.out, rfl, h4.more fun k hk _ => (by rcases hk with hk | hk; exact Or.inl hk; exact Or.inr (Nat.le_trans HS.out hk)), HG4.out⟩
  · have HE := hid_into he
    have he2 : (ev == 0) = false := by simp [he]
    go_wp2_with fail
    go_ret
    refine ⟨ev, fs', hP.out, rfl, ?_, HG3.out⟩
    have e1 : burnL ev lit left = left := by simp [burnL, HE.out]
    rw [e1]
    exact h3.more fun k hk _ => (by rcases hk with hk | hk; exact Or.inl hk; exact Or.inr (Nat.le_trans HS.out hk))
theorem GResM.below {P : Int → Fls → Prop} {e : Ending} {W W' : World} (h : GResM P mb F sb room lit left W e W') (hb : Below w.heap.size w W) : GResM P mb F sb room lit left w e W' := by
  obtain ⟨ev, fs', hP, he, h1, hG⟩ := h
  refine ⟨ev, fs', hP, he, h1.more fun k hk _ => ?_, ((Grows.refl F w).bel hb).trans hG fun _ hk => Or.inl hk⟩
  rcases hk with hk | hk
  · exact Or.inl hk
  · exact Or.inr (Nat.le_trans hb.size hk)
theorem GResM.stay {P : Int → Fls → Prop} {e : Ending} {ev : Int} (h : Dk w F sb mb room fs lit left) (hb : Below w.heap.size w w') (he : e = .returned (.int .i64 ev)) (hP : P ev fs) (h0 : ev ≠ 0) : GResM P mb F sb room lit left w e w' := by
  refine ⟨ev, fs, hP, he, ?_, (Grows.refl F w).bel hb⟩
  have e1 : burnL ev lit left = left := by simp [burnL, h0]
  rw [e1]
  exact (h.to hb).pl _
theorem gate_anyM (P : Int → Fls → Prop) (nn : Bool) (h : Dk w F sb mb room fs lit left) (fn : FuncId) (en : ∀ (args : Array Value) (w : World), (callFunc fn args).run Tryz.prog w = .ok (.enter fn args) w) (sa sv : Value)
    (hn : ∀ w1, Below w.heap.size w w1 → Calls Tryz.prog 94 #[sv, .func (.func 95) #[] #[]] w1 fun e w' => e = .returned (.bool nn) ∧ w' = w1)
    (hdo : ∀ w1, Below w.heap.size w w1 → Calls Tryz.prog fn #[sa] w1 fun e w' => ∃ ev fs', P ev fs' ∧ e = .returned (.int .i64 ev) ∧ Dk w' (Pl F w1.heap.size) sb mb room fs' lit left ∧ Grows F w1 w') :
    Calls Tryz.prog 66 #[.pointer (some ⟨sb, 0, none⟩), .func (.func fn) #[sa] #[], sv] w fun e w' => GResM (fiveP lit left nn fs P) mb F sb room lit left w e w' := by
  cases hb : burntB lit left with
  | true =>
    refine (gate_dead h _ sv hb).mono ?_
    rintro e W ⟨he, hB⟩
    exact GResM.stay h hB he (by simp [fiveP, hb]) (by decide)
  | false =>
    cases nn with
    | true =>
      refine (gate_arg h _ sv hb hn).mono ?_
      rintro e W ⟨he, hB⟩
      exact GResM.stay h hB he (by simp [fiveP, hb]) (by decide)
    | false =>
      refine (gate_doM P h fn en sa sv hb hn hdo).mono ?_
      rintro e W ⟨ev, fs', hP, he, hR⟩
      exact ⟨ev, fs', by simpa [fiveP, hb] using hP, he, hR⟩
set_option maxHeartbeats 800000 in
theorem Remove_anyM (h : Dk w F sb mb room fs lit left) (x : Nm) (hx : x.length ≤ maxLen) :
    Calls Tryz.prog 113 #[.pointer (some ⟨sb, 0, none⟩), encStr x] w fun e w' => GResM (fiveP lit left (noneB x) fs (removeP fs x)) mb F sb room lit left w e w' := by
  have hmf : ∀ (fn : Fn) (first cap : Array Value) (w : World), (Instr.makeFunc fn first cap).run Tryz.prog w = .ok (.func fn first cap) w := fun _ _ _ _ => rfl
  have B0 : Below w.heap.size w (w.alloc (.cells #[encStr x] 9)) := (Below.refl _ _).alloc (Nat.le_refl _) _
  have hg := gate_anyM (removeP fs x) (noneB x) (h.to B0) 131 (enters_of Tryz.func131 (by kernel_rfl) rfl) (.agg #[.pointer (some ⟨sb, 0, none⟩), encStr x, .string ⟨#[]⟩, .slice none 0 0, .int .i64 0]) (.slice (some ⟨w.heap.size, 0, none⟩) 1 1)
    (fun w1 hb => has_one w.heap.size x w1 (below_cw (cs := [encStr x]) hb))
    (fun w1 hb => (remove_anyM ((h.to B0).to hb) x hx _ _ _).mono fun e w' hr => ⟨_, _, ⟨rfl, rfl⟩, hr.1, hr.2⟩)
  have HG := hid_into hg
  have HB := hid_into B0
  clear hg B0
  go_enter Tryz.func113, Tryz.ntmps113
  go_wp2_with fail
  refine HG.out.mono ?_
  rintro e W2 ⟨ev, fs', hP, rfl, hR⟩
  have HR : Hid (GResM (fiveP lit left (noneB x) fs (removeP fs x)) mb F sb room lit left w (.returned (.int .i64 ev)) W2) := GResM.below ⟨ev, fs', hP, rfl, hR⟩ HB.out
  clear hP hR
  go_wp2_with fail
  go_ret
  exact HR.out
theorem fiveP_sub {nn : Bool} {x : Nm} {ev : Int} {fs' : Fls} (h : fiveP lit left nn fs (removeP fs x) ev fs') : ∀ p ∈ fs', p ∈ fs := by
  unfold fiveP at h
  split at h
  · rw [h.2]; exact fun p hp => hp
  · split at h
    · rw [h.2]; exact fun p hp => hp
    · obtain ⟨_, rfl⟩ := h
      exact fun p hp => (dl_mem.1 hp).1
theorem Dx.less (h : Dk w F sb mb room fs lit left) {left' : Int} {n : Nat} {fs' : Fls} (h' : Dk w' (Pl F n) sb mb room fs' lit left') (hs : ∀ p ∈ fs', p ∈ fs) : Dk w' F sb mb room fs' lit left' where
  cells := h'.cells
  sF := h.sF
  nn := h'.nn
  map := fun b hb => ⟨(h.map b hb).1, (h'.map b hb).2⟩
  form := h'.form
  rowsX := fun p hp hn => by
    obtain ⟨h1, h2, h3, _⟩ := h'.rowsX p hp hn
    exact ⟨h1, h2, h3, (h.rowsX p (hs p hp) hn).2.2.2⟩
  apart := h'.apart
  room0 := h'.room0
  fits := h'.fits
  left0 := h'.left0
  cnt := h'.cnt
end
section
variable {w w' : World} {F : Nat → Prop} {sb : Nat} {u : Ud}
theorem five_plain {fs fs' : Fls} {lit : Bool} {lf ev : Int} {P : Int → Fls → Prop} (f : Us → Int × Us) (ns : List Nm) (nn : Bool) (hnn : nn = ns.any badN) (hP : ∀ ev fs', P ev fs' → ev = (f (abs fs)).1 ∧ abs fs' = (f (abs fs)).2)
    (h0 : 0 ≤ lf ∧ lf < 9223372036854775808) (ha : abs fs = u.us) (hl : u.left = if lit then lf else -1) (hp : fiveP lit lf nn fs P ev fs') : ev = (u.five ns f).1 ∧ (u.five ns f).2.room = u.room ∧ abs fs' = (u.five ns f).2.us ∧ (u.five ns f).2.left = if lit then burnL ev lit lf else -1 := by
  have hb : burntB lit lf = decide (u.left = 0) := by
    unfold burntB
    rw [hl]
    cases lit with
    | true => by_cases h : lf = 0 <;> simp [h]
    | false => simp
  unfold fiveP at hp
  unfold Ud.five mayE
  by_cases hz : u.left = 0
  · rw [hb, decide_eq_true hz, if_pos rfl] at hp
    obtain ⟨rfl, rfl⟩ := hp
    simp only [hz, if_true]
    have e1 : burnL 9 lit lf = lf := by simp [burnL]
    rw [e1]
    exact ⟨rfl, rfl, ha, hl⟩
  · rw [hb, decide_eq_false hz, if_neg (by simp)] at hp
    simp only [hz, if_false]
    cases nn with
    | true =>
      rw [if_pos rfl] at hp
      obtain ⟨rfl, rfl⟩ := hp
      simp only [← hnn, if_true]
      have e1 : burnL 1 lit lf = lf := by simp [burnL]
      rw [e1]
      exact ⟨rfl, rfl, ha, hl⟩
    | false =>
      rw [if_neg (by simp)] at hp
      obtain ⟨h1, h2⟩ := hP ev fs' hp
      rw [ha] at h1 h2
      simp only [← hnn, Bool.false_eq_true, if_false, ne_eq, not_true_eq_false]
      refine ⟨h1, trivial, h2, ?_⟩
      show (if (f u.us).1 = 0 then didL u.left else u.left) = _
      rw [← h1, hl]
      unfold burnL didL
      by_cases hev : ev = 0
      · cases lit with
        | true =>
          have : lf ≠ 0 := fun e => hz (by rw [hl]; simpa using e)
          simp only [hev, if_true, and_true]
          rw [if_pos (by omega)]
        | false => simp [hev]
      · cases lit <;> simp [hev]
theorem pRemoveM (h : Pd w F sb u) (x : Nm) (hx : x.length ≤ maxLen) : Calls Tryz.prog 113 #[.pointer (some ⟨sb, 0, none⟩), encStr x] w fun e w' => e = .returned (.int .i64 (u.five [x] (rmU x)).1) ∧ Pd w' F sb (u.five [x] (rmU x)).2 ∧ Grows F w w' := by
  obtain ⟨mb, fs, lit, lf, hd, ha, hl⟩ := h
  refine (Remove_anyM hd x hx).mono fun e w' hG => ?_
  obtain ⟨ev, fs', hp, he, hd', hg⟩ := hG
  have hd2 := hd.less hd' (fiveP_sub hp)
  obtain ⟨r1, r2, r3, r4⟩ := five_plain (u := u) (rmU x) [x] (noneB x) (by simp [noneB_bad]) removeP_u hd.left0 ha hl hp
  rw [← r2] at hd2
  exact ⟨by rw [he, r1], ⟨mb, fs', lit, _, hd2, r3, r4⟩, hg⟩
end
section
variable {w w' : World} {D F : Nat → Prop} {lb sb : Nat} {u : Ud} {pre : List UInt8} {es : List En} {las : Nat} {ns : List (List UInt8)} {sz : Nat} {dead : Bool}
theorem askRemoveM (h : Ld w D F lb sb u pre es las ns sz dead) (x : List UInt8) (hx : x.length ≤ maxLen) :
    Calls Tryz.prog 55 #[.pointer (some ⟨lb, 0, none⟩), .func (.func 113) #[] #[], encStr x] w fun e w' => e = .returned (.int .i64 (u.five [x] (rmU x)).1) ∧ Ld w' D F lb sb (u.five [x] (rmU x)).2 pre es las ns sz (if (u.five [x] (rmU x)).1 = 0 ∨ (u.five [x] (rmU x)).1 = 6 then dead else true) ∧ Grows (fun k => D k ∨ F k) w w' := by
  obtain ⟨ev, nv, hl⟩ := h.l
  refine (lgate_any 113 #[] enters113 x w hl (fun er w2 => er = (u.five [x] (rmU x)).1 ∧ Pd w2 D sb (u.five [x] (rmU x)).2 ∧ Grows D w w2) ?_).mono ?_
  · refine Calls.mono (pRemoveM h.d x hx) ?_
    rintro e w2 ⟨rfl, hp, hg⟩
    exact ⟨_, rfl, ⟨rfl, hp, hg⟩, hg.block lb hl.blk.lt fun e => h.ap lb e hl.lF⟩
  · rintro e w' ⟨er, w2, rfl, ⟨rfl, hp, hg⟩, hc⟩
    have hl2 : Lg w2 F lb sb pre ev nv es las ns sz dead := hl.keep hg.size fun k hk hlt => hg.block k hlt fun hd => h.ap k hd hk
    have hld : Ld w2 D F lb sb (u.five [x] (rmU x)).2 pre es las ns sz dead := ⟨hp, ⟨ev, nv, hl2⟩, fun k hk => Nat.lt_of_lt_of_le (h.dl k hk) hg.size, fun k hk => Nat.lt_of_lt_of_le (h.fl k hk) hg.size, h.ap⟩
    refine ⟨rfl, ?_⟩
    rcases hc with ⟨hc, rfl⟩ | ⟨hc, rfl⟩
    · rw [if_pos hc]
      exact ⟨hld, hg.mono fun k hk => Or.inl hk⟩
    · rw [if_neg hc]
      exact ⟨hld.cell 6 _ fun _ _ h => h.kill, (hg.mono fun k hk => Or.inl hk).trans (Grows.cell (F := fun k => D k ∨ F k) _ _ _ _ (Or.inr hl2.lF)) fun k hk => Or.inl hk⟩
end
end Go.Proofs.YtnkjhooeklodcaaGreatDoor
end
