/-
  A word as text, in plain words.
-/
import Derived.Test.YtkfnmdhhiigceaaProg
import Derived.WalkKit
namespace Go.Proofs.Ytkfnmdhhiigceaa
/-- A digit's sign, and a sign's digit. -/
def hx (n : Int) : Int := if n < 10 then 48 + n else 87 + n
def dg (c : Int) : Int := if 48 ≤ c ∧ c ≤ 57 then c - 48 else if 97 ≤ c ∧ c ≤ 102 then c - 87 else -1
/-- The sign at place k of a word's text. -/
def ch (t : List Int) (k : Nat) : Int := if k % 9 = 8 then 45 else if k % 9 % 2 = 0 then hx (t.getD (4 * (k / 9) + k % 9 / 2) 0 / 16) else hx (t.getD (4 * (k / 9) + k % 9 / 2) 0 % 16)
def txt (t : List Int) : List Int := (List.range 35).map (ch t)
/-- The place of byte i's first digit. -/
def at0 (i : Nat) : Nat := 2 * i + i / 4
/-- How many signs the first i bytes make. -/
def L (i : Nat) : Nat := 2 * i + (i - 1) / 4
def unT (s : List Int) : List Int := (List.range 16).map fun i => 16 * dg (s.getD (at0 i) 0) + dg (s.getD (at0 i + 1) 0)
/-- It is a word's text: 35 signs, each of its kind. -/
def isT (s : List Int) : Prop := s.length = 35 ∧ ∀ k, k < 35 → if k % 9 = 8 then s.getD k 0 = 45 else 0 ≤ dg (s.getD k 0)
/-- Sixteen bytes. -/
def Tk (t : List Int) : Prop := t.length = 16 ∧ ∀ z ∈ t, 0 ≤ z ∧ z < 256
theorem Tk.get {t : List Int} (h : Tk t) (i : Nat) : 0 ≤ t.getD i 0 ∧ t.getD i 0 < 256 := by
  by_cases hi : i < t.length
  · rw [show t.getD i 0 = t[i] by simp [List.getD, hi]]; exact h.2 _ (List.getElem_mem hi)
  · rw [show t.getD i 0 = 0 by rw [List.getD, List.getElem?_eq_none (show t.length ≤ i by omega)]; rfl]; omega
theorem txt_len (t : List Int) : (txt t).length = 35 := by simp [txt]
theorem txt_get (t : List Int) (k : Nat) (h : k < 35) : (txt t).getD k 0 = ch t k := by simp [txt, List.getD, h]
theorem hx_bounds {n : Int} (h0 : 0 ≤ n) (h1 : n < 16) : 48 ≤ hx n ∧ hx n ≤ 102 := by unfold hx; split <;> omega
theorem dg_hx {n : Int} (h0 : 0 ≤ n) (h1 : n < 16) : dg (hx n) = n := by unfold dg hx; split <;> split <;> (try split) <;> omega
theorem hx_dg {c : Int} (h : 0 ≤ dg c) : hx (dg c) = c ∧ dg c < 16 := by
  unfold dg at *
  split at h
  · rename_i h1; rw [if_pos h1]; unfold hx; split <;> omega
  · rename_i h1; split at h
    · rename_i h2; rw [if_neg h1, if_pos h2]; unfold hx; split <;> omega
    · omega
theorem dg_le (c : Int) : -1 ≤ dg c ∧ dg c < 16 := by unfold dg; split <;> (try split) <;> omega
theorem ch_byt {t : List Int} (h : Tk t) (k : Nat) : 0 ≤ ch t k ∧ ch t k < 256 := by
  have hb := h.get (4 * (k / 9) + k % 9 / 2)
  unfold ch
  split
  · omega
  · split
    · have := hx_bounds (n := t.getD (4 * (k / 9) + k % 9 / 2) 0 / 16) (by omega) (by omega); omega
    · have := hx_bounds (n := t.getD (4 * (k / 9) + k % 9 / 2) 0 % 16) (by omega) (by omega); omega
theorem txt_byt {t : List Int} (h : Tk t) : ∀ z ∈ txt t, 0 ≤ z ∧ z < 256 := by
  intro z hz
  simp only [txt, List.mem_map, List.mem_range] at hz
  obtain ⟨k, _, rfl⟩ := hz
  exact ch_byt h k
theorem txt_isT {t : List Int} (h : Tk t) : isT (txt t) := by
  refine ⟨txt_len t, fun k hk => ?_⟩
  have hb := h.get (4 * (k / 9) + k % 9 / 2)
  rw [txt_get t k hk]
  unfold ch
  split
  · rfl
  · split
    · rw [dg_hx (by omega) (by omega)]; omega
    · rw [dg_hx (by omega) (by omega)]; omega
theorem unT_len (s : List Int) : (unT s).length = 16 := by simp [unT]
theorem unT_get (s : List Int) (i : Nat) (h : i < 16) : (unT s).getD i 0 = 16 * dg (s.getD (at0 i) 0) + dg (s.getD (at0 i + 1) 0) := by simp [unT, List.getD, h]
theorem ext16 {a b : List Int} (ha : a.length = 16) (hb : b.length = 16) (h : ∀ i, i < 16 → a.getD i 0 = b.getD i 0) : a = b := by
  apply List.ext_getElem (by omega)
  intro i h1 h2
  have := h i (by omega)
  simpa [List.getD, h1, h2] using this
theorem ext35 {a b : List Int} (ha : a.length = 35) (hb : b.length = 35) (h : ∀ i, i < 35 → a.getD i 0 = b.getD i 0) : a = b := by
  apply List.ext_getElem (by omega)
  intro i h1 h2
  have := h i (by omega)
  simpa [List.getD, h1, h2] using this
theorem at0_parts {i : Nat} (h : i < 16) : at0 i / 9 = i / 4 ∧ at0 i % 9 = 2 * (i % 4) ∧ (at0 i + 1) / 9 = i / 4 ∧ (at0 i + 1) % 9 = 2 * (i % 4) + 1 ∧ at0 i + 1 < 35 := by unfold at0; omega
theorem unT_txt {t : List Int} (h : Tk t) : unT (txt t) = t := by
  refine ext16 (unT_len _) h.1 fun i hi => ?_
  obtain ⟨e1, e2, e3, e4, e5⟩ := at0_parts hi
  have hb := h.get i
  rw [unT_get _ i hi, txt_get _ _ (by omega), txt_get _ _ e5]
  unfold ch
  rw [e1, e2, e3, e4, if_neg (by omega), if_pos (by omega), if_neg (by omega), if_neg (by omega), show 4 * (i / 4) + 2 * (i % 4) / 2 = i by omega, show 4 * (i / 4) + (2 * (i % 4) + 1) / 2 = i by omega, dg_hx (by omega) (by omega), dg_hx (by omega) (by omega)]
  omega
theorem unT_tk {s : List Int} (h : isT s) : Tk (unT s) := by
  refine ⟨unT_len s, fun z hz => ?_⟩
  simp only [unT, List.mem_map, List.mem_range] at hz
  obtain ⟨i, hi, rfl⟩ := hz
  obtain ⟨e1, e2, e3, e4, e5⟩ := at0_parts hi
  have h1 := h.2 (at0 i) (by omega)
  have h2 := h.2 (at0 i + 1) e5
  rw [if_neg (by omega)] at h1 h2
  have := dg_le (s.getD (at0 i) 0)
  have := dg_le (s.getD (at0 i + 1) 0)
  omega
theorem txt_unT {s : List Int} (h : isT s) : txt (unT s) = s := by
  refine ext35 (txt_len _) h.1 fun k hk => ?_
  rw [txt_get _ _ hk]
  have h1 := h.2 k hk
  unfold ch
  split
  · rename_i e; rw [if_pos e] at h1; exact h1.symm
  · rename_i e
    rw [if_neg e] at h1
    obtain ⟨e1, e2⟩ := hx_dg h1
    rw [unT_get _ _ (by omega)]
    have k1 := dg_le (s.getD (at0 (4 * (k / 9) + k % 9 / 2)) 0)
    have k2 := dg_le (s.getD (at0 (4 * (k / 9) + k % 9 / 2) + 1) 0)
    have i16 : 4 * (k / 9) + k % 9 / 2 < 16 := by omega
    obtain ⟨f1, f2, f3, f4, f5⟩ := at0_parts i16
    have m1 := h.2 _ (show at0 (4 * (k / 9) + k % 9 / 2) < 35 by omega)
    have m2 := h.2 _ f5
    rw [if_neg (by omega)] at m1 m2
    split
    · rename_i e3
      rw [show at0 (4 * (k / 9) + k % 9 / 2) = k by unfold at0; omega] at *
      rw [show (16 * dg (s.getD k 0) + dg (s.getD (k + 1) 0)) / 16 = dg (s.getD k 0) by omega]
      exact e1
    · rename_i e3
      rw [show at0 (4 * (k / 9) + k % 9 / 2) + 1 = k by unfold at0; omega] at *
      rw [show (16 * dg (s.getD (at0 (4 * (k / 9) + k % 9 / 2)) 0) + dg (s.getD k 0)) % 16 = dg (s.getD k 0) by omega]
      exact e1
/-- A row of bytes is a word's text just if each sign is of its kind. -/
theorem isT_iff {s : List Int} : isT s ↔ ∃ t, Tk t ∧ s = txt t :=
  ⟨fun h => ⟨unT s, unT_tk h, (txt_unT h).symm⟩, by rintro ⟨t, h, rfl⟩; exact txt_isT h⟩
theorem txt_inj {t u : List Int} (h : Tk t) (k : Tk u) (e : txt t = txt u) : t = u := by rw [← unT_txt h, ← unT_txt k, e]
/-- What Text has laid behind i bytes. -/
def pre (t : List Int) (i : Nat) : List Int := (txt t).take (L i)
theorem pre_zero (t : List Int) : pre t 0 = [] := by simp [pre, L]
theorem pre_all (t : List Int) : pre t 16 = txt t := by rw [pre, show L 16 = 35 by rfl]; exact List.take_of_length_le (by rw [txt_len]; omega)
theorem pre_len (t : List Int) {i : Nat} (h : i ≤ 16) : (pre t i).length = L i := by
  rw [pre, List.length_take, txt_len]
  unfold L
  omega
theorem take_one (s : List Int) (n : Nat) (h : n < s.length) : s.take (n + 1) = s.take n ++ [s.getD n 0] := by
  rw [List.take_succ_eq_append_getElem h]
  simp [List.getD, h]
theorem pre_bar (t : List Int) {i : Nat} (h : i < 16) (h0 : 0 < i) (h4 : i % 4 = 0) : (txt t).take (at0 i) = pre t i ++ [45] := by
  have e : at0 i = L i + 1 := by unfold at0 L; omega
  have e2 : L i % 9 = 8 := by unfold L; omega
  have e3 : L i < 35 := by unfold L; omega
  rw [e, take_one _ _ (by rw [txt_len]; exact e3), txt_get _ _ e3, pre]
  unfold ch
  rw [if_pos e2]
theorem pre_none (t : List Int) {i : Nat} (h : ¬ (0 < i ∧ i % 4 = 0)) : (txt t).take (at0 i) = pre t i := by
  rw [pre, show at0 i = L i by unfold at0 L; omega]
theorem pre_two (t : List Int) {i : Nat} (h : i < 16) : pre t (i + 1) = (txt t).take (at0 i) ++ [hx (t.getD i 0 / 16), hx (t.getD i 0 % 16)] := by
  obtain ⟨e1, e2, e3, e4, e5⟩ := at0_parts h
  rw [pre, show L (i + 1) = at0 i + 1 + 1 by unfold at0 L; omega, take_one _ _ (by rw [txt_len]; exact e5), take_one _ _ (by rw [txt_len]; omega), txt_get _ _ e5, txt_get _ _ (by omega)]
  unfold ch
  rw [e1, e2, e3, e4, if_neg (by omega), if_pos (by omega), if_neg (by omega), if_neg (by omega), show 4 * (i / 4) + 2 * (i % 4) / 2 = i by omega, show 4 * (i / 4) + (2 * (i % 4) + 1) / 2 = i by omega, List.append_assoc]
  rfl
end Go.Proofs.Ytkfnmdhhiigceaa
