/-
  Both readings of a text agree: what is read of a number's text is the number.
-/
import Derived.Test.YtfciaohicbchgaaDoorRPos
namespace Go.Proofs.YtfciaohicbchgaaDoor
open Go.RowKit
theorem dig_of (r : Nat) (h : r < 10) : dig (UInt8.ofNat (48 + r)) = true ∧ (UInt8.ofNat (48 + r)).toNat - 48 = r := by
  have e : (UInt8.ofNat (48 + r)).toNat = 48 + r := by rw [UInt8.toNat_ofNat']; omega
  unfold dig
  rw [e]
  refine ⟨?_, by omega⟩
  rw [decide_eq_true (by omega), decide_eq_true (by omega)]; rfl
theorem numV_dec (n : Nat) : numV (Lib.decDigits n) = n ∧ ∀ d ∈ Lib.decDigits n, dig d = true := by
  induction n using Nat.strongRecOn with
  | ind n ih =>
    by_cases h : n < 10
    · have e : Lib.decDigits n = [UInt8.ofNat (48 + n)] := by rw [Lib.decDigits, dif_pos h]
      rw [e]
      obtain ⟨h1, h2⟩ := dig_of n h
      refine ⟨?_, fun d hd => ?_⟩
      · rw [show numV [UInt8.ofNat (48 + n)] = 0 * 10 + ((UInt8.ofNat (48 + n)).toNat - 48) from rfl, h2]; omega
      · rw [List.mem_singleton.1 hd]; exact h1
    · rw [decDigits_more h]
      obtain ⟨i1, i2⟩ := ih (n / 10) (by omega)
      obtain ⟨h1, h2⟩ := dig_of (n % 10) (by omega)
      refine ⟨by rw [numV_snoc, i1, h2]; omega, fun d hd => ?_⟩
      rcases List.mem_append.1 hd with hd | hd
      · exact i2 d hd
      · rw [List.mem_singleton.1 hd]; exact h1
theorem nDigits_le : ∀ (k u : Nat), u < 10 ^ (k + 1) → Lib.nDigits u ≤ k + 1
  | 0, u, h => by rw [Lib.nDigits_small (by simpa using h)]; exact Nat.le_refl _
  | k + 1, u, h => by
    by_cases hs : u < 10
    · rw [Lib.nDigits_small hs]; omega
    · rw [Lib.nDigits_big hs]
      have := nDigits_le k (u / 10) (by rw [Nat.pow_succ] at h; omega)
      omega
/-- What stands behind the sign. -/
def bodyS (m : Nat) : List UInt8 := Lib.decDigits (m / 65536) ++ (46 :: (hexS (m % 65536)).drop 1)
theorem textS_body (a : Int) : textS a = (if a < 0 then [45] else []) ++ bodyS a.natAbs := rfl
theorem hex_dig : ∀ n : Fin 16, hx (hexB n.val) = true ∧ hxV (hexB n.val) = n.val ∧ hexD (hexB n.val) = some n.val := by decide
theorem hexS_drop (f : Nat) : (hexS f).drop 1 = [hexB (f / 4096 % 16), hexB (f / 256 % 16), hexB (f / 16 % 16), hexB (f % 16)] := rfl
theorem hexs_val (f : Nat) (hf : f < 65536) : valH ((hexS f).drop 1) = f ∧ (∀ d ∈ (hexS f).drop 1, hx d = true) ∧ hexP ((hexS f).drop 1) = some f := by
  rw [hexS_drop]
  obtain ⟨a1, a2, a3⟩ := hex_dig ⟨f / 4096 % 16, Nat.mod_lt _ (by decide)⟩
  obtain ⟨b1, b2, b3⟩ := hex_dig ⟨f / 256 % 16, Nat.mod_lt _ (by decide)⟩
  obtain ⟨c1, c2, c3⟩ := hex_dig ⟨f / 16 % 16, Nat.mod_lt _ (by decide)⟩
  obtain ⟨d1, d2, d3⟩ := hex_dig ⟨f % 16, Nat.mod_lt _ (by decide)⟩
  simp only at a1 a2 a3 b1 b2 b3 c1 c2 c3 d1 d2 d3
  refine ⟨?_, ?_, ?_⟩
  · simp only [valH, List.foldl_cons, List.foldl_nil, a2, b2, c2, d2]
    omega
  · intro d hd
    simp only [List.mem_cons, List.not_mem_nil, or_false] at hd
    rcases hd with rfl | rfl | rfl | rfl <;> assumption
  · unfold hexP
    rw [if_neg (by simp)]
    simp only [hexM, a3, b3, c3, d3]
    rw [if_neg (by omega), if_neg (by omega), if_neg (by omega), if_neg (by omega)]
    simp only [okOf, Option.some.injEq]
    omega
theorem dec_few (v : Nat) (hv : v ≤ 99999) : 1 ≤ (Lib.decDigits v).length ∧ (Lib.decDigits v).length ≤ 5 := by
  rw [Lib.decDigits_length]
  exact ⟨Lib.nDigits_pos v, nDigits_le 4 v (by omega)⟩
theorem good_body (m : Nat) (hm : m ≤ 2147483648) : Good (bodyS m) (m / 65536) (m % 65536) := by
  obtain ⟨n1, n2⟩ := numV_dec (m / 65536)
  obtain ⟨v1, v2, _⟩ := hexs_val (m % 65536) (Nat.mod_lt _ (by decide))
  obtain ⟨l1, l2⟩ := dec_few (m / 65536) (by omega)
  have hlen : ((hexS (m % 65536)).drop 1).length = 4 := rfl
  refine ⟨(Lib.decDigits (m / 65536)).length, ?_, l2, l1, ?_, ?_, ?_, ?_, ?_⟩
  · rw [bodyS, List.length_append, List.length_cons, hlen]
  · simpa [bodyS] using n2
  · simp [bodyS]
  · have : (bodyS m).drop ((Lib.decDigits (m / 65536)).length + 1) = (hexS (m % 65536)).drop 1 := by simp [bodyS, List.drop_append]
    rw [this]; exact v2
  · simp [bodyS, n1]
  · have : (bodyS m).drop ((Lib.decDigits (m / 65536)).length + 1) = (hexS (m % 65536)).drop 1 := by simp [bodyS, List.drop_append]
    rw [this, v1]
/-- Digits are parsed as their number. -/
theorem parse_digs (M : Nat) (hM : M ≤ 4294967295) : ∀ (l : List UInt8) (acc : Nat), (∀ d ∈ l, dig d = true) → l.foldl (fun n d => n * 10 + (d.toNat - 48)) acc ≤ M → Lib.parseUintM M acc l = .ok (l.foldl (fun n d => n * 10 + (d.toNat - 48)) acc)
  | [], acc, _, _ => rfl
  | c :: r, acc, h, hb => by
    have hc := h c (by simp)
    simp only [dig, Bool.and_eq_true, decide_eq_true_eq] at hc
    have mono : ∀ (l : List UInt8) (a : Nat), a ≤ l.foldl (fun n d => n * 10 + (d.toNat - 48)) a := by
      intro l
      induction l with
      | nil => intro a; exact Nat.le_refl _
      | cons d l ih => intro a; rw [List.foldl_cons]; have := ih (a * 10 + (d.toNat - 48)); omega
    rw [List.foldl_cons] at hb ⊢
    have h1 := mono r (acc * 10 + (c.toNat - 48))
    rw [Lib.parseUintM, if_pos hc, if_neg (by omega), if_neg (by omega)]
    exact parse_digs M hM r _ (fun d hd => h d (by simp [hd])) hb
theorem decP_dec (v : Nat) (hv : v ≤ 99999) : decP (Lib.decDigits v) = some v := by
  obtain ⟨h1, h2⟩ := numV_dec v
  obtain ⟨l1, _⟩ := dec_few v hv
  unfold decP Lib.parseUintB
  rw [if_neg (by intro h; rw [h] at l1; simp at l1)]
  have e : (Lib.decDigits v).foldl (fun n d => n * 10 + (d.toNat - 48)) 0 = v := h1
  have := parse_digs (2 ^ 32 - 1) (by decide) (Lib.decDigits v) 0 h2 (by rw [e]; omega)
  rw [this]
  show some (numV (Lib.decDigits v)) = some v
  rw [h1]
theorem cut_body (m : Nat) : (Lib.cut (bodyS m) [46]).1 = Lib.decDigits (m / 65536) ∧ (Lib.cut (bodyS m) [46]).2.1 = (hexS (m % 65536)).drop 1 := by
  obtain ⟨_, h2⟩ := numV_dec (m / 65536)
  have hix : Lib.index (bodyS m) [46] = ((Lib.decDigits (m / 65536)).length : Int) := by
    refine Lib.index_first (by simp [bodyS]) ?_ ?_
    · simp [Lib.occAt, bodyS]
    · intro j hj
      have hget : (bodyS m)[j]? = some ((Lib.decDigits (m / 65536))[j]) := by
        rw [bodyS, List.getElem?_append_left hj, List.getElem?_eq_getElem hj]
      have hd := h2 _ (List.getElem_mem hj)
      unfold Lib.occAt
      have hdrop : (bodyS m).drop j = (Lib.decDigits (m / 65536))[j] :: (bodyS m).drop (j + 1) := by
        have hjl : j < (bodyS m).length := (List.getElem?_eq_some_iff.1 hget).1
        rw [List.drop_eq_getElem_cons hjl]
        congr 1
        exact (List.getElem?_eq_some_iff.1 hget).2
      rw [hdrop]
      simp only [List.isPrefixOf, Bool.and_true]
      apply beq_false_of_ne
      intro e
      rw [← e] at hd
      exact absurd hd (by decide)
  unfold Lib.cut
  rw [hix, if_pos (by omega)]
  constructor
  · simp [bodyS]
  · simp [bodyS, List.drop_append]
theorem body_head (m : Nat) : ∃ d r, bodyS m = d :: r ∧ dig d = true := by
  obtain ⟨_, h2⟩ := numV_dec (m / 65536)
  cases hd : Lib.decDigits (m / 65536) with
  | nil =>
    have : 1 ≤ (Lib.decDigits (m / 65536)).length := by rw [Lib.decDigits_length]; exact Lib.nDigits_pos _
    rw [hd] at this; simp at this
  | cons d r =>
    rw [hd] at h2
    exact ⟨d, _, by rw [bodyS, hd]; rfl, h2 d (by simp)⟩
theorem readS_text (a : Int) (ha : In32 a) : readS (textS a) = some a := by
  have h1 := ha.1; have h2 := ha.2
  obtain ⟨d, r, hb, hdg⟩ := body_head a.natAbs
  have hd45 : d ≠ 45 := by intro e; rw [e] at hdg; exact absurd hdg (by decide)
  have hP : Lib.hasPrefix (textS a) [45] = decide (a < 0) := by
    rw [textS_body, hb]
    by_cases hn : a < 0
    · simp [Lib.hasPrefix, hn]
    · have e : ((45 : UInt8) == d) = false := beq_false_of_ne (Ne.symm hd45)
      simp [Lib.hasPrefix, hn, List.isPrefixOf, e]
  have hT : Lib.trimPrefix (textS a) [45] = bodyS a.natAbs := by
    unfold Lib.trimPrefix
    rw [hP]
    by_cases hn : a < 0
    · simp [hn, textS_body]
    · simp [hn, textS_body]
  obtain ⟨c1, c2⟩ := cut_body a.natAbs
  unfold readS
  rw [hT, c1, c2, decP_dec _ (by omega), (hexs_val _ (Nat.mod_lt _ (by decide))).2.2, hP]
  simp only [decide_eq_true_eq, Option.some.injEq]
  split <;> omega
theorem parseS_text (a : Int) (ha : In32 a) : parseS (textS a) = (a, 0) := by
  have h1 := ha.1; have h2 := ha.2
  have e : heldI a = a := by unfold heldI; rw [if_neg (by omega), if_neg (by omega)]
  unfold parseS
  rw [readS_text a ha]
  simp only [e, if_true]
theorem parseS_no (s : List UInt8) (h : ¬ ∃ a, In32 a ∧ textS a = s) : parseS s = (0, 3) := by
  unfold parseS
  split
  · rename_i n _
    exact if_neg fun e => h ⟨heldI n, heldI_in n, e⟩
  · rfl
/-- The document's answer is the program's. -/
theorem RefAns.eq {s T : List UInt8} {ng : Bool} {e : Ending} (h : RefAns s T ng e) (hT : ∀ a, In32 a → textS a = s → T = bodyS a.natAbs ∧ (ng = true ↔ a < 0)) : e = .returned (.tuple #[.int .i32 (parseS s).1, .int .i64 (parseS s).2]) := by
  by_cases hs : ∃ a, In32 a ∧ textS a = s
  · obtain ⟨a, ha, rfl⟩ := hs
    have h1 := ha.1; have h2 := ha.2
    obtain ⟨hb, hn⟩ := hT a ha rfl
    have hg := good_body a.natAbs (by omega)
    rw [← hb] at hg
    rw [parseS_text a ha]
    rcases h with ⟨x, f, hx, rfl⟩ | ⟨hno, _⟩
    · obtain ⟨rfl, rfl⟩ := hx.uniq hg
      have hv : sgn ng (((a.natAbs / 65536 : Nat) : Int) * 65536 + ((a.natAbs % 65536 : Nat) : Int)) = a := by
        unfold sgn
        split
        · rename_i e; have := hn.1 e; omega
        · rename_i e
          have : ¬ a < 0 := fun k => e (hn.2 k)
          omega
      rw [hv]
      unfold pairF
      rw [if_pos ⟨⟨h1, h2⟩, rfl⟩]
    · exact absurd ⟨_, _, hg⟩ hno
  · rw [parseS_no s hs]
    rcases h with ⟨x, f, _, rfl⟩ | ⟨_, rfl⟩
    · unfold pairF
      rw [if_neg fun k => hs ⟨_, k.1, k.2⟩]
    · rfl
theorem RefParse_any (s : List UInt8) (hl : s.length ≤ 1000) (w : World) :
    Calls Tryd.prog 22 #[.string ⟨s.toArray⟩] w fun e w' => e = .returned (.tuple #[.int .i32 (parseS s).1, .int .i64 (parseS s).2]) ∧ Below w.heap.size w w' := by
  by_cases h45 : ∃ T, s = 45 :: T
  · obtain ⟨T, hs⟩ := h45
    refine (RefParse_neg T s hs hl w).mono fun e w' ⟨h, hb⟩ => ⟨h.eq fun a ha ht => ?_, hb⟩
    rw [hs, textS_body] at ht
    by_cases hn : a < 0
    · rw [if_pos hn] at ht
      injection ht with _ ht
      exact ⟨ht.symm, by simp [hn]⟩
    · rw [if_neg hn, List.nil_append] at ht
      obtain ⟨d, r, hb, hdg⟩ := body_head a.natAbs
      rw [hb] at ht
      injection ht with ht _
      rw [ht] at hdg
      exact absurd hdg (by decide)
  · refine (RefParse_pos s (fun c hc e => ?_) hl w).mono fun e w' ⟨h, hb⟩ => ⟨h.eq fun a ha ht => ?_, hb⟩
    · cases s with
      | nil => simp at hc
      | cons x r =>
        simp at hc
        subst hc
        exact h45 ⟨r, by congr 1; exact UInt8.toNat_inj.1 e⟩
    · rw [textS_body] at ht
      by_cases hn : a < 0
      · rw [if_pos hn] at ht
        exact absurd ⟨_, ht.symm⟩ h45
      · rw [if_neg hn, List.nil_append] at ht
        exact ⟨ht.symm, by simp [hn]⟩
end Go.Proofs.YtfciaohicbchgaaDoor
