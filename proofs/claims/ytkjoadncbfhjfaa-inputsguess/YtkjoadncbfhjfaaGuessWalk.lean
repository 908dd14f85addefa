/-
  InputsGuess' own walk.
-/
import Derived.Test.YtkjoadncbfhjfaaKnown
import Derived.Test.YtkjoadncbfhjfaaArgIn
namespace Go.Proofs.Ytkjoadncbfhjfaa
open Go.RowKit
theorem down_lt : ∀ (l : List Pl) (m b : Nat) (y : Int), down l m = some (b, y) → b < m ∧ (at0 l b).2 = true
  | l, 0, b, y, h => by simp [down] at h
  | l, m + 1, b, y, h => by
    simp only [down] at h
    split at h
    · simp only [Option.some.injEq, Prod.mk.injEq] at h
      obtain ⟨rfl, rfl⟩ := h
      exact ⟨by omega, ‹_›⟩
    · have := down_lt l m b y h
      exact ⟨by omega, this.2⟩
theorem down_set_no {l : List Pl} {f : Nat} (hf : f < l.length) (x : Int) : ∀ m, m ≤ f → down (l.set f (x, true)) m = down l m
  | 0, _ => rfl
  | m + 1, h => by
    simp only [down]
    rw [at0_set hf, if_neg (show ¬ m = f by omega), down_set_no hf x m (by omega)]
theorem down_set {l : List Pl} {f : Nat} (hf : f < l.length) (x : Int) (hu : (at0 l f).2 = false) : ∀ m, f < m → down (l.set f (x, true)) m = (match down l m with | some (b, y) => if b < f then some (f, x) else some (b, y) | none => some (f, x))
  | 0, h => by omega
  | m + 1, h => by
    simp only [down]
    rw [at0_set hf]
    by_cases e : m = f
    · subst e
      rw [if_pos rfl, if_pos rfl, if_neg (by rw [hu]; decide)]
      cases hd : down l m with
      | none => rfl
      | some p =>
        obtain ⟨b, y⟩ := p
        have := (down_lt l m b y hd).1
        simp only
        rw [if_pos this]
    · rw [if_neg e]
      split
      · simp only
        rw [if_neg (by omega)]
      · exact down_set hf x hu m (by omega)
/-- How best, v and is stand beside the row. -/
def GI (l : List Pl) (ask : Nat) (best v : Int) (is : Bool) : Prop :=
  (down l (min (ask + 1) l.length) = none ∧ best = -1 ∧ v = 0 ∧ is = false) ∨ ∃ b : Nat, down l (min (ask + 1) l.length) = some (b, v) ∧ best = b ∧ is = decide ((b : Int) = ask)
theorem GI.get {l : List Pl} {ask : Nat} {best v : Int} {is : Bool} (h : GI l ask best v is) : getP l ask = (v, is) := by
  unfold getP
  rw [if_neg (by omega), Int.toNat_natCast]
  rcases h with ⟨h, _, rfl, rfl⟩ | ⟨b, h, _, rfl⟩
  · rw [h]; rfl
  · rw [h]; rfl
theorem GI.start (n ask : Nat) : GI (zeros n) ask (-1) 0 false := by
  refine Or.inl ⟨?_, rfl, rfl, rfl⟩
  have : ∀ m, down (zeros n) m = none := by
    intro m
    induction m with
    | zero => rfl
    | succ m ih => simp only [down]; rw [zeros_at, if_neg (by decide), ih]
  exact this _
theorem GI.put {l : List Pl} {ask : Nat} {best v : Int} {is : Bool} (h : GI l ask best v is) {f : Nat} (hf : f < l.length) (hu : (at0 l f).2 = false) (x : Int) :
    (f ≤ ask → best < f → GI (l.set f (x, true)) ask f x (is || decide ((f : Int) = ask))) ∧ (¬ (f ≤ ask ∧ best < (f : Int)) → GI (l.set f (x, true)) ask best v (is || decide ((f : Int) = ask))) := by
  unfold GI
  rw [List.length_set]
  refine ⟨fun h1 h2 => ?_, fun h1 => ?_⟩
  · have hm : f < min (ask + 1) l.length := by omega
    rw [down_set hf x hu _ hm]
    refine Or.inr ⟨f, ?_, rfl, ?_⟩
    · rcases h with ⟨h, _⟩ | ⟨b, h, rfl, _⟩
      · rw [h]
      · rw [h]
        simp only
        rw [if_pos (by omega)]
    · rcases h with ⟨h, _, _, rfl⟩ | ⟨b, h, rfl, rfl⟩
      · simp
      · have : ¬ ((b : Int) = ask) := by omega
        simp [this]
  · by_cases hm : f < min (ask + 1) l.length
    · rw [down_set hf x hu _ hm]
      rcases h with ⟨h, rfl, _⟩ | ⟨b, h, rfl, rfl⟩
      · exact absurd ⟨by omega, by omega⟩ h1
      · have hb := down_lt _ _ _ _ h
        have hne : b ≠ f := fun e => by rw [e, hu] at hb; cases hb.2
        refine Or.inr ⟨b, ?_, rfl, ?_⟩
        · rw [h]
          simp only
          rw [if_neg (by omega)]
        · have : ¬ ((f : Int) = ask) := by omega
          simp [this]
    · rw [down_set_no hf x _ (by omega)]
      have : ¬ ((f : Int) = ask) := by omega
      rw [decide_eq_false this, Bool.or_false]
      exact h
theorem zeros_get (n : Nat) (f : Int) : getP (zeros n) f = (0, false) := by
  by_cases h : f < 0
  · simp [getP, h]
  · obtain ⟨k, rfl⟩ : ∃ k : Nat, f = (k : Int) := ⟨f.toNat, by omega⟩
    exact (GI.start n k).get
theorem guess_out (a0 : Option Addr) (len0 cap0 : Nat) (a1 : Option Addr) (len1 cap1 : Nat) (ask : Int) (w : World) (h : 40 < len0 ∨ len1 < len0 ∨ ask < 0 ∨ 100 < ask) :
    Calls Try.prog 6 #[.slice a0 len0 cap0, .slice a1 len1 cap1, .int .i64 ask] w fun e w' => e = .returned (.bool true) ∧ Below w.heap.size w w' := by
  have C := known_any w
  by_cases h1 : 40 < (len0 : Int)
  · clear h
    go_enter Try.func6, Try.ntmps6
    go_wp2_with (go_at_call 7; refine C.mono ?_; rintro e w1 ⟨rfl, hb⟩)
    go_ret
    exact ⟨rfl, hb⟩
  · by_cases h2 : (len1 : Int) < (len0 : Int)
    · clear h
      go_enter Try.func6, Try.ntmps6
      go_wp2_with (go_at_call 7; refine C.mono ?_; rintro e w1 ⟨rfl, hb⟩)
      go_ret
      exact ⟨rfl, hb⟩
    · by_cases h3 : ask < 0
      · clear h
        go_enter Try.func6, Try.ntmps6
        go_wp2_with (go_at_call 7; refine C.mono ?_; rintro e w1 ⟨rfl, hb⟩)
        go_ret
        exact ⟨rfl, hb⟩
      · have h4 : 100 < ask := by omega
        clear h
        go_enter Try.func6, Try.ntmps6
        go_wp2_with (go_at_call 7; refine C.mono ?_; rintro e w1 ⟨rfl, hb⟩)
        go_ret
        exact ⟨rfl, hb⟩
theorem and1k (a : Int) : ∃ A : Nat, bits .and .i64 a 1023 = (A : Int) ∧ A < 1024 := by
  have e : bits .and .i64 a 1023 = IntKind.i64.wrap (((BitVec.ofInt 64 a &&& BitVec.ofInt 64 1023).toNat : Nat) : Int) := rfl
  have hb : (BitVec.ofInt 64 a &&& BitVec.ofInt 64 1023).toNat < 1024 := by
    rw [BitVec.toNat_and]
    have : (BitVec.ofInt 64 1023).toNat = 1023 := by decide
    rw [this]
    exact Nat.lt_of_le_of_lt Nat.and_le_right (by decide)
  refine ⟨_, ?_, hb⟩
  rw [e]
  generalize (BitVec.ofInt 64 a &&& BitVec.ofInt 64 1023).toNat = n at *
  simp [IntKind.wrap, IntKind.bits, IntKind.signed]
  omega
variable {lo hi qb g0 g1 : Nat}
theorem Qp.drew {w : World} {l0 l1 : List Pl} (h : Qp w lo hi qb g0 g1 l0 l1) : Qp w.drew lo hi qb g0 g1 l0 l1 := h.keep fun _ _ _ => rfl
theorem put_new {w : World} {l0 l1 : List Pl} (h : Qp w lo hi qb g0 g1 l0 l1) {F : Nat} (hF : F < l1.length) (hu : (at0 l1 F).2 = false) (x : Int) : Calls Try.prog 10 #[.pointer (some ⟨qb, 0, none⟩), .int .i64 1, .int .i64 (F : Int), .int .u16 x] w fun e w' => e = .returned (.int .i64 0) ∧ Qp w' lo hi qb g0 g1 l0 (l1.set F (x, true)) ∧ Og (fun k => lo ≤ k ∧ k < hi) w w' := by
  have hE : putE l1 F x = 0 := by
    unfold putE
    rw [if_neg (by omega), Int.toNat_natCast, if_neg (by rw [hu]; decide)]
  refine (put_any h 1 F x).mono ?_
  rintro e w1 ⟨rfl, hp⟩
  have hq := hp.q
  rw [if_neg (by decide), if_pos rfl] at hq
  have hL : putL l1 F x = l1.set F (x, true) := by unfold putL; rw [if_pos hE, Int.toNat_natCast]
  rw [hL] at hq
  exact ⟨by rw [show sel 1 l0 l1 = l1 from rfl, hE], hq, hp.og⟩
theorem put_old {w : World} {l0 l1 : List Pl} (h : Qp w lo hi qb g0 g1 l0 l1) {F : Nat} (hF : F < l1.length) (hu : (at0 l1 F).2 = true) (x : Int) : Calls Try.prog 10 #[.pointer (some ⟨qb, 0, none⟩), .int .i64 1, .int .i64 (F : Int), .int .u16 x] w fun e w' => ∃ E : Int, e = .returned (.int .i64 E) ∧ ¬ E = 0 ∧ Qp w' lo hi qb g0 g1 l0 l1 ∧ Og (fun k => lo ≤ k ∧ k < hi) w w' := by
  have hE : ¬ putE l1 F x = 0 := by
    unfold putE
    rw [if_neg (by omega), Int.toNat_natCast, if_pos hu]
    split <;> decide
  refine (put_any h 1 F x).mono ?_
  rintro e w1 ⟨rfl, hp⟩
  have hq := hp.q
  rw [if_neg (by decide), if_pos rfl] at hq
  have hL : putL l1 F x = l1 := by unfold putL; rw [if_neg hE]
  rw [hL] at hq
  exact ⟨_, rfl, hE, hq, hp.og⟩
theorem get_gi {w : World} {l0 l1 : List Pl} (h : Qp w lo hi qb g0 g1 l0 l1) {ask : Nat} {best v : Int} {is : Bool} (hg : GI l1 ask best v is) : Calls Try.prog 12 #[.pointer (some ⟨qb, 0, none⟩), .int .i64 1, .int .i64 (ask : Int)] w fun e w' => e = .returned (.tuple #[.int .u16 v, .bool is]) ∧ w' = w := by
  have := get_any h 1 (ask : Int)
  rw [show sel 1 l0 l1 = l1 from rfl, hg.get] at this
  exact this
theorem get_z {w : World} {l1 : List Pl} {n : Nat} (h : Qp w lo hi qb g0 g1 (zeros n) l1) (f : Int) : Calls Try.prog 12 #[.pointer (some ⟨qb, 0, none⟩), .int .i64 0, .int .i64 f] w fun e w' => e = .returned (.tuple #[.int .u16 0, .bool false]) ∧ w' = w := by
  have := get_any h 0 f
  rw [show sel 0 (zeros n) l1 = zeros n from rfl, zeros_get] at this
  exact this
set_option maxHeartbeats 2000000 in
set_option maxRecDepth 20000 in
theorem guess_in (a0 : Option Addr) (len0 cap0 : Nat) (ks : List Int) (a1 : Option Addr) (len1 cap1 : Nat) (xs : List Int) (ask : Nat) (w : World) (r0 : Rw w 1 i64c a0 len0 cap0 ks) (r1 : Rw w 1 u16c a1 len1 cap1 xs)
    (h1 : len0 ≤ 40) (h2 : len0 ≤ len1) (h3 : ask ≤ 100) :
    Calls Try.prog 6 #[.slice a0 len0 cap0, .slice a1 len1 cap1, .int .i64 (ask : Int)] w fun e w' => e = .returned (.bool true) ∧ Below w.heap.size w w' := by
  have C := hid_into (new_any w 60 (by decide) (by decide))
  have R0 := hid_into r0
  have R1 := hid_into r1
  clear r0 r1
  have h1' : (len0 : Int) ≤ 40 := by omega
  have h2' : ¬ (len1 : Int) < (len0 : Int) := by omega
  have h3' : ¬ 100 < (ask : Int) := by omega
  go_enter Try.func6, Try.ntmps6
  go_wp2_with (go_at_call 8; refine C.out.mono ?_; rintro e w1 ⟨qb, g0, g1, rfl, hq, hb, hs⟩; replace hs := hid_into hs)
  go_loopw [9, 10, 11, 12] (fun tb tv ts ti wr => ∃ (k : Nat) (l1 : List Pl) (best v : Int) (is : Bool), k ≤ len0 ∧ tb = .int .i64 best ∧ tv = .int .u16 v ∧ ts = .bool is ∧ ti = .int .i64 (k : Int) ∧ Hid (GI l1 ask best v is) ∧ Hid (l1.length = 60) ∧ Hid (Qp wr w.heap.size (w.heap.size + 3) qb g0 g1 (zeros 60) l1) ∧ Hid (Below w.heap.size w wr)) (fun _ _ _ ti _ => len0 - (intOf ti).toNat)
  case atStart => exact ⟨0, zeros 60, -1, 0, false, Nat.zero_le _, rfl, rfl, rfl, rfl, GI.start _ _, zeros_len _, hq, hb⟩
  case round =>
    clear hb hq
    obtain ⟨k, l1, best, v, is, hk, rfl, rfl, rfl, rfl, HG, HL, HQ, HB⟩ := hrel
    by_cases hlt : k < len0
    · have hlt2 : (k : Int) < (len0 : Int) := by omega
      have hlt3 : (k : Int) < (len1 : Int) := by omega
      obtain ⟨z, hz⟩ : ∃ z, ks[k]? = some z := ⟨_, List.getElem?_eq_getElem (by rw [R0.out.len]; exact hlt)⟩
      obtain ⟨x, hx⟩ : ∃ x, xs[k]? = some x := ⟨_, List.getElem?_eq_getElem (by rw [R1.out.len]; omega)⟩
      obtain ⟨ga, oa, rfl, ca⟩ := (R0.out.below HB.out (Nat.le_refl _)).at' k z hz
      obtain ⟨gb, ob, rfl, cb⟩ := (R1.out.below HB.out (Nat.le_refl _)).at' k x hx
      have CB : Hid (∀ W, Below w.heap.size w W → W.cell? ⟨gb, ob + k, none⟩ = some (.int .u16 x)) := by
        intro W hW
        obtain ⟨g', o', e', c'⟩ := (R1.out.below hW (Nat.le_refl _)).at' k x hx
        cases e'
        have := c' 0 _ rfl
        simpa only [Nat.mul_one, Nat.add_zero] using this
      have da := ca 0 _ rfl
      have db := cb 0 _ rfl
      simp only [Nat.mul_one, Nat.add_zero] at da db
      clear ca cb hz hx
      obtain ⟨A, hA, hA2⟩ := and1k z
      obtain ⟨F, hF, hF2⟩ : ∃ F : Nat, F = A % 60 ∧ F < 60 := ⟨_, rfl, by omega⟩
      have hT : (A : Int).tmod 60 = (F : Int) := by rw [hF]; rfl
      clear hF hA2
      cases hu : (at0 l1 F).2 with
      | true =>
        have P := hid_into (put_old HQ.out (by rw [HL.out]; exact hF2) hu x)
        clear hu
        go_wp2_with (go_at_call 10; refine P.out.mono ?_; rintro e w2 ⟨E, rfl, hE, hq2, ho2⟩)
        go_roundw
        case rel => exact ⟨k + 1, l1, best, v, is, by omega, rfl, rfl, rfl, by go_num, HG, HL, hq2, HB.out.trans (ho2.below fun k hk => hk.1)⟩
        case measure => simp [intOf]; omega
      | false =>
        have P := hid_into (put_new HQ.out (by rw [HL.out]; exact hF2) hu x)
        obtain ⟨G1, G2⟩ := HG.out.put (show F < l1.length by rw [HL.out]; exact hF2) hu x
        have L2 : Hid ((l1.set F (x, true)).length = 60) := by show _ = _; rw [List.length_set]; exact HL.out
        clear hu
        by_cases c1 : (F : Int) ≤ (ask : Int)
        · by_cases c2 : best < (F : Int)
          · have G := hid_into (G1 (by omega) c2)
            clear G1 G2
            cases is with
            | true =>
              rw [Bool.true_or] at G
              go_wp2_with (go_at_call 10; refine P.out.mono ?_; rintro e w2 ⟨rfl, hq2, ho2⟩; have HB2 := hid_into (HB.out.trans (ho2.below fun k hk => hk.1)); have db2 := CB.out _ HB2.out; clear ho2)
              go_region
              go_wp2_with (go_at_call 12; refine (get_gi hq2.drew G.out).mono ?_; rintro e w3 ⟨rfl, hw3⟩; replace hw3 := hw3.symm; subst hw3)
              go_roundw
              case rel => exact ⟨k + 1, _, (F : Int), x, true, by omega, rfl, rfl, rfl, by go_num, G, L2, hq2.drew, HB2.out.drew⟩
              case measure => simp [intOf]; omega
            | false =>
              by_cases c3 : (F : Int) = (ask : Int)
              · rw [decide_eq_true c3, Bool.or_true] at G
                have c3' : F = ask := by omega
                clear c3
                subst c3'
                go_wp2_with (go_at_call 10; refine P.out.mono ?_; rintro e w2 ⟨rfl, hq2, ho2⟩; have HB2 := hid_into (HB.out.trans (ho2.below fun k hk => hk.1)); have db2 := CB.out _ HB2.out; clear ho2)
                go_region
                go_wp2_with (go_at_call 12; refine (get_gi hq2.drew G.out).mono ?_; rintro e w3 ⟨rfl, hw3⟩; replace hw3 := hw3.symm; subst hw3)
                go_roundw
                case rel => exact ⟨k + 1, _, (F : Int), x, true, by omega, rfl, rfl, rfl, by go_num, G, L2, hq2.drew, HB2.out.drew⟩
                case measure => simp [intOf]; omega
              · rw [decide_eq_false c3, Bool.or_false] at G
                go_wp2_with (go_at_call 10; refine P.out.mono ?_; rintro e w2 ⟨rfl, hq2, ho2⟩; have HB2 := hid_into (HB.out.trans (ho2.below fun k hk => hk.1)); have db2 := CB.out _ HB2.out; clear ho2)
                go_region
                go_wp2_with (go_at_call 12; refine (get_gi hq2.drew G.out).mono ?_; rintro e w3 ⟨rfl, hw3⟩; replace hw3 := hw3.symm; subst hw3)
                go_roundw
                case rel => exact ⟨k + 1, _, (F : Int), x, false, by omega, rfl, rfl, congrArg Value.bool (beq_eq_false_iff_ne.2 c3), by go_num, G, L2, hq2.drew, HB2.out.drew⟩
                case measure => simp [intOf]; omega
          · have G := hid_into (G2 (fun h => c2 h.2))
            clear G1 G2
            cases is with
            | true =>
              rw [Bool.true_or] at G
              go_wp2_with (first | (go_at_call 10; refine P.out.mono ?_; rintro e w2 ⟨rfl, hq2, ho2⟩; have HB2 := hid_into (HB.out.trans (ho2.below fun k hk => hk.1)); have db2 := CB.out _ HB2.out; clear ho2) | (go_at_call 12; refine (get_gi hq2 G.out).mono ?_; rintro e w3 ⟨rfl, hw3⟩; replace hw3 := hw3.symm; subst hw3))
              go_roundw
              case rel => exact ⟨k + 1, _, best, v, true, by omega, rfl, rfl, rfl, by go_num, G, L2, hq2, HB2.out⟩
              case measure => simp [intOf]; omega
            | false =>
              by_cases c3 : (F : Int) = (ask : Int)
              · rw [decide_eq_true c3, Bool.or_true] at G
                have c3' : F = ask := by omega
                clear c3
                subst c3'
                go_wp2_with (first | (go_at_call 10; refine P.out.mono ?_; rintro e w2 ⟨rfl, hq2, ho2⟩; have HB2 := hid_into (HB.out.trans (ho2.below fun k hk => hk.1)); have db2 := CB.out _ HB2.out; clear ho2) | (go_at_call 12; refine (get_gi hq2 G.out).mono ?_; rintro e w3 ⟨rfl, hw3⟩; replace hw3 := hw3.symm; subst hw3))
                go_roundw
                case rel => exact ⟨k + 1, _, best, v, true, by omega, rfl, rfl, rfl, by go_num, G, L2, hq2, HB2.out⟩
                case measure => simp [intOf]; omega
              · rw [decide_eq_false c3, Bool.or_false] at G
                go_wp2_with (first | (go_at_call 10; refine P.out.mono ?_; rintro e w2 ⟨rfl, hq2, ho2⟩; have HB2 := hid_into (HB.out.trans (ho2.below fun k hk => hk.1)); have db2 := CB.out _ HB2.out; clear ho2) | (go_at_call 12; refine (get_gi hq2 G.out).mono ?_; rintro e w3 ⟨rfl, hw3⟩; replace hw3 := hw3.symm; subst hw3))
                go_roundw
                case rel => exact ⟨k + 1, _, best, v, false, by omega, rfl, rfl, congrArg Value.bool (beq_eq_false_iff_ne.2 c3), by go_num, G, L2, hq2, HB2.out⟩
                case measure => simp [intOf]; omega
        · have G := hid_into (G2 (fun h => c1 (by omega)))
          clear G1 G2
          cases is with
          | true =>
            rw [Bool.true_or] at G
            go_wp2_with (first | (go_at_call 10; refine P.out.mono ?_; rintro e w2 ⟨rfl, hq2, ho2⟩; have HB2 := hid_into (HB.out.trans (ho2.below fun k hk => hk.1)); have db2 := CB.out _ HB2.out; clear ho2) | (go_at_call 12; refine (get_gi hq2 G.out).mono ?_; rintro e w3 ⟨rfl, hw3⟩; replace hw3 := hw3.symm; subst hw3))
            go_roundw
            case rel => exact ⟨k + 1, _, best, v, true, by omega, rfl, rfl, rfl, by go_num, G, L2, hq2, HB2.out⟩
            case measure => simp [intOf]; omega
          | false =>
            by_cases c3 : (F : Int) = (ask : Int)
            · exact absurd (Int.le_of_eq c3) c1
            · rw [decide_eq_false c3, Bool.or_false] at G
              go_wp2_with (first | (go_at_call 10; refine P.out.mono ?_; rintro e w2 ⟨rfl, hq2, ho2⟩; have HB2 := hid_into (HB.out.trans (ho2.below fun k hk => hk.1)); have db2 := CB.out _ HB2.out; clear ho2) | (go_at_call 12; refine (get_gi hq2 G.out).mono ?_; rintro e w3 ⟨rfl, hw3⟩; replace hw3 := hw3.symm; subst hw3))
              go_roundw
              case rel => exact ⟨k + 1, _, best, v, false, by omega, rfl, rfl, congrArg Value.bool (beq_eq_false_iff_ne.2 c3), by go_num, G, L2, hq2, HB2.out⟩
              case measure => simp [intOf]; omega
    · go_wp2_with (first
        | (go_at_call 12; refine (get_z HQ.out _).mono ?_; rintro e w2 ⟨rfl, hw2⟩; replace hw2 := hw2.symm; subst hw2)
        | (go_at_call 7; refine (known_any _).mono ?_; rintro e w2 ⟨rfl, hb2⟩))
      go_ret
      exact ⟨rfl, HB.out.trans (hb2.mono HB.out.size)⟩
theorem guess_walk (a0 : Option Addr) (len0 cap0 : Nat) (ks : List Int) (a1 : Option Addr) (len1 cap1 : Nat) (xs : List Int) (ask : Int) (w : World) (r0 : Rw w 1 i64c a0 len0 cap0 ks) (r1 : Rw w 1 u16c a1 len1 cap1 xs) :
    Calls Try.prog 6 #[.slice a0 len0 cap0, .slice a1 len1 cap1, .int .i64 ask] w fun e w' => e = .returned (.bool true) ∧ Below w.heap.size w w' := by
  by_cases h : 40 < len0 ∨ len1 < len0 ∨ ask < 0 ∨ 100 < ask
  · exact guess_out a0 len0 cap0 a1 len1 cap1 ask w h
  · obtain ⟨k, rfl⟩ : ∃ k : Nat, ask = (k : Int) := ⟨ask.toNat, by omega⟩
    exact guess_in a0 len0 cap0 ks a1 len1 cap1 xs k w r0 r1 (by omega) (by omega) (by omega)
end Go.Proofs.Ytkjoadncbfhjfaa
