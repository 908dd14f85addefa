/-
  The document's own Parse, by contract.
-/
import Derived.Test.YtkfnmdhhiigceaaTkParse
import Derived.Test.YtkfnmdhhiigceaaTkRText
import Derived.Deep.DeepCutAuto
namespace Go.Proofs.Ytkfnmdhhiigceaa
open Go.RowKit Dg
/-- Byte k's signs are of their kinds, and the bar ahead of them. -/
def okA (xs : List Int) (k : Nat) : Prop := 0 ≤ dg (xs.getD (at0 k) 0) ∧ 0 ≤ dg (xs.getD (at0 k + 1) 0) ∧ (0 < k → k % 4 = 0 → xs.getD (at0 k - 1) 0 = 45)
theorem okA_of {xs : List Int} (h : isT xs) {k : Nat} (hk : k < 16) : okA xs k := by
  obtain ⟨e1, e2, e3, e4, e5⟩ := at0_parts hk
  have m1 := h.2 (at0 k) (by omega)
  have m2 := h.2 (at0 k + 1) e5
  rw [if_neg (by omega)] at m1 m2
  refine ⟨m1, m2, fun h0 h4 => ?_⟩
  have m3 := h.2 (at0 k - 1) (by omega)
  rw [if_pos (by unfold at0; omega)] at m3
  exact m3
theorem isT_of {xs : List Int} (hl : xs.length = 35) (h : ∀ k, k < 16 → okA xs k) : isT xs := by
  refine ⟨hl, fun k hk => ?_⟩
  split
  · rename_i e
    have := (h (4 * (k / 9 + 1)) (by omega)).2.2 (by omega) (by omega)
    rw [show at0 (4 * (k / 9 + 1)) - 1 = k by unfold at0; omega] at this
    exact this
  · rename_i e
    by_cases e2 : k % 9 % 2 = 0
    · have := (h (4 * (k / 9) + k % 9 / 2) (by omega)).1
      rw [show at0 (4 * (k / 9) + k % 9 / 2) = k by unfold at0; omega] at this
      exact this
    · have := (h (4 * (k / 9) + k % 9 / 2) (by omega)).2.1
      rw [show at0 (4 * (k / 9) + k % 9 / 2) + 1 = k by unfold at0; omega] at this
      exact this
theorem Try.zero27t : (Try.prog.info? 27).bind (·.zero) = some (.agg (cellsOf (zeroB 16)).toArray) := by kernel_rfl
/-- What both Parses answer. -/
def Ps (xs : List Int) (e : Ending) : Prop := ∃ t c, e = .returned (psV t c) ∧ Tk t ∧ (isT xs → t = unT xs ∧ c = 0) ∧ (¬ isT xs → t = zeroB 16 ∧ c = 3)
theorem Ps.no {xs : List Int} (h : ¬ isT xs) : Ps xs (.returned (psV (zeroB 16) 3)) := ⟨_, _, rfl, zero_tk, fun k => absurd k h, fun _ => ⟨rfl, rfl⟩⟩
theorem Ps.yes {xs : List Int} (h : isT xs) : Ps xs (.returned (psV (unT xs) 0)) := ⟨_, _, rfl, unT_tk h, fun _ => ⟨rfl, rfl⟩, fun k => absurd h k⟩
set_option maxRecDepth 20000 in
set_option maxHeartbeats 2000000 in
theorem rparse_any (xs : List Int) (hby : Byt xs) (w : World) :
    Calls Try.prog 15 #[.string (strOfNums xs)] w fun e w' => Ps xs e ∧ Below w.heap.size w w' := by
  have HX := hid_into hby
  have hat := fun k hk W => str_at hby k hk W
  have hsz : (strOfNums xs).size = xs.length := strOfNums_size xs
  have HZ := hid_into Try.zero27t
  have HI := hs27 zero_tk
  generalize strOfNums xs = S at *
  clear hby
  replace hat := hid_into hat
  replace hsz := hid_into hsz
  by_cases hs : xs.length = 35
  · have hs1 : ((S.size : Int) == 35) = true := by rw [hsz.out, hs]; rfl
    have hs2 : (S.size : Int) = 35 := by rw [hsz.out, hs]; rfl
    go_enter Try.func15, Try.ntmps15
    refine wp_seq (wp_region_lit (wpList_alloc_row rfl 27 rfl (cellsOf (zeroB 16)) HZ.out ?_))
    intro V1 hq1 Q1 QS1
    go_wp2_with (refine wpList_alloc_row rfl 27 rfl (cellsOf (zeroB 16)) HZ.out ?_; intro W1 hc1 B1 HS1)
    obtain ⟨tb, htb⟩ : ∃ tb, tb = V1.heap.size := ⟨_, rfl⟩
    rw [← htb] at hc1
    simp only [← htb]
    have HT : Hid (tb = w.heap.size + 1) := by refine hid_into ?_; rw [htb, QS1.out]
    have hq2 : Cw W1 w.heap.size (cellsOf (zeroB 16)) 27 := hq1.below B1 hq1.lt
    have BB1 : Below w.heap.size w W1 := Q1.trans (B1.mono Q1.size)
    clear hq1 Q1 QS1 B1 HS1 htb
    have hc1' : Cw W1 tb (cellsOf (rdT xs 0)) 27 := by rw [rdT_zero]; exact hc1
    go_loopw [5] (fun iv wx => ∃ k : Nat, k ≤ 16 ∧ iv = .int .i64 k ∧ Hid (∀ j, j < k → okA xs j) ∧ Cw wx tb (cellsOf (rdT xs k)) 27 ∧ Cw wx w.heap.size (cellsOf (zeroB 16)) 27 ∧ Below w.heap.size w wx) (fun iv _ => 16 - (intOf iv).toNat)
    case atStart => exact ⟨0, Nat.zero_le _, rfl, hid_into (fun j hj => absurd hj (by omega)), hc1', hq2, BB1⟩
    case round =>
      clear hc1 hc1' hq2 BB1
      obtain ⟨k, hk, rfl, HK, hc, hq, bel⟩ := hrel
      by_cases hk16 : k < 16
      · have hki : (k : Int) < 16 := by omega
        obtain ⟨q, hq4⟩ : ∃ q, q = k / 4 := ⟨_, rfl⟩
        have q1 : (k : Int) / 4 = (q : Int) := by omega
        have q2 : (k : Int).tdiv 4 = (q : Int) := by rw [Int.tdiv_eq_ediv_of_nonneg (by omega)]; exact q1
        obtain ⟨a, ha⟩ : ∃ a, a = at0 k := ⟨_, rfl⟩
        have a1 : 2 * (k : Int) + (q : Int) = (a : Int) := by rw [ha, hq4]; unfold at0; omega
        have a2 : a ≤ 33 := by rw [ha]; unfold at0; omega
        have q3 : q ≤ 4 := by omega
        replace ha := hid_into ha
        clear hq4
        have i1 := fun W => hat.out a (by omega) W
        have i2 : ∀ W, (Instr.index 9 (.string S) (.int .i64 ((a : Int) + 1))).run Try.prog W = .ok (.int .u8 (xs.getD (a + 1) 0)) W := fun W => hat.out (a + 1) (by omega) W
        have i3 : 0 < a → ∀ W, (Instr.index 9 (.string S) (.int .i64 ((a : Int) - 1))).run Try.prog W = .ok (.int .u8 (xs.getD (a - 1) 0)) W := fun h0 W => by rw [show (a : Int) - 1 = ((a - 1 : Nat) : Int) by omega]; exact hat.out (a - 1) (by omega) W
        have w1 : IntKind.i64.wrap ((a : Int) + 1) = (a : Int) + 1 := wrap64_small _ (by omega) (by omega)
        have w2 : IntKind.i64.wrap ((a : Int) - 1) = (a : Int) - 1 := wrap64_small _ (by omega) (by omega)
        have b1 := HX.out.get a
        have b2 := HX.out.get (a + 1)
        have HSET : Hid ((rdT xs k).set k (two (xs.getD a 0) (xs.getD (a + 1) 0)) = rdT xs (k + 1)) := by refine hid_into ?_; rw [ha.out]; exact rdT_set xs hk16
        have HOK : Hid (okA xs k ↔ (0 ≤ dg (xs.getD a 0) ∧ 0 ≤ dg (xs.getD (a + 1) 0) ∧ (0 < k → k % 4 = 0 → xs.getD (a - 1) 0 = 45))) := by refine hid_into ?_; rw [ha.out]; exact Iff.rfl
        have ck := hc.byte k (by rw [(rdT_tk xs k).1]; exact hk16)
        have fk := hc.frozen k
        generalize xs.getD a 0 = x1 at *
        generalize xs.getD (a + 1) 0 = x2 at *
        generalize xs.getD (a - 1) 0 = x3 at *
        have C1 : Hid (∀ x, (x = x1 ∨ x = x2) → ∀ W, Calls Try.prog 25 #[.int .u8 x] W fun e w' => e = .returned (.int .i64 (dg x)) ∧ w' = W) := hid_into (fun x h W => by rcases h with rfl | rfl; exact digit_any _ b1.1 b1.2 W; exact digit_any _ b2.1 b2.2 W)
        have HTW : Hid (0 ≤ dg x1 → 0 ≤ dg x2 → two x1 x2 = 16 * dg x1 + dg x2) := hid_into two_dg
        have l1 := dg_le x1
        have l2 := dg_le x2
        generalize two x1 x2 = z at *
        generalize (rdT xs k).getD k 0 = old at *
        clear b1 b2
        obtain ⟨B, hB⟩ : ∃ B : Bool, Hid (B = true ↔ ¬ okA xs k) := by
          by_cases h : okA xs k
          · exact ⟨false, hid_into (by simp [h])⟩
          · exact ⟨true, hid_into (by simp [h])⟩
        obtain ⟨U, hU⟩ : ∃ U : World, U = wr := ⟨_, rfl⟩
        replace hU := hid_into hU
        go_upto_region 8 with fail
        go_cut [48] (fun tb wx => tb = .bool B ∧ U = wx)
        case first =>
          by_cases h1 : dg x1 < 0
          · have hbt : B = true := hB.out.2 (fun h => absurd (HOK.out.1 h).1 (by omega))
            clear i2 i3 w2
            go_wp2_with (go_at_call 25; refine (C1.out _ (by first | exact Or.inl rfl | exact Or.inr rfl) _).mono ?_; rintro e w2 ⟨rfl, rfl⟩)
            go_meet
            exact ⟨by rw [hbt], hU.out⟩
          · by_cases h2 : dg x2 < 0
            · have hbt : B = true := hB.out.2 (fun h => absurd (HOK.out.1 h).2.1 (by omega))
              clear i3 w2
              go_wp2_with (go_at_call 25; refine (C1.out _ (by first | exact Or.inl rfl | exact Or.inr rfl) _).mono ?_; rintro e w2 ⟨rfl, rfl⟩)
              go_meet
              exact ⟨by rw [hbt], hU.out⟩
            · by_cases hp : 0 < k
              · have hp' : (0 : Int) < (k : Int) := by omega
                by_cases h4 : k % 4 = 0
                · have h4' : (k : Int) % 4 = 0 := by omega
                  have h4t : (k : Int).tmod 4 = 0 := by rw [Int.tmod_eq_emod_of_nonneg (by omega)]; exact h4'
                  have i3' := i3 (by omega)
                  by_cases h45 : x3 = 45
                  · have hbt : B = false := by
                      have : okA xs k := HOK.out.2 ⟨by omega, by omega, fun _ _ => h45⟩
                      cases B with
                      | false => rfl
                      | true => exact absurd this (hB.out.1 rfl)
                    rw [h45] at i3'
                    clear i3 h45
                    go_wp2_with (go_at_call 25; refine (C1.out _ (by first | exact Or.inl rfl | exact Or.inr rfl) _).mono ?_; rintro e w2 ⟨rfl, rfl⟩)
                    go_meet
                    exact ⟨by rw [hbt, decide_eq_false (show ¬ dg x1 < 0 by omega), decide_eq_false (show ¬ dg x2 < 0 by omega)]; rfl, hU.out⟩
                  · have hbt : B = true := hB.out.2 (fun h => h45 ((HOK.out.1 h).2.2 hp h4))
                    have h45' : (x3 == 45) = false := beq_false_of_ne h45
                    clear i3
                    go_wp2_with (go_at_call 25; refine (C1.out _ (by first | exact Or.inl rfl | exact Or.inr rfl) _).mono ?_; rintro e w2 ⟨rfl, rfl⟩)
                    go_meet
                    exact ⟨by rw [hbt, decide_eq_false (show ¬ dg x1 < 0 by omega), decide_eq_false (show ¬ dg x2 < 0 by omega)]; simp [bne, h45'], hU.out⟩
                · have h4' : ¬ (k : Int) % 4 = 0 := by omega
                  have h4t : ¬ (k : Int).tmod 4 = 0 := by rw [Int.tmod_eq_emod_of_nonneg (by omega)]; exact h4'
                  have h4b : ((k : Int) % 4 == 0) = false := beq_false_of_ne h4'
                  have hbt : B = false := by
                    have : okA xs k := HOK.out.2 ⟨by omega, by omega, fun _ h => absurd h h4⟩
                    cases B with
                    | false => rfl
                    | true => exact absurd this (hB.out.1 rfl)
                  clear i3
                  go_wp2_with (go_at_call 25; refine (C1.out _ (by first | exact Or.inl rfl | exact Or.inr rfl) _).mono ?_; rintro e w2 ⟨rfl, rfl⟩)
                  go_meet
                  exact ⟨by rw [hbt, decide_eq_false (show ¬ dg x1 < 0 by omega), decide_eq_false (show ¬ dg x2 < 0 by omega)]; rfl, hU.out⟩
              · have hp' : ¬ (0 : Int) < (k : Int) := by omega
                have hbt : B = false := by
                  have : okA xs k := HOK.out.2 ⟨by omega, by omega, fun h _ => absurd h hp⟩
                  cases B with
                  | false => rfl
                  | true => exact absurd this (hB.out.1 rfl)
                clear i3
                go_wp2_with (go_at_call 25; refine (C1.out _ (by first | exact Or.inl rfl | exact Or.inr rfl) _).mono ?_; rintro e w2 ⟨rfl, rfl⟩)
                go_meet
                exact ⟨by rw [hbt, decide_eq_false (show ¬ dg x1 < 0 by omega), decide_eq_false (show ¬ dg x2 < 0 by omega)]; rfl, hU.out⟩
        case rest =>
          obtain ⟨rfl, rfl⟩ := hcut
          have hU' := hU.out
          subst hU'
          clear hU
          cases B with
          | true =>
            have hno : Hid (¬ isT xs) := hid_into (fun h => hB.out.1 rfl (okA_of h hk16))
            clear hB i1 i2 i3
            go_wp2_with (refine wpList_store_rw rfl 27 (.tmp 2) (.tmp 49) rfl w.heap.size (cellsOf (zeroB 16)) (cellsOf (zeroB 16)) 27 rfl rfl hq HI rfl (cellsOf_one _) ?_; intro WA hcA OA)
            exact ret_row2 rfl rfl rfl hcA Try.underlying27 rfl HI ⟨Ps.no hno.out, bel.trans (OA.below (Nat.le_refl _))⟩
          | false =>
            have hok : okA xs k := by
              by_cases h : okA xs k
              · exact h
              · exact absurd (hB.out.2 h) (by simp)
            have o1 := HOK.out.1 hok
            have z0 : z = 16 * dg x1 + dg x2 := HTW.out o1.1 o1.2.1
            subst z0
            have o2 := o1.1
            have o3 := o1.2.1
            have HK' : Hid (∀ j, j < k + 1 → okA xs j) := hid_into (fun j hj => by
              by_cases h : j = k
              · subst h; exact hok
              · exact HK.out j (by omega))
            have hc' : Cw (U.setCell ⟨tb, k, none⟩ (.int .u8 (16 * dg x1 + dg x2))).drew tb (cellsOf (rdT xs (k + 1))) 27 := by have := hc.setB k (16 * dg x1 + dg x2); rw [HSET.out] at this; exact this
            have hq' : Cw (U.setCell ⟨tb, k, none⟩ (.int .u8 (16 * dg x1 + dg x2))).drew w.heap.size (cellsOf (zeroB 16)) 27 := (Only.set tb k U (.int .u8 (16 * dg x1 + dg x2))).cw hq (by have := HT.out; omega)
            have bel' : Below w.heap.size w (U.setCell ⟨tb, k, none⟩ (.int .u8 (16 * dg x1 + dg x2))).drew := (bel.trans ((Only.set tb k U (.int .u8 (16 * dg x1 + dg x2))).below (by have := HT.out; omega))).drew
            clear hB i3 w2 hok o1
            go_upto_region 10 with fail
            go_region_law (go_simp; go_wp2_with (go_at_call 25; refine (C1.out _ (by first | exact Or.inl rfl | exact Or.inr rfl) _).mono ?_; rintro e w2 ⟨rfl, rfl⟩))
            all_goals (go_wp2_with fail)
            all_goals (exact ⟨⟨k + 1, by omega, by go_num, HK', hc', hq', bel'⟩, by simp [intOf]; omega⟩)
      · obtain rfl : k = 16 := by omega
        have hki : ¬ ((16 : Nat) : Int) < 16 := by omega
        have hT : Hid (isT xs) := hid_into (isT_of hs HK.out)
        go_wp2_with (first
          | (refine wpList_load_rw rfl 27 (.tmp 4) rfl tb (cellsOf (rdT xs 16)) 27 _ rfl hc Try.underlying27 rfl (hs27 (rdT_tk xs 16)) ?_)
          | (refine wpList_store_rw rfl 27 (.tmp 2) (.tmp 64) rfl w.heap.size (cellsOf (zeroB 16)) (cellsOf (rdT xs 16)) 27 rfl rfl hq HI (hlB (by rw [zeroB_len, (rdT_tk xs 16).1])) (cellsOf_one _) ?_; intro WA hcA OA))
        exact ret_row2 rfl rfl rfl hcA Try.underlying27 rfl (hs27 (rdT_tk xs 16)) ⟨by rw [rdT_txt hT.out]; exact Ps.yes hT.out, bel.trans (OA.below (Nat.le_refl _))⟩
  · have hs1 : ((S.size : Int) == 35) = false := beq_false_of_ne (by rw [hsz.out]; omega)
    have hno : Hid (¬ isT xs) := hid_into (fun h => hs h.1)
    go_enter Try.func15, Try.ntmps15
    refine wp_seq (wp_region_lit (wpList_alloc_row rfl 27 rfl (cellsOf (zeroB 16)) HZ.out ?_))
    intro V1 hq1 Q1 QS1
    go_wp2_with (first
      | (refine wpList_alloc_row rfl 27 rfl (cellsOf (zeroB 16)) HZ.out ?_; intro W1 hc1 B1 HS1; have hq2 := hq1.below B1 hq1.lt; have BB2 := Q1.trans (B1.mono Q1.size))
      | (refine wpList_load_rw rfl 27 (.tmp 4) rfl V1.heap.size (cellsOf (zeroB 16)) 27 _ rfl hc1 Try.underlying27 rfl HI ?_)
      | (refine wpList_store_rw rfl 27 (.tmp 2) (.tmp 10) rfl w.heap.size (cellsOf (zeroB 16)) (cellsOf (zeroB 16)) 27 rfl rfl hq2 HI rfl (cellsOf_one _) ?_; intro WA hcA OA))
    exact ret_row2 rfl rfl rfl hcA Try.underlying27 rfl HI ⟨Ps.no hno.out, BB2.trans (OA.below (Nat.le_refl _))⟩
end Go.Proofs.Ytkfnmdhhiigceaa
