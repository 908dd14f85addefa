/-
  The law TokenForms, walked.
-/
import Derived.Test.YtkfnmdhhiigceaaTkKnown
import Derived.Test.YtkfnmdhhiigceaaTkOf
import Derived.Deep.DeepCutAuto
namespace Go.Proofs.Ytkfnmdhhiigceaa
open Go.RowKit Dg
theorem hs24 {t : List Int} (h : Tk t) : Hid ((Try.prog.info? 24).map (·.size) = some (cellsOf t).length) := by
  refine hid_into ?_
  rw [cellsOf_length, h.1]
  kernel_rfl
theorem set_getD (xs : List Int) (q : Nat) (c : Int) (hq : q < xs.length) (k : Nat) : (xs.set q c).getD k 0 = if k = q then c else xs.getD k 0 := by
  by_cases h : k = q
  · subst h
    rw [if_pos rfl]
    simp [List.getD, hq]
  · rw [if_neg h]
    simp [List.getD, List.getElem?_set_ne (Ne.symm h)]
/-- Of a word's text with one sign put in another one's place. -/
theorem isT_set {xs : List Int} (h : isT xs) {q : Nat} (hq : q < 35) (c : Int) : isT (xs.set q c) ↔ (if q % 9 = 8 then c = 45 else 0 ≤ dg c) := by
  have hl := h.1
  constructor
  · intro k
    have := k.2 q hq
    rw [set_getD _ _ _ (by omega), if_pos rfl] at this
    exact this
  · intro k
    refine ⟨by rw [List.length_set]; exact hl, fun j hj => ?_⟩
    rw [set_getD _ _ _ (by omega)]
    by_cases e : j = q
    · subst e; rw [if_pos rfl]; exact k
    · rw [if_neg e]; exact h.2 j hj
theorem dg_ok (c : Int) : 0 ≤ dg c ↔ (48 ≤ c ∧ c ≤ 57) ∨ (97 ≤ c ∧ c ≤ 102) := by
  unfold dg
  split
  · omega
  · split <;> omega
theorem bits_and (a : Int) (m : Nat) (hm : m < 65536) : bits .and .i64 a (m : Int) = (((BitVec.ofInt 64 a).toNat &&& m : Nat) : Int) := by
  have e : bits .and .i64 a (m : Int) = IntKind.i64.wrap (((BitVec.ofInt 64 a &&& BitVec.ofInt 64 (m : Int)).toNat : Nat) : Int) := rfl
  have hb : (BitVec.ofInt 64 a &&& BitVec.ofInt 64 (m : Int)).toNat = (BitVec.ofInt 64 a).toNat &&& m := by
    rw [BitVec.toNat_and]
    have : (BitVec.ofInt 64 (m : Int)).toNat = m := by
      rw [BitVec.ofInt_natCast, BitVec.toNat_ofNat]
      omega
    rw [this]
  have hlt : (BitVec.ofInt 64 a).toNat &&& m < 65536 := Nat.lt_of_le_of_lt Nat.and_le_right hm
  rw [e, hb]
  generalize (BitVec.ofInt 64 a).toNat &&& m = n at *
  simp [IntKind.wrap, IntKind.bits, IntKind.signed]
  omega
/-- What stands in memory while the law answers. -/
structure Sf (b g cap : Nat) (y ys : List Int) (V : World) : Prop where
  f1 : Cw V b (cellsOf y) 25
  f2 : Fz V g cap ys
theorem Sf_below {b g cap : Nat} {y ys : List Int} {V V2 : World} (h : Sf b g cap y ys V) (hb : Below V.heap.size V V2) : Sf b g cap y ys V2 := ⟨h.f1.below hb h.f1.lt, h.f2.below hb h.f2.lt⟩
set_option maxRecDepth 20000 in
set_option maxHeartbeats 4000000 in
theorem forms_walk (t : List Int) (at_ c : Int) (ht : Tk t) (hcb : 0 ≤ c ∧ c < 256) (w : World) : Calls Try.prog 6 #[.agg (cellsOf t).toArray, .int .i64 at_, .int .u8 c] w fun e w' => e = .returned (.bool true) ∧ Below w.heap.size w w' := by
  have CK := hid_into known_any
  have CT : Hid (∀ W, Calls Try.prog 14 #[.agg (cellsOf t).toArray] W fun e w' => e = .returned (.string (strOfNums (txt t))) ∧ Below W.heap.size W w') := hid_into (fun W => text_any t ht W)
  have H24 := hs24 ht
  have HX := hid_into (txt_isT ht)
  have HXB : Hid (Byt (txt t)) := hid_into (txt_byt ht)
  have hsz : (strOfNums (txt t)).size = 35 := by rw [strOfNums_size, txt_len]
  have hsz2 : ((strOfNums (txt t)).size : Int) = 35 := by rw [hsz]; rfl
  have HAT : Hid (∀ k : Nat, k < 35 → ∀ W, (Instr.index 9 (.string (strOfNums (txt t))) (.int .i64 (k : Int))).run Try.prog W = .ok (.int .u8 ((txt t).getD k 0)) W) := hid_into (fun k hk W => str_at (txt_byt ht) k (by rw [txt_len]; exact hk) W)
  obtain ⟨A, hA⟩ : ∃ A : Nat, bits .and .i64 at_ 1023 = (A : Int) := ⟨_, bits_and at_ 1023 (by decide)⟩
  obtain ⟨q, hq⟩ : ∃ q : Nat, q = A % 35 := ⟨_, rfl⟩
  have q35 : q < 35 := by omega
  have q1 : (A : Int) % 35 = (q : Int) := by omega
  have q2 : (A : Int).tmod 35 = (q : Int) := by rw [Int.tmod_eq_emod_of_nonneg (by omega)]; exact q1
  have hqi : (q : Int) < 35 := by omega
  clear hq
  have HCV : Hid (∀ W, ∃ cap w', (convert 9 22 (.string (strOfNums (txt t)))).run Try.prog W = .ok (.slice (some ⟨W.heap.size, 0, none⟩) 35 cap) w' ∧ Fz w' W.heap.size cap (txt t) ∧ Below W.heap.size W w') := hid_into (fun W => by
    have h := conv_bytes W (txt t) (txt_byt ht) (by rw [txt_len]; unfold maxLen; omega)
    rw [txt_len] at h
    exact h)
  obtain ⟨ys, hys⟩ : ∃ ys, ys = (txt t).set q c := ⟨_, rfl⟩
  have HYS := hid_into hys
  have HYL : Hid (ys.length = 35) := hid_into (by rw [hys, List.length_set, txt_len])
  have HYB : Byt ys := by
    intro z hz
    rw [hys] at hz
    rcases List.mem_or_eq_of_mem_set hz with h | h
    · exact txt_byt ht z h
    · rw [h]; exact hcb
  have HIT : Hid (isT ys ↔ (if q % 9 = 8 then c = 45 else 0 ≤ dg c)) := hid_into (by rw [hys]; exact isT_set (txt_isT ht) q35 c)
  have CP : Hid (∀ W, Calls Try.prog 13 #[.string (strOfNums ys)] W fun e w' => (∃ u c, e = .returned (.tuple #[.agg (cellsOf u).toArray, .int .i64 c]) ∧ Hid (Tk u ∧ (isT ys → u = unT ys ∧ c = 0) ∧ (¬ isT ys → u = zeroB 16 ∧ c = 3))) ∧ Below W.heap.size W w') := hid_into (fun W => (parse_any ys HYB (by rw [HYL.out]; decide) W).mono (by
    rintro e w' ⟨⟨u, c, rfl, h⟩, hb⟩
    exact ⟨⟨u, c, rfl, h⟩, hb⟩))
  clear hys HYB
  generalize hX : txt t = X at *
  generalize strOfNums X = S at *
  obtain ⟨S2, hS2⟩ : ∃ S2, S2 = strOfNums ys := ⟨_, rfl⟩
  rw [← hS2] at CP
  replace hS2 := hid_into hS2
  replace hX := hid_into hX
  have HZ25 := hid_into Try.zero25t
  have HI25 := hs25 zero_tk
  replace hsz := hid_into hsz
  go_enter Try.func6, Try.ntmps6
  refine wp_seq (wp_region_lit ?_)
  refine wpList_box_row rfl 24 (.tmp 0) rfl (cellsOf t) rfl ?_
  intro W1 hc1 B1 HS1
  go_wp2_with (first
    | (refine wpList_load_rw rfl 24 (.tmp 3) rfl w.heap.size (cellsOf t) 24 _ rfl hc1 Try.underlying24 rfl H24 ?_)
    | (go_at_call 14; refine (CT.out _).mono ?_; rintro e W2 ⟨rfl, B2⟩; have BB2 := B1.trans (B2.mono B1.size)))
  clear hc1 HS1 B1 B2
  go_loopw [8] (fun iv wx => ∃ k : Nat, k ≤ 35 ∧ iv = .int .i64 k ∧ W2 = wx) (fun iv _ => 35 - (intOf iv).toNat)
  case atStart => exact ⟨0, Nat.zero_le _, rfl, rfl⟩
  case round =>
    obtain ⟨k, hk, rfl, rfl⟩ := hrel
    by_cases hk35 : k < 35
    · have hki : (k : Int) < 35 := by omega
      have i1 := HAT.out k hk35
      have hx := HX.out.2 k hk35
      generalize X.getD k 0 = x at *
      by_cases h9 : k % 9 = 8
      · have h9' : (k : Int) % 9 = 8 := by omega
        have h9t : (k : Int).tmod 9 = 8 := by rw [Int.tmod_eq_emod_of_nonneg (by omega)]; exact h9'
        rw [if_pos h9] at hx
        subst hx
        clear hA q1 q2
        go_wp2_with fail
        go_roundw
        case rel => exact ⟨k + 1, by omega, by go_num, trivial⟩
        case measure => simp [intOf]; omega
      · have h9' : ((k : Int) % 9 == 8) = false := beq_false_of_ne (by omega)
        have h9t : ((k : Int).tmod 9 == 8) = false := beq_false_of_ne (by rw [Int.tmod_eq_emod_of_nonneg (by omega)]; omega)
        have h9n : ¬ (k : Int) % 9 = 8 := by omega
        rw [if_neg h9] at hx
        have hxd := (dg_ok x).1 hx
        have n45 : (x == 45) = false := beq_false_of_ne (by omega)
        clear hx hA q1 q2
        rcases hxd with ⟨x1, x2⟩ | ⟨x1, x2⟩
        · go_wp2_with fail
          go_roundw
          case rel => exact ⟨k + 1, by omega, by go_num, trivial⟩
          case measure => simp [intOf]; omega
        · have x3 : 48 ≤ x := by omega
          have x4 : ¬ x ≤ 57 := by omega
          go_wp2_with fail
          go_roundw
          case rel => exact ⟨k + 1, by omega, by go_num, trivial⟩
          case measure => simp [intOf]; omega
    · have hki : ¬ (k : Int) < 35 := by omega
      clear HAT
      obtain ⟨cap, W3, hcv, hf3, B3⟩ := HCV.out W2
      have cq := hf3.cell q (by rw [HX.out.1]; exact q35)
      have fq := hf3.frozen q (by rw [HX.out.1]; exact q35)
      generalize X.getD q 0 = old at *
      have hf4 := hf3.set q (by rw [HX.out.1]; exact q35) c
      rw [← HYS.out] at hf4
      obtain ⟨g, hg⟩ : ∃ g, g = W2.heap.size := ⟨_, rfl⟩
      rw [← hg] at hcv cq fq hf3 hf4
      have BB4 : Below w.heap.size w (W3.setCell ⟨g, q, none⟩ (.int .u8 c)) := (BB2.trans (B3.mono BB2.size)).setCell (by show _ ≤ g; rw [hg]; exact BB2.size) _
      have hcs := conv_str hf4.bs
      rw [HYL.out, ← hS2.out] at hcs
      replace hg := hid_into hg
      clear BB2 B3 hf3
      go_upto_region 15 with (first
        | (go_at_call 13; refine (CP.out _).mono ?_; rintro e W5 ⟨⟨u, er, rfl, hu⟩, B5⟩; have hf5 := hf4.below B5 hf4.lt; have BB5 := BB4.trans (B5.mono BB4.size))
        | (refine wpList_alloc_row rfl 25 rfl (cellsOf (zeroB 16)) HZ25.out ?_; intro W6 hz6 B6 HS6; have hf6 := hf5.below B6 hf5.lt; have BB6 := BB5.trans (B6.mono BB5.size))
        | (refine wpList_store_rw rfl 25 (.tmp 13) (.tmp 74) rfl W5.heap.size (cellsOf (zeroB 16)) (cellsOf u) 25 rfl rfl hz6 HI25 (hlB (by rw [zeroB_len, hu.out.1.1])) (cellsOf_one _) ?_; intro W7 hz O7; have hf7 : Fz W7 g cap ys := (by obtain ⟨r, k2, h1, h2⟩ := hf6; exact ⟨r, k2, (O7.block g (Nat.ne_of_lt hf5.lt)).trans h1, h2⟩); have BB7 := BB6.trans (O7.below BB5.size)))
      obtain ⟨R, HR⟩ : ∃ R : Bool, Hid (R = true ↔ isT ys) := by
        by_cases h : isT ys
        · exact ⟨true, hid_into (by simp [h])⟩
        · exact ⟨false, hid_into (by simp [h])⟩
      have c0 := hcb.1
      have c1 := hcb.2
      clear hA hcv cq fq hcs hf4 BB4 B5 hf5 BB5 hz6 B6 hf6 HS6 O7 hcb
      obtain ⟨U, hU⟩ : ∃ U : World, U = W7 := ⟨_, rfl⟩
      replace hU := hid_into hU
      go_upto_if 80 with fail
      go_cut [15] (fun tv wx => tv = .bool R ∧ U = wx)
      case first =>
        have HRT : Hid ((if q % 9 = 8 then c = 45 else 0 ≤ dg c) → R = true) := hid_into (fun h => HR.out.2 (HIT.out.2 h))
        have HRF : Hid (¬ (if q % 9 = 8 then c = 45 else 0 ≤ dg c) → R = false) := hid_into (fun h => by
          cases R with
          | false => rfl
          | true => exact absurd (HIT.out.1 (HR.out.1 rfl)) h)
        by_cases h9 : q % 9 = 8
        · have h9' : (q : Int) % 9 = 8 := by omega
          have h9t : (q : Int).tmod 9 = 8 := by rw [Int.tmod_eq_emod_of_nonneg (by omega)]; exact h9'
          rw [if_pos h9] at HRT HRF
          by_cases h45 : c = 45
          · have hR := HRT.out h45
            subst h45
            go_wp2_with fail
            go_meet
            exact ⟨by rw [hR], hU.out⟩
          · have hR := HRF.out h45
            have n45 : (c == 45) = false := beq_false_of_ne h45
            go_wp2_with fail
            go_meet
            exact ⟨by rw [hR, n45], hU.out⟩
        · have h9' : ((q : Int) % 9 == 8) = false := beq_false_of_ne (by omega)
          have h9t : ((q : Int).tmod 9 == 8) = false := beq_false_of_ne (by rw [Int.tmod_eq_emod_of_nonneg (by omega)]; omega)
          have h9n : ¬ (q : Int) % 9 = 8 := by omega
          rw [if_neg h9] at HRT HRF
          by_cases a1 : 48 ≤ c
          · by_cases a2 : c ≤ 57
            · have hR := HRT.out ((dg_ok c).2 (by omega))
              go_wp2_with fail
              go_meet
              exact ⟨by rw [hR], hU.out⟩
            · by_cases a3 : 97 ≤ c
              · by_cases a4 : c ≤ 102
                · have hR := HRT.out ((dg_ok c).2 (by omega))
                  go_wp2_with fail
                  go_meet
                  exact ⟨by rw [hR], hU.out⟩
                · have hR := HRF.out (fun h => by have := (dg_ok c).1 h; omega)
                  go_wp2_with fail
                  go_meet
                  exact ⟨by rw [hR], hU.out⟩
              · have hR := HRF.out (fun h => by have := (dg_ok c).1 h; omega)
                go_wp2_with fail
                go_meet
                exact ⟨by rw [hR], hU.out⟩
          · have a3 : ¬ 97 ≤ c := by omega
            have hR := HRF.out (fun h => by have := (dg_ok c).1 h; omega)
            go_wp2_with fail
            go_meet
            exact ⟨by rw [hR], hU.out⟩
      case rest =>
        obtain ⟨rfl, rfl⟩ := hcut
        have hU' := hU.out
        subst hU'
        clear hU
        have hut := hu.out.1
        have HU25 := hs25 hut
        cases R with
        | true =>
          have hy := HR.out.1 rfl
          have hu2 := hu.out.2.1 hy
          obtain ⟨hu3, hu4⟩ := hu2
          subst hu4
          have CT2 : Hid (∀ W, Calls Try.prog 14 #[.agg (cellsOf u).toArray] W fun e w' => e = .returned (.string S2) ∧ Below W.heap.size W w') := hid_into (fun W => (text_any u hut W).mono (by
            rintro e w' ⟨rfl, hb⟩
            exact ⟨by rw [hu3, txt_unT hy, ← hS2.out], hb⟩))
          have HCS : Hid (∀ V, Sf W5.heap.size g cap u ys V → (convert 22 9 (.slice (some ⟨g, 0, none⟩) 35 cap)).run Try.prog V = .ok (.string S2) V) := hid_into (fun V h => by
            have h2 := conv_str h.f2.bs
            rw [HYL.out, ← hS2.out] at h2
            exact h2)
          clear hu3 hy hu HR HIT
          go_upto_region 20 with fail
          have S0 : Sf W5.heap.size g cap u ys U.drew := ⟨hz, hf7⟩
          have BBV0 : Below w.heap.size w U.drew := BB7.drew
          refine wp_region_held (S := Sf W5.heap.size g cap u ys) (by kernel_rfl) ?_
          change wpAnyH _ _ _ _ _ _ _ _ (World.drew _)
          refine wpAnyH_take (i := 0) (v := .int .i64 0) rfl (by kernel_rfl) (by kernel_rfl) (by kernel_rfl) (fun _ _ _ h => h) (Or.inl ⟨by kernel_rfl, by intro w _; go_simp⟩) S0 ?_
          refine wpAnyH_take (i := 1) (v := .bool true) rfl (by kernel_rfl) (by kernel_rfl) (by kernel_rfl) (fun _ _ _ h => h) (Or.inl ⟨by kernel_rfl, by intro w _; go_simp⟩) S0 ?_
          simp only [List.getElem_toArray, List.getElem_cons_zero, List.getElem_cons_succ, Act.put, List.setIfInBounds_toArray, List.set_cons_zero, List.set_cons_succ]
          refine wpAnyH_take (i := 2) (v := .bool true) rfl (by kernel_rfl) (by kernel_rfl) (by kernel_rfl) (fun _ _ _ h => h) (Or.inl ⟨by kernel_rfl, by intro w _; go_simp⟩) S0 ?_
          simp only [List.getElem_toArray, List.getElem_cons_zero, List.getElem_cons_succ, Act.put, List.setIfInBounds_toArray, List.set_cons_zero, List.set_cons_succ]
          refine wpAnyH_take (i := 3) (v := .agg (cellsOf u).toArray) rfl (by kernel_rfl) (by kernel_rfl) (by kernel_rfl) (fun _ _ _ h => h) (yieldsIf_load_mid (by kernel_rfl) 25 (.tmp 13) rfl W5.heap.size 0 (by kernel_rfl) (cellsOf u) _ (fun _ k => Cw.range k.f1) Try.underlying25 rfl HU25.out) S0 ?_
          simp only [List.getElem_toArray, List.getElem_cons_zero, List.getElem_cons_succ, Act.put, List.setIfInBounds_toArray, List.set_cons_zero, List.set_cons_succ]
          refine wpAnyH_take (i := 5) (v := .slice (some ⟨g, 0, none⟩) 35 cap) rfl (by kernel_rfl) (by kernel_rfl) (by kernel_rfl) (fun _ _ _ h => h) (Or.inl ⟨by kernel_rfl, by intro w _; go_simp⟩) S0 ?_
          simp only [List.getElem_toArray, List.getElem_cons_zero, List.getElem_cons_succ, Act.put, List.setIfInBounds_toArray, List.set_cons_zero, List.set_cons_succ]
          refine wpAnyH_take (i := 6) (v := .string S2) rfl (by kernel_rfl) (by kernel_rfl) (by kernel_rfl) (fun _ _ _ h => h) (Or.inl ⟨by kernel_rfl, fun V h => exec_convert 22 9 (.tmp 112) rfl _ _ rfl V (HCS.out V h)⟩) S0 ?_
          simp only [List.getElem_toArray, List.getElem_cons_zero, List.getElem_cons_succ, Act.put, List.setIfInBounds_toArray, List.set_cons_zero, List.set_cons_succ]
          refine wpAnyH_ready (rs := [4]) (by kernel_rfl) (by simp) ?_
          refine AllReadyH.cons rfl (fun KK hK => ?_) AllReadyH.nil
          go_simp
          refine (CT2.out _).mono ?_
          rintro e V1 ⟨rfl, Bn⟩
          dsimp only
          have S1 := Sf_below S0 Bn
          have BBV1 := BBV0.trans (Bn.mono BBV0.size)
          refine hK.out _ _ (by exact S1) (fun _ => ?_)
          clear hK KK Bn
          refine wpAnyH_take (i := 7) (v := .bool true) rfl (by kernel_rfl) (by kernel_rfl) (by kernel_rfl) (fun _ _ _ h => h) (Or.inl ⟨by kernel_rfl, by intro w _; go_simp⟩) S1 ?_
          simp only [List.getElem_toArray, List.getElem_cons_zero, List.getElem_cons_succ, Act.put, List.setIfInBounds_toArray, List.set_cons_zero, List.set_cons_succ]
          refine wpAnyH_take (i := 8) (v := .bool true) rfl (by kernel_rfl) (by kernel_rfl) (by kernel_rfl) (fun _ _ _ h => h) (Or.inl ⟨by kernel_rfl, by intro w _; go_simp⟩) S1 ?_
          simp only [List.getElem_toArray, List.getElem_cons_zero, List.getElem_cons_succ, Act.put, List.setIfInBounds_toArray, List.set_cons_zero, List.set_cons_succ]
          refine wpAnyH_take (i := 9) (v := .bool true) rfl (by kernel_rfl) (by kernel_rfl) (by kernel_rfl) (fun _ _ _ h => h) (Or.inl ⟨by kernel_rfl, by intro w _; go_simp⟩) S1 ?_
          simp only [List.getElem_toArray, List.getElem_cons_zero, List.getElem_cons_succ, Act.put, List.setIfInBounds_toArray, List.set_cons_zero, List.set_cons_succ]
          refine wpAnyH_ready (rs := [10]) (by kernel_rfl) (by simp) ?_
          refine AllReadyH.cons rfl (fun KK hK => ?_) AllReadyH.nil
          go_simp
          refine (CK.out _).mono ?_
          rintro e V2 ⟨rfl, Bn⟩
          dsimp only
          have S2_ := Sf_below S1 Bn
          have BBV2 := BBV1.trans (Bn.mono BBV1.size)
          refine hK.out _ _ (by exact S2_) (fun _ => ?_)
          clear hK KK Bn
          refine wpAnyH_take (i := 11) (v := .bool true) rfl (by kernel_rfl) (by kernel_rfl) (by kernel_rfl) (fun _ _ _ h => h) (Or.inl ⟨by kernel_rfl, by intro w _; go_simp⟩) S2_ ?_
          simp only [List.getElem_toArray, List.getElem_cons_zero, List.getElem_cons_succ, Act.put, List.setIfInBounds_toArray, List.set_cons_zero, List.set_cons_succ]
          refine wpAnyH_take (i := 12) (v := .bool true) rfl (by kernel_rfl) (by kernel_rfl) (by kernel_rfl) (fun _ _ _ h => h) (Or.inl ⟨by kernel_rfl, by intro w _; go_simp⟩) S2_ ?_
          simp only [List.getElem_toArray, List.getElem_cons_zero, List.getElem_cons_succ, Act.put, List.setIfInBounds_toArray, List.set_cons_zero, List.set_cons_succ]
          refine wpAnyH_done (by kernel_rfl) ?_ _
          go_wp2_with fail
          go_ret
          exact ⟨rfl, BBV2⟩
        | false =>
          have hy : ¬ isT ys := fun h => by have := HR.out.2 h; cases this
          have hu2 := hu.out.2.2 hy
          obtain ⟨hu3, hu4⟩ := hu2
          subst hu4
          subst hu3
          have heqz : ∀ W, (Op.equalIn 10000 25 (.agg #[.int .u8 0, .int .u8 0, .int .u8 0, .int .u8 0, .int .u8 0, .int .u8 0, .int .u8 0, .int .u8 0, .int .u8 0, .int .u8 0, .int .u8 0, .int .u8 0, .int .u8 0, .int .u8 0, .int .u8 0, .int .u8 0]) (.agg #[.int .u8 0, .int .u8 0, .int .u8 0, .int .u8 0, .int .u8 0, .int .u8 0, .int .u8 0, .int .u8 0, .int .u8 0, .int .u8 0, .int .u8 0, .int .u8 0, .int .u8 0, .int .u8 0, .int .u8 0, .int .u8 0])).run Try.prog W = .ok true W := fun W => (run_eq16 25 Try.underlying25 zero_tk zero_tk W).trans (by rw [eqB_true rfl])
          have z0 : U.cell? ⟨W5.heap.size, 0, none⟩ = some (.int .u8 0) := hz.byte 0 (by decide)
          have z1 : U.cell? ⟨W5.heap.size, 1, none⟩ = some (.int .u8 0) := hz.byte 1 (by decide)
          have z2 : U.cell? ⟨W5.heap.size, 2, none⟩ = some (.int .u8 0) := hz.byte 2 (by decide)
          have z3 : U.cell? ⟨W5.heap.size, 3, none⟩ = some (.int .u8 0) := hz.byte 3 (by decide)
          have z4 : U.cell? ⟨W5.heap.size, 4, none⟩ = some (.int .u8 0) := hz.byte 4 (by decide)
          have z5 : U.cell? ⟨W5.heap.size, 5, none⟩ = some (.int .u8 0) := hz.byte 5 (by decide)
          have z6 : U.cell? ⟨W5.heap.size, 6, none⟩ = some (.int .u8 0) := hz.byte 6 (by decide)
          have z7 : U.cell? ⟨W5.heap.size, 7, none⟩ = some (.int .u8 0) := hz.byte 7 (by decide)
          have z8 : U.cell? ⟨W5.heap.size, 8, none⟩ = some (.int .u8 0) := hz.byte 8 (by decide)
          have z9 : U.cell? ⟨W5.heap.size, 9, none⟩ = some (.int .u8 0) := hz.byte 9 (by decide)
          have z10 : U.cell? ⟨W5.heap.size, 10, none⟩ = some (.int .u8 0) := hz.byte 10 (by decide)
          have z11 : U.cell? ⟨W5.heap.size, 11, none⟩ = some (.int .u8 0) := hz.byte 11 (by decide)
          have z12 : U.cell? ⟨W5.heap.size, 12, none⟩ = some (.int .u8 0) := hz.byte 12 (by decide)
          have z13 : U.cell? ⟨W5.heap.size, 13, none⟩ = some (.int .u8 0) := hz.byte 13 (by decide)
          have z14 : U.cell? ⟨W5.heap.size, 14, none⟩ = some (.int .u8 0) := hz.byte 14 (by decide)
          have z15 : U.cell? ⟨W5.heap.size, 15, none⟩ = some (.int .u8 0) := hz.byte 15 (by decide)
          clear hu HR HIT hy
          go_wp2_with (go_at_call 12; refine (CK.out _).mono ?_; rintro e W8 ⟨rfl, B8⟩; have BB8 := BB7.trans (B8.mono BB7.size))
          go_ret
          exact ⟨rfl, BB8⟩
end Go.Proofs.Ytkfnmdhhiigceaa
