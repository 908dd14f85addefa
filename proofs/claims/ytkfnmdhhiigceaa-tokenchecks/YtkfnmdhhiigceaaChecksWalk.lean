/-
  The law TokenChecks, walked.
-/
import Derived.Test.YtkfnmdhhiigceaaTkKnown
import Derived.Test.YtkfnmdhhiigceaaTkRMake
import Derived.Deep.DeepCutAuto
import Derived.Deep.MidRow
namespace Go.Proofs.Ytkfnmdhhiigceaa
open Go.RowKit Dg
theorem hs24 {t : List Int} (h : Tk t) : Hid ((Try.prog.info? 24).map (·.size) = some (cellsOf t).length) := by
  refine hid_into ?_
  rw [cellsOf_length, h.1]
  kernel_rfl
theorem bs_drew {w : World} {v : Value} {zs : List Int} (h : Bs w v zs) : Bs w.drew v zs := h.keep (fun _ _ _ => rfl)
section
variable {ops : Array Oper} {rest : List Oper} {o : Oper} {a : Act} {w : World} {Q : Exit → Act → World → Prop}
/-- A whole row is loaded, guarded or not. -/
theorem wpList_load_rwG (hw : Region.wanted o (yielded ops a.tmps) = true) (ty : TypeId) (x : Operand) (ho : o.op = .load ty x) (g : Nat) (cs : List Value) (t : TypeId) (d : TypeDesc) (hx : a.eval x = .pointer (some ⟨g, 0, none⟩))
    (hc : Cw w g cs t) (hu : Try.prog.underlying ty = some d) (hd : d.isRow = true) (hi : Hid ((Try.prog.info? ty).map (·.size) = some cs.length))
    (h : wpList Try.prog ops Q rest (a.put o.dst (.agg cs.toArray)) w) : wpList Try.prog ops Q (o :: rest) a w :=
  BigFrame.wpList_want hw fun _ hK => wp_load_mid ty x ho g 0 hx cs d hc.range hu hd hi.out (hK _ _ h)
end
/-- What stands in memory: the word that was handed in, another one, and the key. -/
structure Sc (a : Nat) (t : List Int) (b : Nat) (u : List Int) (vk : Value) (key : List Int) (V : World) : Prop where
  f1 : Cw V a (cellsOf t) 24
  f2 : Cw V b (cellsOf u) 25
  f3 : Bs V vk key
theorem Sc_below {a : Nat} {t : List Int} {b : Nat} {u : List Int} {vk : Value} {key : List Int} {V V2 : World} (h : Sc a t b u vk key V) (hb : Below V.heap.size V V2) : Sc a t b u vk key V2 := ⟨h.f1.below hb h.f1.lt, h.f2.below hb h.f2.lt, h.f3.below hb (Nat.le_refl _)⟩
/-- The word with one bit turned. -/
theorem turned {T : List Int} (h : Tk T) : ∃ z, bits .xor .u8 (T.getD 5 0) 1 = z ∧ Tk (T.set 5 z) ∧ T.set 5 z ≠ T := by
  obtain ⟨h0, h1⟩ := h.get 5
  generalize hx : T.getD 5 0 = x at *
  obtain ⟨n, rfl⟩ := Int.eq_ofNat_of_zero_le h0
  have e := u8_xor_nat n 1 (by omega) (by decide)
  refine ⟨_, e, ?_, ?_⟩
  · refine ⟨by rw [List.length_set]; exact h.1, fun z hz => ?_⟩
    rcases List.mem_or_eq_of_mem_set hz with k | k
    · exact h.2 z k
    · have := Nat.xor_lt_two_pow (n := 8) (show n < 2 ^ 8 by omega) (show 1 < 2 ^ 8 by decide)
      rw [k]
      omega
  · intro k
    have e2 : (T.set 5 ((n ^^^ 1 : Nat) : Int)).getD 5 0 = ((n ^^^ 1 : Nat) : Int) := by simp [List.getD, h.1]
    rw [k, hx] at e2
    have e3 : n = n ^^^ 1 := by omega
    have e4 : n ^^^ n = n ^^^ (n ^^^ 1) := by rw [← e3]
    rw [Nat.xor_self, ← Nat.xor_assoc, Nat.xor_self, Nat.zero_xor] at e4
    omega
set_option maxRecDepth 20000 in
set_option maxHeartbeats 4000000 in
theorem checks_walk (vk : Value) (key : List Int) (m p l : Int) (t : List Int) (w : World) (hk : Bs w vk key) (hky : Byt key) (hm : I64 m) (hp : I64 p) (hl : I64 l) (ht : Tk t) : Calls Try.prog 4 #[vk, .int .i64 m, .int .i64 p, .int .i64 l, .agg (cellsOf t).toArray] w fun e w' => e = .returned (.bool true) ∧ Below w.heap.size w w' := by
  obtain ⟨ak, ck, hvk, _⟩ := hk.len
  subst hvk
  by_cases hs : 1000 < key.length
  · have hs1 : (1000 : Int) < (key.length : Int) := by omega
    clear hs
    go_enter Try.func4, Try.ntmps4
    refine wp_seq (wp_region_lit ?_)
    refine wpList_box_row rfl 24 (.tmp 4) rfl (cellsOf t) rfl ?_
    intro W1 hc1 B1 HS1
    go_wp2_with fail
    go_ret
    exact ⟨rfl, B1⟩
  have hs1 : ¬ (1000 : Int) < (key.length : Int) := by omega
  have hkn : key.length ≤ 100000 := by omega
  have CK := hid_into known_any
  have CM := hid_into (fun W v (h : Bs W v key) => make_any v key m p l W h hky hkn hm hp hl)
  have CR := hid_into (fun W v (h : Bs W v key) => rmake_any v key m p l W h hky hkn hm hp hl)
  have hT := mkT_tk key m p l
  have CC := hid_into (fun W v (h : Bs W v key) u (hu : Tk u) => check_any v key m p l u hu W h hky hkn hm hp hl)
  generalize mkT key m p l = T at *
  obtain ⟨z, hz, hU, hne⟩ := turned hT
  obtain ⟨cc, hcc⟩ : ∃ cc : Int, cc = if t = T then 0 else 16 := ⟨_, rfl⟩
  obtain ⟨b, hb⟩ : ∃ b : Bool, eqB T t = !b ∧ cc = if b then 16 else 0 := by
    by_cases h : t = T
    · exact ⟨false, by rw [eqB_true h.symm]; rfl, by rw [hcc, if_pos h]; rfl⟩
    · exact ⟨true, by rw [eqB_false (Ne.symm h)]; rfl, by rw [hcc, if_neg h]; rfl⟩
  have CC1 : Hid (∀ W v, Bs W v key → Calls Try.prog 10 #[v, .int .i64 m, .int .i64 p, .int .i64 l, .agg (cellsOf t).toArray] W fun e w' => e = .returned (.int .i64 cc) ∧ Below W.heap.size W w') := hid_into (fun W v h => by rw [hcc]; exact CC.out W v h t ht)
  have CC2 : Hid (∀ W v, Bs W v key → Calls Try.prog 10 #[v, .int .i64 m, .int .i64 p, .int .i64 l, .agg (cellsOf (T.set 5 z)).toArray] W fun e w' => e = .returned (.int .i64 16) ∧ Below W.heap.size W w') := hid_into (fun W v h => by
    have k := CC.out W v h (T.set 5 z) hU
    rw [if_neg hne] at k
    exact k)
  have heq : ∀ W, (Op.equalIn 10000 27 (.agg (cellsOf T).toArray) (.agg (cellsOf t).toArray)).run Try.prog W = .ok (!b) W := fun W => (run_eq16 27 Try.underlying27 hT ht W).trans (by rw [hb.1])
  have HB2 := hid_into hb.2
  have HT24 := hs24 ht
  have HU25 := hs25 hU
  have HZ25 := hid_into Try.zero25t
  have HI25 := hs25 zero_tk
  have HLT : Hid ((cellsOf (zeroB 16)).length = (cellsOf T).length) := hlB (by rw [zeroB_len, hT.1])
  have HT5 : Hid (5 < T.length) := hid_into (by rw [hT.1]; decide)
  clear hcc hb CC hne
  go_enter Try.func4, Try.ntmps4
  refine wp_seq (wp_region_lit ?_)
  refine wpList_box_row rfl 24 (.tmp 4) rfl (cellsOf t) rfl ?_
  intro W1 hc1 B1 HS1
  have hk1 := hk.below B1 (Nat.le_refl _)
  clear hk HS1
  go_upto_region 4 with fail
  have S0 : Cw W1.drew w.heap.size (cellsOf t) 24 ∧ Bs W1.drew (.slice ak key.length ck) key := ⟨hc1, bs_drew hk1⟩
  have BBV0 : Below w.heap.size w W1.drew := B1.drew
  refine wp_region_held (S := fun V => Cw V w.heap.size (cellsOf t) 24 ∧ Bs V (.slice ak key.length ck) key) (by kernel_rfl) ?_
  change wpAnyH _ _ _ _ _ _ _ _ (World.drew _)
  refine wpAnyH_take (i := 0) (v := .slice ak key.length ck) rfl (by kernel_rfl) (by kernel_rfl) (by kernel_rfl) (fun _ _ _ h => h) (Or.inl ⟨by kernel_rfl, by intro w _; go_simp⟩) S0 ?_
  refine wpAnyH_take (i := 1) (v := .int .i64 m) rfl (by kernel_rfl) (by kernel_rfl) (by kernel_rfl) (fun _ _ _ h => h) (Or.inl ⟨by kernel_rfl, by intro w _; go_simp⟩) S0 ?_
  simp only [List.getElem_toArray, List.getElem_cons_zero, List.getElem_cons_succ, Act.put, List.setIfInBounds_toArray, List.set_cons_zero, List.set_cons_succ]
  refine wpAnyH_take (i := 2) (v := .int .i64 p) rfl (by kernel_rfl) (by kernel_rfl) (by kernel_rfl) (fun _ _ _ h => h) (Or.inl ⟨by kernel_rfl, by intro w _; go_simp⟩) S0 ?_
  simp only [List.getElem_toArray, List.getElem_cons_zero, List.getElem_cons_succ, Act.put, List.setIfInBounds_toArray, List.set_cons_zero, List.set_cons_succ]
  refine wpAnyH_take (i := 3) (v := .int .i64 l) rfl (by kernel_rfl) (by kernel_rfl) (by kernel_rfl) (fun _ _ _ h => h) (Or.inl ⟨by kernel_rfl, by intro w _; go_simp⟩) S0 ?_
  simp only [List.getElem_toArray, List.getElem_cons_zero, List.getElem_cons_succ, Act.put, List.setIfInBounds_toArray, List.set_cons_zero, List.set_cons_succ]
  refine wpAnyH_take (i := 5) (v := .agg (cellsOf t).toArray) rfl (by kernel_rfl) (by kernel_rfl) (by kernel_rfl) (fun _ _ _ h => h) (yieldsIf_load_mid (by kernel_rfl) 24 (.tmp 9) rfl w.heap.size 0 (by kernel_rfl) (cellsOf t) _ (fun _ k => Cw.range k.1) Try.underlying24 rfl HT24.out) S0 ?_
  simp only [List.getElem_toArray, List.getElem_cons_zero, List.getElem_cons_succ, Act.put, List.setIfInBounds_toArray, List.set_cons_zero, List.set_cons_succ]
  refine wpAnyH_ready (rs := [4]) (by kernel_rfl) (by simp) ?_
  refine AllReadyH.cons rfl (fun KK hK => ?_) AllReadyH.nil
  go_simp
  refine (CR.out _ _ S0.2).mono ?_
  rintro e V1 ⟨rfl, Bn⟩
  dsimp only
  have S1 := And.intro (S0.1.below Bn S0.1.lt) (S0.2.below Bn (Nat.le_refl _))
  have BBV1 := BBV0.trans (Bn.mono BBV0.size)
  refine hK.out _ _ (by exact S1) (fun _ => ?_)
  clear hK KK Bn
  refine wpAnyH_take (i := 6) (v := .bool b) rfl (by kernel_rfl) (by kernel_rfl) (by kernel_rfl) (fun _ _ _ h => h) (Or.inl ⟨by kernel_rfl, by intro w _; go_simp⟩) S1 ?_
  simp only [List.getElem_toArray, List.getElem_cons_zero, List.getElem_cons_succ, Act.put, List.setIfInBounds_toArray, List.set_cons_zero, List.set_cons_succ]
  refine wpAnyH_done (by kernel_rfl) ?_ _
  clear heq S0 hc1 hk1 BBV0 B1
  obtain ⟨hc2, hk2⟩ := S1
  obtain ⟨U, hU0⟩ : ∃ U : World, U = V1 := ⟨_, rfl⟩
  replace hU0 := hid_into hU0
  go_upto_if 22 with fail
  go_cut [11] (fun tv wx => tv = .int .i64 cc ∧ U = wx)
  case first =>
    cases b with
    | true =>
      go_wp2_with fail
      go_meet
      exact ⟨by rw [HB2.out]; rfl, hU0.out⟩
    | false =>
      go_wp2_with fail
      go_meet
      exact ⟨by rw [HB2.out]; rfl, hU0.out⟩
  case rest =>
    obtain ⟨rfl, rfl⟩ := hcut
    have hU1 := hU0.out
    subst hU1
    clear hU0
    go_upto_region 7 with (first
      | (go_at_call 8; refine (CM.out _ _ hk2).mono ?_; rintro e W2 ⟨rfl, B2⟩; have hk3 := hk2.below B2 (Nat.le_refl _); have hc3 := hc2.below B2 hc2.lt; have BB2 := BBV1.trans (B2.mono BBV1.size))
      | (refine wpList_alloc_row rfl 25 rfl (cellsOf (zeroB 16)) HZ25.out ?_; intro W3 hz3 B3 HS3; have hk4 := hk3.below B3 (Nat.le_refl _); have hc4 := hc3.below B3 hc3.lt; have BB3 := BB2.trans (B3.mono BB2.size))
      | (refine wpList_store_rw rfl 25 (.tmp 12) (.tmp 27) rfl W2.heap.size (cellsOf (zeroB 16)) (cellsOf T) 25 rfl rfl hz3 HI25 HLT (cellsOf_one _) ?_; intro W4 hz4 O4; have BB4 := BB3.trans (O4.below BB2.size); have hc5 := O4.cw hc4 (Nat.ne_of_lt hc3.lt); have hk5 : Bs W4 (.slice ak key.length ck) key := (hk3.below (B3.trans (O4.below (Nat.le_refl _))) (Nat.le_refl _)); have HBW := hid_into (B3.trans (O4.below (Nat.le_refl _)))))
    have ce := hz4.byte 5 HT5.out
    have fe := hz4.frozen 5
    have hz5 := hz4.setB 5 z
    have O5 := Only.set W2.heap.size 5 W4 (.int .u8 z)
    have hc6 := O5.cw hc5 (Nat.ne_of_lt hc3.lt)
    have hk6 : Bs (W4.setCell ⟨W2.heap.size, 5, none⟩ (.int .u8 z)) (.slice ak key.length ck) key := hk3.below (HBW.out.trans (O5.below (Nat.le_refl _))) (Nat.le_refl _)
    have BB5 := BB4.trans (O5.below BB2.size)
    clear hk2 hc2 hk3 hc3 BB2 hz3 B3 HS3 hk4 hc4 BB3 hz4 O4 BB4 hc5 hk5 HBW O5 BBV1 CM CR
    have S0 : Sc w.heap.size t W2.heap.size (T.set 5 z) (.slice ak key.length ck) key (W4.setCell ⟨W2.heap.size, 5, none⟩ (.int .u8 z)) := ⟨hc6, hz5, hk6⟩
    generalize T.getD 5 0 = x5 at *
    go_wp2_with (first
      | (refine wpList_load_rwG (by kernel_rfl) 24 (.tmp 9) rfl w.heap.size (cellsOf t) 24 _ rfl hc6 Try.underlying24 rfl HT24 ?_)
      | (go_at_call 10; refine (CC1.out _ _ S0.f3).mono ?_; rintro e W6 ⟨rfl, B6⟩; have S1 := Sc_below S0 B6; have BB6 := BB5.trans (B6.mono BB5.size); clear S0)
      | (refine wpList_load_rwG (by kernel_rfl) 25 (.tmp 12) rfl W2.heap.size (cellsOf (T.set 5 z)) 25 _ rfl S1.f2 Try.underlying25 rfl HU25 ?_)
      | (go_at_call 10; refine (CC2.out _ _ S1.f3).mono ?_; rintro e W7 ⟨rfl, B7⟩; have BB7 := BB6.trans (B7.mono BB6.size))
      | (go_at_call 12; refine (CK.out _).mono ?_; rintro e W8 ⟨rfl, B8⟩; have BB8 := BB7.trans (B8.mono BB7.size)))
    go_ret
    exact ⟨rfl, BB8⟩
end Go.Proofs.Ytkfnmdhhiigceaa
