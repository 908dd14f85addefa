/-
  Joined from: EncW, REncW, EncB.
-/
import Derived.Test.YtlknolbfhfcflaaGreatM23
import Derived.Test.YtlknolbfhfcflaaGreatM20
section
/-
  vm.Encode, by a contract.
-/

namespace Go.Proofs.YtlknolbfhfcflaaGreat
open Go.RowKit Oc
theorem rangeE {W : World} {g : Nat} {s : Sp} (h : Cw W g (stV s) 25) : W.rangeAt g 1 (s.cells.map (Value.int .i32)) := by
  intro j u hu
  rw [h.cell, stV, show 1 + j = j + 1 by omega, List.getElem?_cons_succ, List.getElem?_append_left (List.getElem?_eq_some_iff.1 hu).1]
  exact hu
/-- The variables of Encode: the state, the Writer. -/
structure Ev (w W : World) (v : Value) (xs : List Int) (cs : List Value) : Prop where
  s : Cw W w.heap.size cs 25
  wr : Wr W (w.heap.size + 1) v xs
  below : Below w.heap.size w W
theorem Ev.step {w W W' : World} {v v' : Value} {xs ys : List Int} {cs : List Value} (h : Ev w W v xs cs) (h1 : Wr W' (w.heap.size + 1) v' ys) (h2 : Wstep (w.heap.size + 1) W v W' v') : Ev w W' v' ys cs := by
  have hb := h.wr.below h2 (Nat.le_refl _)
  exact ⟨h.s.below hb (by omega), h1, h.below.trans (hb.mono (by omega))⟩
theorem Ev.make {w W1 : World} {cs : List Value} (hc : Cw W1 w.heap.size cs 25) (B1 : Below w.heap.size w W1) (s1 : W1.heap.size = w.heap.size + 1) : Ev w (W1.alloc (.cells #[.slice none 0 0] 40)) (.slice none 0 0) [] cs := by
  have h := Wr_new W1
  rw [s1] at h
  exact ⟨hc.alloc _, h, B1.alloc (by omega) _⟩
theorem index16 (zs : List Int) (hz : zs.length = 16) (k : Nat) (hk : k < 16) (w : World) : (Instr.index 22 (.agg (zs.map (Value.int .i32)).toArray) (.int .i64 (k : Int))).run Tryz.prog w = .ok (.int .i32 (zs.getD k 0)) w := by
  simp [Instr.index, run_underlying Tryz.underlying22, asIntOf, go_sem, hz, hk, List.getD]
theorem encC_take {cells : List Int} {k : Nat} (hk : k < cells.length) : encC (cells.take (k + 1)) = encC (cells.take k) ++ fourB (uI (cells.getD k 0)) := by
  rw [List.take_add_one, encC_append, List.getElem?_eq_getElem hk, List.getD, List.getElem?_eq_getElem hk]
  simp [encC]
theorem encC_len : ∀ cells : List Int, (encC cells).length = cells.length * 4
  | [] => rfl
  | c :: l => by
    have := encC_len l
    simp only [encC, List.flatMap_cons, List.length_append, List.length_cons] at this ⊢
    have h4 : (fourB (uI c)).length = 4 := rfl
    omega
set_option maxRecDepth 20000 in
set_option maxHeartbeats 4000000 in
theorem Encode_any (s : Sp) (hs : s.Wf) (h0 : -9223372036854775808 ≤ s.frame) (h1 : s.frame ≤ 9223372036854775807) (w : World) :
    Calls Tryz.prog 4 #[.agg (stV s).toArray] w fun e w' => ∃ ao cap, e = .returned (.slice ao (encS s).length cap) ∧ Ow w' w.heap.size (.slice ao (encS s).length cap) (encS s) ∧ Below w.heap.size w w' := by
  have HC := hid_into (stV_c hs)
  have HRg : Hid (∀ W, Cw W w.heap.size (stV s) 25 → W.rangeAt w.heap.size 1 (s.cells.map (Value.int .i32))) := fun W h => rangeE h
  have HI := hid_into fun k hk W => index16 s.cells hs.cells k hk W
  have Hl16 := hid_into hs.cells
  have HN16 : Hid ((Tryz.prog.info? 22).map (·.size) = some (s.cells.map (Value.int .i32)).length) := by rw [List.length_map, hs.cells]; exact (by kernel_rfl : (Tryz.prog.info? 22).map (·.size) = some 16)
  have Hnl := hid_into (numOf_length s.frame)
  have HE : Hid (encS s = (((numOf s.frame ++ encC (s.cells.take 16)) ++ fourB s.seed) ++ [if s.over = true then 1 else 0]) ++ [s.win % 256]) := by
    refine hid_into ?_
    unfold encS
    rw [List.take_of_length_le (by rw [hs.cells]; exact Nat.le_refl _)]
    simp
  have hel : (encS s).length ≤ 200 := by
    rw [HE.out]
    simp only [List.length_append, encC_len, List.length_take, hs.cells]
    have h9 := Hnl.out
    have h4 : (fourB s.seed).length = 4 := rfl
    simp
    omega
  have Hel := hid_into hel
  clear hel hs
  generalize encS s = R at HE Hel ⊢
  obtain ⟨cs, hcs⟩ : ∃ cs, cs = stV s := ⟨_, rfl⟩
  rw [← hcs] at HC HRg ⊢
  clear hcs
  obtain ⟨fr, cells, seed, over, win⟩ := s
  simp only at h0 h1 HC HRg HI Hl16 HN16 Hnl HE
  generalize hcm : cells.map (Value.int .i32) = cm at HRg HI HN16
  clear hcm
  go_enter Tryz.func4, Tryz.ntmps4
  go_upto_block 0 with (go_big_may; first
    | (refine wpList_box_row rfl 25 (.tmp 0) rfl cs rfl ?_; intro W1 hc1 B1 HS1; have E1 := hid_into (Ev.make hc1 B1 HS1.out); have hsz := HS1.out; have k0 := (E1.out.s.cell 0).trans HC.out.frame; simp only at k0; clear hc1 B1)
    | (go_at_call 13; refine (num_w _ _ _ fr _ E1.out.wr (by simp) h0 h1).mono ?_; rintro e w2 ⟨rfl, v2, hw2, hst2⟩; have E2 := hid_into (E1.out.step hw2 hst2); clear hw2 hst2 E1 k0)
    | (refine wpList_load_mid rfl 22 (.tmp 9) rfl w.heap.size 1 rfl cm _ ?_ Tryz.underlying22 rfl HN16.out ?_; exact HRg.out _ E2.out.s))
  have hE0 : ([] ++ numOf fr : List Int) = numOf fr ++ encC (cells.take 0) := by simp [encC]
  rw [hE0] at E2
  clear hE0
  go_wp2_with fail
  go_loopw [11] (fun i wr => ∃ (k : Nat) (v : Value), k ≤ 16 ∧ i = .int .i64 (k : Int) ∧ Hid (Ev w wr v (numOf fr ++ encC (cells.take k)) cs)) (fun i _ => 16 - (intOf i).toNat)
  case atStart => exact ⟨0, v2, Nat.zero_le _, rfl, E2.out⟩
  case round =>
    clear E2
    obtain ⟨k, v, hk, rfl, HD⟩ := hrel
    have hlen : (numOf fr ++ encC (cells.take k)).length ≤ 100 := by
      have h9 := Hnl.out
      have h16 := Hl16.out
      simp only [List.length_append, encC_len, List.length_take, h16]
      omega
    have HLen := hid_into hlen
    clear hlen
    by_cases hlt : k < 16
    · have hlt' : (k : Int) < 16 := by omega
      have hI := HI.out k hlt
      have HT := hid_into (encC_take (cells := cells) (k := k) (by rw [Hl16.out]; exact hlt))
      generalize cells.getD k 0 = c at hI HT
      have hu : IntKind.u32.wrap c = uI c := rfl
      have C := hid_into (four_w (w.heap.size + 1) v _ (uI c) wr HD.out.wr (by have := HLen.out; omega))
      generalize uI c = x at hu C HT
      go_wp2_with (go_at_call 14; refine C.out.mono ?_; rintro e w3 ⟨rfl, v3, hw3, hst3⟩; have E3 := hid_into (HD.out.step hw3 hst3); clear hw3 hst3)
      go_roundw
      case rel => exact ⟨k + 1, v3, by omega, by go_num, by rw [HT.out, ← List.append_assoc]; exact E3.out⟩
      case measure => simp [intOf]; omega
    · obtain rfl : k = 16 := by omega
      have c17 := (HD.out.s.cell 17).trans HC.out.seed
      simp only at c17
      have C44 := hid_into (four_w (w.heap.size + 1) v _ seed wr HD.out.wr (by have := HLen.out; omega))
      have hw8 : IntKind.u8.wrap win = win % 256 := by simp [IntKind.wrap, IntKind.bits, IntKind.signed]
      have C45 : Hid (∀ W v xs x, Wr W (w.heap.size + 1) v xs → xs.length ≤ 1000 → Calls Tryz.prog 15 #[.pointer (some ⟨w.heap.size + 1, 0, none⟩), .int .u8 x] W fun e w' => e = .returned (.tuple #[]) ∧ ∃ v', Wr w' (w.heap.size + 1) v' (xs ++ [x]) ∧ Wstep (w.heap.size + 1) W v w' v') := fun W v xs x h1 h2 => byte_w _ v xs x W h1 (by omega)
      have C46 : Hid (∀ W v, Wr W (w.heap.size + 1) v R → Calls Tryz.prog 17 #[.pointer (some ⟨w.heap.size + 1, 0, none⟩)] W fun e w' => ∃ ao cap, e = .returned (.slice ao R.length cap) ∧ Ow w' W.heap.size (.slice ao R.length cap) R ∧ Below W.heap.size W w') := fun W v h => out_w _ v R W h (by have := Hel.out; omega)
      have hfl : (if over = true then (1 : Int) else 0) = fl over := by cases over <;> rfl
      rw [hfl] at HE
      clear hfl
      generalize win % 256 = wb at hw8 HE
      generalize hA : numOf fr ++ encC (cells.take 16) = A at HD C44 HE HLen
      clear hA
      go_wp2_with (first
        | (go_at_call 14; refine C44.out.mono ?_; rintro e w3 ⟨rfl, v3, hw3, hst3⟩; have E3 := hid_into (HD.out.step hw3 hst3); have c18 := (E3.out.s.cell 18).trans HC.out.over; simp only at c18; clear hw3 hst3 C44 c17)
        | (go_at_call 16; refine (flag_any _ _).mono ?_; rintro e w4 ⟨rfl, hw4⟩; subst hw4)
        | (go_at_call 15; have _e := E3; refine (C45.out _ _ _ _ E3.out.wr ?_).mono ?_; (have := HLen.out; simp only [List.length_append, fourB, List.length_cons, List.length_nil]; omega); rintro e w5 ⟨rfl, v5, hw5, hst5⟩; have E5 := hid_into (E3.out.step hw5 hst5); have c19 := (E5.out.s.cell 19).trans HC.out.win; simp only at c19; clear hw5 hst5 E3 _e c18)
        | (go_at_call 15; have _e := E5; refine (C45.out _ _ _ _ E5.out.wr ?_).mono ?_; (have := HLen.out; simp only [List.length_append, fourB, List.length_cons, List.length_nil]; omega); rintro e w6 ⟨rfl, v6, hw6, hst6⟩; have h6 := E5.out.step hw6 hst6; rw [← HE.out] at h6; have E6 := hid_into h6; clear hw6 hst6 E5 _e c19 h6)
        | (go_at_call 17; refine (C46.out _ _ E6.out.wr).mono ?_; rintro e w7 ⟨ao, cap, rfl, ho7, B7⟩))
      go_ret
      have hsz6 := E6.out.below.size
      exact ⟨ao, cap, rfl, ⟨ho7.1, by
        rcases ho7.2 with h | ⟨g, c1, cur, h2, h3, h4⟩
        · exact Or.inl h
        · exact Or.inr ⟨g, c1, cur, h2, Nat.le_trans hsz6 h3, h4⟩⟩, E6.out.below.trans (B7.mono hsz6)⟩
end Go.Proofs.YtlknolbfhfcflaaGreat
end

section
/-
  The document's Encode.
-/
namespace Go.Proofs.YtlknolbfhfcflaaGreat
open Go.RowKit Oc
/-- The state's box and the bytes so far. -/
structure Rv (w W : World) (v : Value) (xs : List Int) (cs : List Value) : Prop where
  s : Cw W w.heap.size cs 25
  o : Oc.Ow W (w.heap.size + 1) v xs
  b : Below w.heap.size w W
  z : w.heap.size + 1 ≤ W.heap.size
theorem Rv.next {w W W' : World} {v : Value} {xs : List Int} {cs : List Value} (h : Rv w W v xs cs) (hb : Below W.heap.size W W') : Rv w W' v xs cs :=
  ⟨h.s.below hb h.s.lt, h.o.keep fun k _ hk => hb.block k hk, h.b.trans (hb.mono h.b.size), Nat.le_trans h.z hb.size⟩
theorem Rv.app {w W W' : World} {v v' : Value} {xs ys : List Int} {cs : List Value} (h : Rv w W v xs cs) (ho : Oc.Ow W' (w.heap.size + 1) v' ys) (hg : W.grownBy W' v.ownBlock) : Rv w W' v' ys cs := by
  have hb : Below (w.heap.size + 1) W W' := ⟨hg.os, hg.tape, hg.output, hg.size, fun k hk => hg.block k (Nat.lt_of_lt_of_le hk h.z) fun e => by
    have := (World.ownsRow.lt h.o k e.symm).1
    omega⟩
  exact ⟨h.s.below hb (by omega), ho, h.b.trans (hb.mono (by omega)), Nat.le_trans h.z hg.size⟩
theorem wrap8 (x : Int) : IntKind.u8.wrap x = x % 256 := by
  simp [IntKind.wrap, IntKind.bits, IntKind.signed]
theorem Rv.grow {w W : World} {v vx : Value} {xs zs : List Int} {cs : List Value} (h : Rv w W v xs cs) (hb : Oc.Bs W vx zs) (hl : xs.length + zs.length ≤ 1000000) : ∃ v' W', (∀ ty, (Builtin.append_ #[26, 26] ty #[v, vx]).run Tryz.prog W = .ok v' W') ∧ Rv w W' v' (xs ++ zs) cs := by
  obtain ⟨ao, cap, W', hr, h2, h3, _⟩ := run_append_bs W (w.heap.size + 1) 26 v xs h.o vx zs hb (by omega) h.z
  exact ⟨_, W', fun ty => hr, h.app h2 h3⟩
theorem wpList_append_eq {o : Oper} {a : Act} {w w' : World} {ops : Array Oper} {rest : List Oper} {Q : Exit → Act → World → Prop} (hgd : o.guard = none) (t : TypeId) (s x : Operand) (ho : o.op = .call { callee := .builtin .append, args := #[s, x], argTypes := #[t, t] })
    (v u v' : Value) (hs : a.eval s = v) (hx : a.eval x = u) (hr : ∀ ty, (Builtin.append_ #[t, t] ty #[v, u]).run Tryz.prog w = .ok v' w') (h : wpList Tryz.prog ops Q rest (a.put o.dst v') w') : wpList Tryz.prog ops Q (o :: rest) a w := by
  refine wpList_plain hgd fun _ hK => ?_
  unfold Oper.wp execOp
  simp only [ho, resolve, invoke, builtin, Sem.run_bind, Sem.run_pure, Result.andThen_ok, List.map_toArray, List.map_cons, List.map_nil, hs, hx, hr]
  exact hK _ _ h
set_option maxRecDepth 20000 in
set_option maxHeartbeats 4000000 in
theorem rEncode_any (s : Sp) (hs : s.Wf) (h0 : -9223372036854775808 ≤ s.frame) (h1 : s.frame ≤ 9223372036854775807) (w : World) :
    Calls Tryz.prog 6 #[.agg (stV s).toArray] w fun e w' => ∃ ao cap, e = .returned (.slice ao (encS s).length cap) ∧ Oc.Ow w' w.heap.size (.slice ao (encS s).length cap) (encS s) ∧ Below w.heap.size w w' := by
  have HC := hid_into (stV_c hs)
  have CELL : Hid (∀ W, Cw W w.heap.size (stV s) 25 → ∀ k, k < 16 → W.cell? ⟨w.heap.size, 1 + k, none⟩ = some (.int .i32 (s.cells.getD k 0))) := by
    intro W hW k hk
    rw [hW.cell, stV, Nat.add_comm, List.getElem?_cons_succ, List.getElem?_append_left (by rw [List.length_map, hs.cells]; exact hk)]
    simp [List.getD, hs.cells, hk]
  have Hl16 := hid_into hs.cells
  have Hnl := hid_into (numOf_length s.frame)
  have HE : Hid (encS s = ((numOf s.frame ++ encC (s.cells.take 16)) ++ fourB s.seed) ++ [if s.over = true then 1 else 0, s.win % 256]) := by
    refine hid_into ?_
    unfold encS
    rw [List.take_of_length_le (by rw [hs.cells]; exact Nat.le_refl _)]
    simp
  clear hs
  generalize encS s = R at HE ⊢
  obtain ⟨cs, hcs⟩ : ∃ cs, cs = stV s := ⟨_, rfl⟩
  rw [← hcs] at HC CELL ⊢
  clear hcs
  obtain ⟨fr, cells, seed, over, win⟩ := s
  simp only at h0 h1 HC CELL Hl16 Hnl HE
  go_enter Tryz.func6, Tryz.ntmps6
  go_upto_block 0 with (go_big_may; first
    | (refine wpList_box_row rfl 25 (.tmp 0) rfl cs rfl ?_; intro W1 hc1 B1 HS1; have k0 := (hc1.cell 0).trans HC.out.frame; simp only at k0; replace hc1 := hid_into hc1; replace B1 := hid_into B1)
    | (go_at_call 18; refine (refNum_any _ _ h0 h1).mono ?_; rintro e w2 ⟨ao2, cap2, rfl, ho2, hb2⟩; have E2 : Hid (Rv w w2 (.slice ao2 (numOf fr).length cap2) (numOf fr) cs) := ⟨hc1.out.below hb2 hc1.out.lt, by rw [HS1.out] at ho2; exact ho2, B1.out.trans (hb2.mono B1.out.size), by rw [← HS1.out]; exact hb2.size⟩; clear ho2 hb2 k0 hc1 B1))
  have hE0 : numOf fr = numOf fr ++ encC (cells.take 0) := by simp [encC]
  have E3 : Hid (∃ v, v = Value.slice ao2 (numOf fr).length cap2 ∧ Rv w w2 v (numOf fr ++ encC (cells.take 0)) cs) := ⟨_, rfl, by rw [← hE0]; exact E2.out⟩
  clear hE0 E2
  generalize (numOf fr).length = nl at E3 ⊢
  go_wp2_with fail
  go_loopw [3, 4] (fun tv i wr => ∃ k : Nat, k ≤ 16 ∧ i = .int .i64 (k : Int) ∧ Hid (Rv w wr tv (numOf fr ++ encC (cells.take k)) cs)) (fun _ i _ => 16 - (intOf i).toNat)
  case atStart =>
    obtain ⟨v, hv, hE⟩ := E3.out
    subst hv
    exact ⟨0, Nat.zero_le _, rfl, hE⟩
  case round =>
    clear E3
    obtain ⟨k, hk, rfl, HD⟩ := hrel
    have HLen : Hid ((numOf fr ++ encC (cells.take k)).length ≤ 100) := by
      have h9 := Hnl.out
      have h16 := Hl16.out
      refine hid_into ?_
      simp only [List.length_append, encC_len, List.length_take, h16]
      omega
    by_cases hlt : k < 16
    · have hlt' : (k : Int) < 16 := by omega
      have HT := hid_into (encC_take (cells := cells) (k := k) (by rw [Hl16.out]; exact hlt))
      have kc := CELL.out _ HD.out.s k hlt
      generalize cells.getD k 0 = c at kc HT
      have hu : IntKind.u32.wrap c = uI c := rfl
      generalize uI c = x at hu HT
      go_wp2_with (first
        | (go_at_call 19; refine (refFour_any x wr).mono ?_; rintro e w3 ⟨ao3, cap3, rfl, ho3, hb3⟩; obtain ⟨v4, W4, hr4, h4⟩ := (HD.out.next hb3).grow ho3.bs (by have := HLen.out; have : (fourB x).length = 4 := rfl; omega); have X4 := hid_into hr4; have H4 := hid_into h4; clear hr4 h4 ho3 hb3)
        | (refine wpList_append_eq (w' := W4) rfl 26 (.tmp 13) (.tmp 19) rfl _ _ v4 (by rfl) (by rfl) ?_ ?_; exact X4.out))
      go_roundw
      case rel => exact ⟨k + 1, by omega, by go_num, by rw [HT.out, ← List.append_assoc]; exact H4.out⟩
      case measure => simp [intOf]; omega
    · obtain rfl : k = 16 := by omega
      clear hlt hk
      have c17 := (HD.out.s.cell 17).trans HC.out.seed
      simp only at c17
      have hw8 := wrap8 win
      have hfl : (if over = true then (1 : Int) else 0) = fl over := by cases over <;> rfl
      rw [hfl] at HE
      clear hfl
      generalize win % 256 = wb at hw8 HE
      generalize numOf fr ++ encC (cells.take 16) = A at HD HE HLen
      cases over with
      | true =>
        go_wp2_with (first
          | (go_at_call 19; refine (refFour_any seed wr).mono ?_; rintro e w3 ⟨ao3, cap3, rfl, ho3, hb3⟩; obtain ⟨v4, W4, hr4, h4⟩ := (HD.out.next hb3).grow ho3.bs (by have := HLen.out; have : (fourB seed).length = 4 := rfl; omega); have X4 := hid_into hr4; have H4 := hid_into h4; have c18 := (h4.s.cell 18).trans HC.out.over; have c19 := (h4.s.cell 19).trans HC.out.win; simp only at c18 c19; clear hr4 h4 ho3 hb3 c17; obtain ⟨v5, W5, hr5, h5⟩ := (H4.out.next ((Below.refl _ _).alloc (Nat.le_refl _) (.cells #[.int .u8 1, .int .u8 wb] 5))).grow (zs := [1, wb]) (Oc.Bs_of_block (heap_alloc_new W4 _) (by simp [maxLen])) (by have := HLen.out; simp only [List.length_append, List.length_cons, List.length_nil]; have : (fourB seed).length = 4 := rfl; omega); have X5 := hid_into hr5; have H5 := hid_into h5; clear hr5 h5)
          | (refine wpList_append_eq (w' := W4) rfl 26 (.tmp 21) (.tmp 24) rfl _ _ v4 (by rfl) (by rfl) ?_ ?_; exact X4.out)
          | (refine wpList_append_eq (w' := W5) rfl 26 (.tmp 28) (.tmp 33) rfl _ _ v5 (by rfl) (by rfl) ?_ ?_; exact X5.out))
        go_ret
        have h6 := H5.out
        rw [show A ++ fourB seed ++ [1, wb] = R from HE.out.symm] at h6
        obtain ⟨ao, cap, hv, _⟩ := h6.o.bs.len
        subst hv
        exact ⟨ao, cap, rfl, h6.o.mono (by omega), h6.b⟩
      | false =>
        go_wp2_with (first
          | (go_at_call 19; refine (refFour_any seed wr).mono ?_; rintro e w3 ⟨ao3, cap3, rfl, ho3, hb3⟩; obtain ⟨v4, W4, hr4, h4⟩ := (HD.out.next hb3).grow ho3.bs (by have := HLen.out; have : (fourB seed).length = 4 := rfl; omega); have X4 := hid_into hr4; have H4 := hid_into h4; have c18 := (h4.s.cell 18).trans HC.out.over; have c19 := (h4.s.cell 19).trans HC.out.win; simp only at c18 c19; clear hr4 h4 ho3 hb3 c17; obtain ⟨v5, W5, hr5, h5⟩ := (H4.out.next ((Below.refl _ _).alloc (Nat.le_refl _) (.cells #[.int .u8 0, .int .u8 wb] 5))).grow (zs := [0, wb]) (Oc.Bs_of_block (heap_alloc_new W4 _) (by simp [maxLen])) (by have := HLen.out; simp only [List.length_append, List.length_cons, List.length_nil]; have : (fourB seed).length = 4 := rfl; omega); have X5 := hid_into hr5; have H5 := hid_into h5; clear hr5 h5)
          | (refine wpList_append_eq (w' := W4) rfl 26 (.tmp 21) (.tmp 24) rfl _ _ v4 (by rfl) (by rfl) ?_ ?_; exact X4.out)
          | (refine wpList_append_eq (w' := W5) rfl 26 (.tmp 28) (.tmp 33) rfl _ _ v5 (by rfl) (by rfl) ?_ ?_; exact X5.out))
        go_ret
        have h6 := H5.out
        rw [show A ++ fourB seed ++ [0, wb] = R from HE.out.symm] at h6
        obtain ⟨ao, cap, hv, _⟩ := h6.o.bs.len
        subst hv
        exact ⟨ao, cap, rfl, h6.o.mono (by omega), h6.b⟩
end Go.Proofs.YtlknolbfhfcflaaGreat
end

section
/-
  A state's bytes, and back. No walk.
-/
namespace Go.Proofs.YtlknolbfhfcflaaGreat
open Oc
theorem fourV_fourB (x : Int) (h0 : 0 ≤ x) (h1 : x < 4294967296) : fourV (fourB x) = x := by
  simp only [fourV, fourB, List.getD_cons_zero, List.getD_cons_succ]
  omega
theorem uI_in (c : Int) : 0 ≤ uI c ∧ uI c < 4294967296 := by
  unfold uI
  simp [IntKind.wrap, IntKind.bits, IntKind.signed]
  omega
theorem sgnI_uI {c : Int} (h : In32 c) : sgnI (uI c) = c := by
  unfold In32 at h
  unfold sgnI uI
  simp [IntKind.wrap, IntKind.bits, IntKind.signed]
  split <;> omega
theorem snoc_of {cs : List Int} {k : Nat} (h : cs.length = k + 1) : ∃ a c, cs = a ++ [c] ∧ a.length = k := by
  have hne : cs ≠ [] := by intro e; rw [e] at h; cases h
  exact ⟨cs.dropLast, cs.getLast hne, (List.dropLast_concat_getLast hne).symm, by rw [List.length_dropLast]; omega⟩
theorem fk_enc : ∀ (k : Nat) (cs r : List Int), cs.length = k → (∀ x ∈ cs, In32 x) → fk k (encC cs ++ r) 0 = (cs, r, 0)
  | 0, cs, r, h, _ => by
    obtain rfl := List.eq_nil_of_length_eq_zero h
    rfl
  | k + 1, cs, r, h, hin => by
    obtain ⟨a, c, rfl, ha⟩ := snoc_of h
    have e1 : encC (a ++ [c]) ++ r = encC a ++ (fourB (uI c) ++ r) := by rw [encC_append, List.append_assoc]; simp [encC]
    rw [e1, fk, fk_enc k a (fourB (uI c) ++ r) ha (fun x hx => hin x (List.mem_append_left _ hx))]
    have hl : z4.length ≤ (fourB (uI c) ++ r).length := by simp [z4, fourB]
    rw [rowR_yes hl]
    have h4 : (fourB (uI c) ++ r).take z4.length = fourB (uI c) := by simp [z4, fourB]
    have h5 : (fourB (uI c) ++ r).drop z4.length = r := by simp [z4, fourB]
    have hu := uI_in c
    simp only [h4, h5, fourV_fourB _ hu.1 hu.2, sgnI_uI (hin c (by simp))]
theorem enc_back {s : Sp} (hs : s.Wf) (h : isS s = true) : decP (encS s) = (s, 0) := by
  have hi := h
  simp only [isS, decide_eq_true_eq] at hi
  obtain ⟨fr, cells, seed, over, win⟩ := s
  simp only at hi
  have hc : cells.length = 16 := hs.cells
  have hsd : 0 ≤ seed ∧ seed < 4294967296 := hs.seed
  have hA : dA (encS ⟨fr, cells, seed, over, win⟩) = (fr, encC cells ++ (fourB seed ++ [(if over = true then 1 else 0), win % 256]), 0) := numR_numOf fr _ (by omega) (by omega)
  have hB : dB (encS ⟨fr, cells, seed, over, win⟩) = (cells, fourB seed ++ [(if over = true then 1 else 0), win % 256], 0) := by
    unfold dB; rw [hA]; exact fk_enc 16 cells _ hc hs.cin
  have hC : dC (encS ⟨fr, cells, seed, over, win⟩) = (fourB seed, [(if over = true then 1 else 0), win % 256], 0) := by
    unfold dC; rw [hB, rowR_yes (by simp [z4, fourB])]; simp [z4, fourB]
  have hD : dD (encS ⟨fr, cells, seed, over, win⟩) = ([if over = true then 1 else 0], [win % 256], 0) := by
    unfold dD; rw [hC, rowR_yes (by simp)]; simp
  have hG : dG (encS ⟨fr, cells, seed, over, win⟩) = ([win % 256], [], 0) := by
    unfold dG; rw [hD, rowR_yes (by simp)]; simp
  have hE : dE (encS ⟨fr, cells, seed, over, win⟩) = 0 := by unfold dE; rw [hG]; simp [endR]
  have hO : dOv (encS ⟨fr, cells, seed, over, win⟩) = if over = true then 1 else 0 := by unfold dOv; rw [hD]; rfl
  have hS : dS (encS ⟨fr, cells, seed, over, win⟩) = ⟨fr, cells, seed, over, win⟩ := by
    unfold dS
    rw [hA, hB, hC, hG, hO, fourV_fourB _ hsd.1 hsd.2]
    have e1 : decide ((if over = true then (1 : Int) else 0) = 1) = over := by cases over <;> rfl
    have e2 : win % 256 = win := by omega
    rw [e1, e2]
    rfl
  unfold decP
  rw [hE, if_neg (by simp), hO, hS, h, if_neg]
  cases over <;> simp
theorem encS_byt {s : Sp} (h0 : -9223372036854775808 ≤ s.frame) (h1 : s.frame ≤ 9223372036854775807) : Byt (encS s) := by
  have four : ∀ x : Int, Byt (fourB x) := by
    intro x z hz
    simp only [fourB, List.mem_cons, List.not_mem_nil, or_false] at hz
    omega
  intro z hz
  unfold encS at hz
  simp only [List.mem_append, List.mem_cons, List.not_mem_nil, or_false] at hz
  rcases hz with hz | hz | hz | hz | hz
  · exact numOf_byt s.frame h0 h1 z hz
  · unfold encC at hz
    obtain ⟨c, _, hc⟩ := List.mem_flatMap.1 hz
    exact four _ z hc
  · exact four _ z hz
  · rw [hz]; split <;> omega
  · omega
theorem encS_len (s : Sp) (hs : s.Wf) : (encS s).length ≤ 100 := by
  have h9 := numOf_length s.frame
  unfold encS
  simp only [List.length_append, encC_len, hs.cells, fourB, List.length_cons, List.length_nil]
  omega
end Go.Proofs.YtlknolbfhfcflaaGreat
end
