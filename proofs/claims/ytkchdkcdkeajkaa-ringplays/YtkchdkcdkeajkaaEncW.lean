/-
  vm.Encode, by a contract.
-/
import Derived.Test.YtkchdkcdkeajkaaDecW

namespace Go.Proofs.Ytkchdkcdkeajkaa
open Go.RowKit Oc
theorem rangeE {W : World} {g : Nat} {s : Sp} (h : Cw W g (stV s) 35) : W.rangeAt g 1 (s.cells.map (Value.int .i32)) := by
  intro j u hu
  rw [h.cell, stV, show 1 + j = j + 1 by omega, List.getElem?_cons_succ, List.getElem?_append_left (List.getElem?_eq_some_iff.1 hu).1]
  exact hu
/-- The variables of Encode: the state, the Writer. -/
structure Ev (w W : World) (v : Value) (xs : List Int) (cs : List Value) : Prop where
  s : Cw W w.heap.size cs 35
  wr : Wr W (w.heap.size + 1) v xs
  below : Below w.heap.size w W
theorem Ev.step {w W W' : World} {v v' : Value} {xs ys : List Int} {cs : List Value} (h : Ev w W v xs cs) (h1 : Wr W' (w.heap.size + 1) v' ys) (h2 : Wstep (w.heap.size + 1) W v W' v') : Ev w W' v' ys cs := by
  have hb := h.wr.below h2 (Nat.le_refl _)
  exact ⟨h.s.below hb (by omega), h1, h.below.trans (hb.mono (by omega))⟩
theorem Ev.make {w W1 : World} {cs : List Value} (hc : Cw W1 w.heap.size cs 35) (B1 : Below w.heap.size w W1) (s1 : W1.heap.size = w.heap.size + 1) : Ev w (W1.alloc (.cells #[.slice none 0 0] 65)) (.slice none 0 0) [] cs := by
  have h := Wr_new W1
  rw [s1] at h
  exact ⟨hc.alloc _, h, B1.alloc (by omega) _⟩
theorem index16 (zs : List Int) (hz : zs.length = 16) (k : Nat) (hk : k < 16) (w : World) : (Instr.index 32 (.agg (zs.map (Value.int .i32)).toArray) (.int .i64 (k : Int))).run Try.prog w = .ok (.int .i32 (zs.getD k 0)) w := by
  simp [Instr.index, run_underlying Try.underlying32, asIntOf, go_sem, hz, hk, List.getD]
theorem encC_take {cells : List Int} {k : Nat} (hk : k < cells.length) : encC (cells.take (k + 1)) = encC (cells.take k) ++ fourB (uI (cells.getD k 0)) := by
  rw [List.take_add_one, encC_append, List.getElem?_eq_getElem hk, List.getD, List.getElem?_eq_getElem hk]
  simp [encC]
theorem encC_len : ∀ cells : List Int, (encC cells).length = cells.length * 4
  | [] => rfl
  | c :: l => by
    have := encC_len l
    simp only [encC, List.flatMap_cons, List.length_append, List.length_cons] at this ⊢
    have h4 : (fourB (uI c)).length = 4 := rfl
    omega
set_option maxRecDepth 20000 in
set_option maxHeartbeats 4000000 in
theorem Encode_any (s : Sp) (hs : s.Wf) (h0 : -9223372036854775808 ≤ s.frame) (h1 : s.frame ≤ 9223372036854775807) (w : World) :
    Calls Try.prog 23 #[.agg (stV s).toArray] w fun e w' => ∃ ao cap, e = .returned (.slice ao (encS s).length cap) ∧ Ow w' w.heap.size (.slice ao (encS s).length cap) (encS s) ∧ Below w.heap.size w w' := by
  have HC := hid_into (stV_c hs)
  have HRg : Hid (∀ W, Cw W w.heap.size (stV s) 35 → W.rangeAt w.heap.size 1 (s.cells.map (Value.int .i32))) := fun W h => rangeE h
  have HI := hid_into fun k hk W => index16 s.cells hs.cells k hk W
  have Hl16 := hid_into hs.cells
  have HN16 : Hid ((Try.prog.info? 32).map (·.size) = some (s.cells.map (Value.int .i32)).length) := by rw [List.length_map, hs.cells]; exact (by kernel_rfl : (Try.prog.info? 32).map (·.size) = some 16)
  have Hnl := hid_into (numOf_length s.frame)
  have HE : Hid (encS s = (((numOf s.frame ++ encC (s.cells.take 16)) ++ fourB s.seed) ++ [if s.over = true then 1 else 0]) ++ [s.win % 256]) := by
    refine hid_into ?_
    unfold encS
    rw [List.take_of_length_le (by rw [hs.cells]; exact Nat.le_refl _)]
    simp
  have hel : (encS s).length ≤ 200 := by
    rw [HE.out]
    simp only [List.length_append, encC_len, List.length_take, hs.cells]
    have h9 := Hnl.out
    have h4 : (fourB s.seed).length = 4 := rfl
    simp
    omega
  have Hel := hid_into hel
  clear hel hs
  generalize encS s = R at HE Hel ⊢
  obtain ⟨cs, hcs⟩ : ∃ cs, cs = stV s := ⟨_, rfl⟩
  rw [← hcs] at HC HRg ⊢
  clear hcs
  obtain ⟨fr, cells, seed, over, win⟩ := s
  simp only at h0 h1 HC HRg HI Hl16 HN16 Hnl HE
  generalize hcm : cells.map (Value.int .i32) = cm at HRg HI HN16
  clear hcm
  go_enter Try.func23, Try.ntmps23
  go_upto_block 0 with (go_big_may; first
    | (refine wpList_box_row rfl 35 (.tmp 0) rfl cs rfl ?_; intro W1 hc1 B1 HS1; have E1 := hid_into (Ev.make hc1 B1 HS1.out); have hsz := HS1.out; have k0 := (E1.out.s.cell 0).trans HC.out.frame; simp only at k0; clear hc1 B1)
    | (go_at_call 31; refine (num_w _ _ _ fr _ E1.out.wr (by simp) h0 h1).mono ?_; rintro e w2 ⟨rfl, v2, hw2, hst2⟩; have E2 := hid_into (E1.out.step hw2 hst2); clear hw2 hst2 E1 k0)
    | (refine wpList_load_mid rfl 32 (.tmp 9) rfl w.heap.size 1 rfl cm _ ?_ Try.underlying32 rfl HN16.out ?_; exact HRg.out _ E2.out.s))
  have hE0 : ([] ++ numOf fr : List Int) = numOf fr ++ encC (cells.take 0) := by simp [encC]
  rw [hE0] at E2
  clear hE0
  go_wp2_with fail
  go_loopw [11] (fun i wr => ∃ (k : Nat) (v : Value), k ≤ 16 ∧ i = .int .i64 (k : Int) ∧ Hid (Ev w wr v (numOf fr ++ encC (cells.take k)) cs)) (fun i _ => 16 - (intOf i).toNat)
  case atStart => exact ⟨0, v2, Nat.zero_le _, rfl, E2.out⟩
  case round =>
    clear E2
    obtain ⟨k, v, hk, rfl, HD⟩ := hrel
    have hlen : (numOf fr ++ encC (cells.take k)).length ≤ 100 := by
      have h9 := Hnl.out
      have h16 := Hl16.out
      simp only [List.length_append, encC_len, List.length_take, h16]
      omega
    have HLen := hid_into hlen
    clear hlen
    by_cases hlt : k < 16
    · have hlt' : (k : Int) < 16 := by omega
      have hI := HI.out k hlt
      have HT := hid_into (encC_take (cells := cells) (k := k) (by rw [Hl16.out]; exact hlt))
      generalize cells.getD k 0 = c at hI HT
      have hu : IntKind.u32.wrap c = uI c := rfl
      have C := hid_into (four_w (w.heap.size + 1) v _ (uI c) wr HD.out.wr (by have := HLen.out; omega))
      generalize uI c = x at hu C HT
      go_wp2_with (go_at_call 32; refine C.out.mono ?_; rintro e w3 ⟨rfl, v3, hw3, hst3⟩; have E3 := hid_into (HD.out.step hw3 hst3); clear hw3 hst3)
      go_roundw
      case rel => exact ⟨k + 1, v3, by omega, by go_num, by rw [HT.out, ← List.append_assoc]; exact E3.out⟩
      case measure => simp [intOf]; omega
    · obtain rfl : k = 16 := by omega
      have c17 := (HD.out.s.cell 17).trans HC.out.seed
      simp only at c17
      have C44 := hid_into (four_w (w.heap.size + 1) v _ seed wr HD.out.wr (by have := HLen.out; omega))
      have hw8 : IntKind.u8.wrap win = win % 256 := by simp [IntKind.wrap, IntKind.bits, IntKind.signed]
      have C45 : Hid (∀ W v xs x, Wr W (w.heap.size + 1) v xs → xs.length ≤ 1000 → Calls Try.prog 33 #[.pointer (some ⟨w.heap.size + 1, 0, none⟩), .int .u8 x] W fun e w' => e = .returned (.tuple #[]) ∧ ∃ v', Wr w' (w.heap.size + 1) v' (xs ++ [x]) ∧ Wstep (w.heap.size + 1) W v w' v') := fun W v xs x h1 h2 => byte_w _ v xs x W h1 (by omega)
      have C46 : Hid (∀ W v, Wr W (w.heap.size + 1) v R → Calls Try.prog 34 #[.pointer (some ⟨w.heap.size + 1, 0, none⟩)] W fun e w' => ∃ ao cap, e = .returned (.slice ao R.length cap) ∧ Ow w' W.heap.size (.slice ao R.length cap) R ∧ Below W.heap.size W w') := fun W v h => out_w _ v R W h (by have := Hel.out; omega)
      have hfl : (if over = true then (1 : Int) else 0) = fl over := by cases over <;> rfl
      rw [hfl] at HE
      clear hfl
      generalize win % 256 = wb at hw8 HE
      generalize hA : numOf fr ++ encC (cells.take 16) = A at HD C44 HE HLen
      clear hA
      go_wp2_with (first
        | (go_at_call 32; refine C44.out.mono ?_; rintro e w3 ⟨rfl, v3, hw3, hst3⟩; have E3 := hid_into (HD.out.step hw3 hst3); have c18 := (E3.out.s.cell 18).trans HC.out.over; simp only at c18; clear hw3 hst3 C44 c17)
        | (go_at_call 28; refine (flag_any _ _).mono ?_; rintro e w4 ⟨rfl, hw4⟩; subst hw4)
        | (go_at_call 33; have _e := E3; refine (C45.out _ _ _ _ E3.out.wr ?_).mono ?_; (have := HLen.out; simp only [List.length_append, fourB, List.length_cons, List.length_nil]; omega); rintro e w5 ⟨rfl, v5, hw5, hst5⟩; have E5 := hid_into (E3.out.step hw5 hst5); have c19 := (E5.out.s.cell 19).trans HC.out.win; simp only at c19; clear hw5 hst5 E3 _e c18)
        | (go_at_call 33; have _e := E5; refine (C45.out _ _ _ _ E5.out.wr ?_).mono ?_; (have := HLen.out; simp only [List.length_append, fourB, List.length_cons, List.length_nil]; omega); rintro e w6 ⟨rfl, v6, hw6, hst6⟩; have h6 := E5.out.step hw6 hst6; rw [← HE.out] at h6; have E6 := hid_into h6; clear hw6 hst6 E5 _e c19 h6)
        | (go_at_call 34; refine (C46.out _ _ E6.out.wr).mono ?_; rintro e w7 ⟨ao, cap, rfl, ho7, B7⟩))
      go_ret
      have hsz6 := E6.out.below.size
      exact ⟨ao, cap, rfl, ⟨ho7.1, by
        rcases ho7.2 with h | ⟨g, c1, cur, h2, h3, h4⟩
        · exact Or.inl h
        · exact Or.inr ⟨g, c1, cur, h2, Nat.le_trans hsz6 h3, h4⟩⟩, E6.out.below.trans (B7.mono hsz6)⟩
end Go.Proofs.Ytkchdkcdkeajkaa
