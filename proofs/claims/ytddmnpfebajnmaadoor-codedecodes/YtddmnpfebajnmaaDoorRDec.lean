/-
  The document's Decode, walked.
-/
import Derived.Test.YtddmnpfebajnmaaDoorFq
import Derived.LoopN
namespace Go.Proofs.YtddmnpfebajnmaaDoor
open Go.RowKit
theorem rq_end_f {N : Nat} {w : World} {b : Nat} {zs : List Int} {e : Int} (h : Fq N w b zs e) : Calls Tryd.prog 42 #[.pointer (some ⟨b, 0, none⟩)] w fun r w' => r = .returned (.int .i64 (endR zs e)) ∧ w' = w := fq_end h
set_option maxRecDepth 20000 in
set_option maxHeartbeats 8000000 in
theorem rdecode_any (sv : Value) (zs : List Int) (w : World) (hb : Bs w sv zs) (hv : ∀ k, sv.ownBlock = some k → k < w.heap.size) (hy : Byt zs) :
    Calls Tryd.prog 20 #[sv] w fun e w' => ∃ rv, e = .returned (.tuple #[rv, .int .i64 (decP zs).2]) ∧ Ls w' rv (decP zs).1 ∧ Below w.heap.size w w' := by
  obtain ⟨sao, scap, rfl, _⟩ := hb.len
  obtain ⟨szn, hszn⟩ : ∃ n, n = zs.length := ⟨_, rfl⟩
  rw [← hszn] at hb hv ⊢
  have hA : Below w.heap.size w (w.alloc (.cells #[.slice sao szn scap, .int .i64 0] 84)) := (Below.refl _ _).alloc (Nat.le_refl _) _
  have HQ : Hid (Fq (w.heap.size + 1) (w.alloc (.cells #[.slice sao szn scap, .int .i64 0] 84)) w.heap.size zs 0) := ⟨by omega, Or.inl rfl, _, ⟨heap_alloc_new w _, hb.below hA (Nat.le_refl _), fun e => by have := hv _ e; omega⟩, fun k hk => by have := hv k hk; omega⟩
  have HB := hid_into hA
  obtain ⟨nv, hnv⟩ : ∃ nv, nv = (numR 10 0 0 zs).1 := ⟨_, rfl⟩
  obtain ⟨nr, hnr⟩ : ∃ nr, nr = (numR 10 0 0 zs).2.1 := ⟨_, rfl⟩
  obtain ⟨ne, hne⟩ : ∃ ne, ne = (numR 10 0 0 zs).2.2 := ⟨_, rfl⟩
  have C1 := fq_num HQ.out hy
  rw [← hnv, ← hnr, ← hne] at C1
  have HNB : Hid (Byt nr) := by rw [hnr]; exact (numR_byt 10 0 0 zs hy).1
  have HNE : Hid (ne ≠ 0 → nv = 0 ∧ nr = []) := by rw [hnr, hne, hnv]; exact fun h0 => numR_err 10 0 0 zs h0
  have HN2 : Hid (ne = 0 ∨ ne = 2 ∨ ne = 3) := by rw [hne]; exact decP_back.numR_two 10 0 0 zs
  have HK : Hid (tkR zs = if ne ≠ 0 then .error ne else if nv < 0 ∨ 256 < nv then .error 3 else takeN nv.toNat nr) := by rw [hne, hnv, hnr]; exact hid_into rfl
  have HD := hid_into (decP_tk zs)
  have HTN := hid_into (tkR_ne zs)
  have HLN := hid_into (fun l => tkR_len (l := l) hy)
  clear hb hv hA HQ hnv hnr hne hy hszn
  by_cases hneg : nv < 0
  · have HK2 : Hid (decP zs = ([], 3)) := by
      show _ = _
      have h0 : ¬ ne ≠ 0 := fun h0 => by have := (HNE.out h0).1; omega
      rw [HD.out, HK.out, if_neg h0, if_pos (Or.inl hneg)]
    obtain rfl : ne = 0 := by
      by_cases h0 : ne = 0
      · exact h0
      · have := (HNE.out h0).1; omega
    rw [HK2.out]
    clear HNB HNE HN2 HK HD HTN HLN HK2
    go_enter Tryd.func20, Tryd.ntmps20
    go_wp2_with (first
      | (go_at_call 39; refine C1.mono ?_; rintro e w0 ⟨rfl, h0, s0⟩)
      | (go_at_call 40; refine (fq_bad h0).mono ?_; rintro e w1 ⟨rfl, h1, s1⟩; have c1 := h1.cell))
    refine wp_loop_rounds 1 ?_
    rw [rounds_succ]
    go_wp2_with (first
      | (go_at_call 42; refine (fq_end h1).mono ?_; rintro e w2 ⟨rfl, rfl⟩; rw [show endR [] 3 = 3 from rfl]))
    go_ret2
    exact ⟨_, rfl, (Lo.nil _ 0).ls, HB.out.trans ((s0.below (Nat.le_refl _) HB.out.size).trans (s1.below (Nat.le_refl _) (by have := s0.size; have := HB.out.size; omega)))⟩
  by_cases hbig : 256 < nv
  · have HK2 : Hid (decP zs = ([], 3)) := by
      show _ = _
      have h0 : ¬ ne ≠ 0 := fun h0 => by have := (HNE.out h0).1; omega
      rw [HD.out, HK.out, if_neg h0, if_pos (Or.inr hbig)]
    obtain rfl : ne = 0 := by
      by_cases h0 : ne = 0
      · exact h0
      · have := (HNE.out h0).1; omega
    rw [HK2.out]
    clear HNB HNE HN2 HK HD HTN HLN HK2
    go_enter Tryd.func20, Tryd.ntmps20
    go_wp2_with (first
      | (go_at_call 39; refine C1.mono ?_; rintro e w0 ⟨rfl, h0, s0⟩)
      | (go_at_call 40; refine (fq_bad h0).mono ?_; rintro e w1 ⟨rfl, h1, s1⟩; have c1 := h1.cell))
    refine wp_loop_rounds 1 ?_
    rw [rounds_succ]
    go_wp2_with (first
      | (go_at_call 42; refine (fq_end h1).mono ?_; rintro e w2 ⟨rfl, rfl⟩; rw [show endR [] 3 = 3 from rfl]))
    go_ret2
    exact ⟨_, rfl, (Lo.nil _ 0).ls, HB.out.trans ((s0.below (Nat.le_refl _) HB.out.size).trans (s1.below (Nat.le_refl _) (by have := s0.size; have := HB.out.size; omega)))⟩
  obtain ⟨n, rfl⟩ := Int.eq_ofNat_of_zero_le (show 0 ≤ nv by omega)
  have hn : n ≤ 256 := by omega
  have HTI : Hid (TkI (tkR zs) n 0 [] nr ne) := by
    by_cases h0 : ne = 0
    · have e : tkR zs = takeN n nr := by
        rw [HK.out, if_neg (by simp [h0]), if_neg (by omega)]
        rfl
      rw [h0, e]
      exact TkI.start n nr HNB.out
    · refine ⟨fun e => absurd e h0, fun _ => ⟨(HNE.out h0).2, ?_, ?_⟩, HNB.out⟩
      · rw [HK.out, if_pos h0]
      · rcases HN2.out with h1 | h1
        · exact absurd h1 h0
        · exact h1
  clear HNB HNE HN2 HK hneg hbig
  generalize tkR zs = T at *
  generalize decP zs = D at *
  go_enter Tryd.func20, Tryd.ntmps20
  go_wp2_with (go_at_call 39; refine C1.mono ?_; rintro e w0 ⟨rfl, h0, s0⟩)
  have HR : Hid (Fq (w.heap.size + 1) w0 w.heap.size nr ne) := h0
  have HS : Hid (Below w.heap.size w w0) := HB.out.trans (s0.below (Nat.le_refl _) HB.out.size)
  have hsz0 : w.heap.size + 1 ≤ w0.heap.size := by have := s0.size; rw [World.size_alloc] at this; exact this
  clear h0 s0 HB C1
  go_loopw [6, 7] (fun s i wr => ∃ (k : Nat) (acc : List Ii) (ao : Option Addr) (cap : Nat) (ys : List Int) (e : Int), k ≤ n ∧ i = .int .i64 (k : Int) ∧ s = .slice ao acc.length cap ∧ Hid (acc.length = k) ∧ Hid (Lo wr (w.heap.size + 1) (.slice ao acc.length cap) acc) ∧ Hid (Fq (w.heap.size + 1) wr w.heap.size ys e) ∧ Hid (TkI T n k acc ys e) ∧ Hid (Below w.heap.size w wr) ∧ w.heap.size + 1 ≤ wr.heap.size) (fun _ i _ => n - (intOf i).toNat)
  case atStart => exact ⟨0, [], none, 0, nr, ne, Nat.zero_le _, rfl, rfl, hid_into rfl, hid_into (Lo.nil _ _), HR, HTI, HS, hsz0⟩
  case round =>
    clear HR HTI HS hsz0
    obtain ⟨k, acc, ao, cap, ys, e, hk, rfl, rfl, HAL0, HLo, HR, HTI, HS, hws⟩ := hrel
    have ce := HR.out.cell
    by_cases hgo : k < n ∧ e = 0
    · obtain ⟨hlt, rfl⟩ := hgo
      have HAL : Hid (acc.length ≤ 256) := by have := HAL0.out; show _ ≤ _; omega
      rcases ys with _ | ⟨z, ys⟩
      · have HTI2 : Hid (TkI T n (k + 1) (acc ++ [(0, 0)]) [] 2) := ⟨fun h => absurd h (by decide), fun _ => ⟨rfl, HTI.out.short hlt, Or.inl rfl⟩, fun z hz => (by cases hz)⟩
        have CB : Calls Tryd.prog 41 #[.pointer (some ⟨w.heap.size, 0, none⟩)] wr fun r w' => r = .returned (.int .u8 0) ∧ Fq (w.heap.size + 1) w' w.heap.size [] 2 ∧ Rstep w.heap.size wr w' := fq_byte HR.out
        have CH : ∀ W, Calls Tryd.prog 31 #[.int .i64 0] W fun e w' => e = .returned (.bool false) ∧ w' = W := fun W => rhas_any 0 W
        clear HTI
        go_wp2_with (first
          | (go_at_call 41; refine CB.mono ?_; rintro e w3 ⟨rfl, h3, s3⟩; have hA3 : Below w3.heap.size w3 (w3.alloc (.cells #[.int .i64 0, .int .i64 0] 60)) := ((Below.refl _ _).alloc (Nat.le_refl _) _); have hs3 := s3.size; have HR4 := hid_into (h3.step hA3 (by omega)); have c4 := HR4.out.cell; have HS4 := hid_into ((HS.out.trans (s3.below (Nat.le_refl _) (by omega))).trans (hA3.mono (by omega))); have hL3 := HLo.out.keep (w' := w3) (fun k hk hlt => s3.block k hlt (by have := (HLo.out.lt k hk).1; omega)); have HL4 := hid_into (hL3.below hA3); have HX4 : Hid (Cw (w3.alloc (.cells #[.int .i64 0, .int .i64 0] 60)) w3.heap.size [.int .i64 0, .int .i64 0] 60) := Cw.new w3 _ _; have hA5 : Below (w3.alloc (.cells #[.int .i64 0, .int .i64 0] 60)).heap.size (w3.alloc (.cells #[.int .i64 0, .int .i64 0] 60)) ((w3.alloc (.cells #[.int .i64 0, .int .i64 0] 60)).alloc (.cells #[.int .i64 0, .int .i64 0] 60)) := ((Below.refl _ _).alloc (Nat.le_refl _) _); have hOa := HL4.out.below hA5; have HR5 := hid_into (HR4.out.step hA5 (by simp; omega)); have HS5 := hid_into (HS4.out.trans (hA5.mono HS4.out.size)); have hLa : Ls ((w3.alloc (.cells #[.int .i64 0, .int .i64 0] 60)).alloc (.cells #[.int .i64 0, .int .i64 0] 60)) (.slice (some ⟨w3.heap.size + 1, 0, none⟩) 1 1) [(0, 0)] := (by have e1 := heap_alloc_new (w3.alloc (.cells #[.int .i64 0, .int .i64 0] 60)) (.cells (cells2 [(0, 0)]).toArray 60); rw [World.size_alloc] at e1; exact Ls_of_block (l := [(0, 0)]) e1 (by unfold maxLen; simp)); clear hL3 h3)
          | (go_at_call 31; refine (CH _).mono ?_; rintro e w4 ⟨rfl, rfl⟩)
          | (at_builtin; refine wpList_append_ls _ rfl (.tmp 62) (.tmp 64) rfl (w.heap.size + 1) _ acc rfl hOa _ [(0, 0)] rfl hLa (by have := HAL.out; simp; omega) (by simp; omega) ?_; intro ao7 cap7 w7 hown7 hg7 hat7; obtain ⟨R7, S7⟩ := after_append2 hOa (Nat.le_succ _) (by simp; omega) HR5.out HS5.out hg7; have HO7 := hid_into hown7; have hz7 := hg7.size; clear hown7 hg7 hat7))
        go_roundw
        case rel => exact ⟨k + 1, acc ++ [(0, 0)], ao7, cap7, [], 2, by omega, by go_num, by simp, hid_into (by have := HAL0.out; simp; omega), hid_into (by simpa using HO7.out), R7, HTI2, S7, by simp at hz7; omega⟩
        case measure => simp [intOf]; omega
      · obtain ⟨z0, z1⟩ := HTI.out.byt z (by simp)
        have CB : Calls Tryd.prog 41 #[.pointer (some ⟨w.heap.size, 0, none⟩)] wr fun r w' => r = .returned (.int .u8 z) ∧ Fq (w.heap.size + 1) w' w.heap.size ys 0 ∧ Rstep w.heap.size wr w' := fq_byte HR.out
        have hw8 : IntKind.i64.wrap z = z := by rw [IntKind.wrap_i64]; omega
        cases ho : opI z with
        | false =>
          have hsa : hasA z = false := by
            cases h : hasA z with
            | true => rw [hasA_op h] at ho; cases ho
            | false => rfl
          have HTI2 : Hid (TkI T n (k + 1) (acc ++ [(z, 0)]) [] 3) := ⟨fun h => absurd h (by decide), fun _ => ⟨rfl, HTI.out.none_ hlt ho, Or.inr rfl⟩, fun z hz => (by cases hz)⟩
          have CH : ∀ W, Calls Tryd.prog 31 #[.int .i64 z] W fun e w' => e = .returned (.bool false) ∧ w' = W := fun W => by have := rhas_any z W; rwa [hsa] at this
          have hout : z < 1 ∨ 22 < z := by
            simp only [opI, decide_eq_false_iff_not] at ho
            omega
          clear HTI ho hsa
          rcases hout with hout | hout
          · go_wp2_with (first
              | (go_at_call 41; refine CB.mono ?_; rintro e w3 ⟨rfl, h3, s3⟩; have hA3 : Below w3.heap.size w3 (w3.alloc (.cells #[.int .i64 z, .int .i64 0] 60)) := ((Below.refl _ _).alloc (Nat.le_refl _) _); have hs3 := s3.size; have HR4 := hid_into (h3.step hA3 (by omega)); have c4 := HR4.out.cell; have HS4 := hid_into ((HS.out.trans (s3.below (Nat.le_refl _) (by omega))).trans (hA3.mono (by omega))); have hL3 := HLo.out.keep (w' := w3) (fun k hk hlt => s3.block k hlt (by have := (HLo.out.lt k hk).1; omega)); have HL4 := hid_into (hL3.below hA3); have HX4 : Hid (Cw (w3.alloc (.cells #[.int .i64 z, .int .i64 0] 60)) w3.heap.size [.int .i64 z, .int .i64 0] 60) := Cw.new w3 _ _; clear hL3 h3)
              | (go_at_call 40; refine (fq_bad HR4.out).mono ?_; rintro e w5 ⟨rfl, h5, s5⟩; have hX5 := HX4.out.keep (s5.block w3.heap.size HX4.out.lt (by omega)); have c50 := hX5.cell 0; have c51 := hX5.cell 1; simp only [List.getElem?_cons_succ, List.getElem?_cons_zero] at c50 c51; have hz5 : w3.heap.size + 1 ≤ w5.heap.size := (by have := s5.size; rw [World.size_alloc] at this; exact this); have hA5 : Below w5.heap.size w5 (w5.alloc (.cells #[.int .i64 z, .int .i64 0] 60)) := ((Below.refl _ _).alloc (Nat.le_refl _) _); have hL5 := HL4.out.keep (w' := w5) (fun k hk hlt => s5.block k hlt (by have := (HL4.out.lt k hk).1; omega)); have hOa := hL5.below hA5; have HR5 := hid_into (h5.step hA5 (by omega)); have HS5 := hid_into ((HS4.out.trans (s5.below (Nat.le_refl _) (by simp; omega))).trans (hA5.mono (by omega))); have hLa : Ls (w5.alloc (.cells #[.int .i64 z, .int .i64 0] 60)) (.slice (some ⟨w5.heap.size, 0, none⟩) 1 1) [(z, 0)] := (Ls_of_block (l := [(z, 0)]) (heap_alloc_new w5 _) (by unfold maxLen; simp)); clear hL5 h5 hX5)
              | (go_at_call 31; refine (CH _).mono ?_; rintro e w4 ⟨rfl, rfl⟩)
              | (at_builtin; refine wpList_append_ls _ rfl (.tmp 62) (.tmp 64) rfl (w.heap.size + 1) _ acc rfl hOa _ [(z, 0)] rfl hLa (by have := HAL.out; simp; omega) (by simp; omega) ?_; intro ao7 cap7 w7 hown7 hg7 hat7; obtain ⟨R7, S7⟩ := after_append2 hOa (Nat.le_succ _) (by simp; omega) HR5.out HS5.out hg7; have HO7 := hid_into hown7; have hz7 := hg7.size; clear hown7 hg7 hat7))
            go_roundw
            case rel => exact ⟨k + 1, acc ++ [(z, 0)], ao7, cap7, [], 3, by omega, by go_num, by simp, hid_into (by have := HAL0.out; simp; omega), hid_into (by simpa using HO7.out), R7, HTI2, S7, by simp at hz7; omega⟩
            case measure => simp [intOf]; omega
          · go_wp2_with (first
              | (go_at_call 41; refine CB.mono ?_; rintro e w3 ⟨rfl, h3, s3⟩; have hA3 : Below w3.heap.size w3 (w3.alloc (.cells #[.int .i64 z, .int .i64 0] 60)) := ((Below.refl _ _).alloc (Nat.le_refl _) _); have hs3 := s3.size; have HR4 := hid_into (h3.step hA3 (by omega)); have c4 := HR4.out.cell; have HS4 := hid_into ((HS.out.trans (s3.below (Nat.le_refl _) (by omega))).trans (hA3.mono (by omega))); have hL3 := HLo.out.keep (w' := w3) (fun k hk hlt => s3.block k hlt (by have := (HLo.out.lt k hk).1; omega)); have HL4 := hid_into (hL3.below hA3); have HX4 : Hid (Cw (w3.alloc (.cells #[.int .i64 z, .int .i64 0] 60)) w3.heap.size [.int .i64 z, .int .i64 0] 60) := Cw.new w3 _ _; clear hL3 h3)
              | (go_at_call 40; refine (fq_bad HR4.out).mono ?_; rintro e w5 ⟨rfl, h5, s5⟩; have hX5 := HX4.out.keep (s5.block w3.heap.size HX4.out.lt (by omega)); have c50 := hX5.cell 0; have c51 := hX5.cell 1; simp only [List.getElem?_cons_succ, List.getElem?_cons_zero] at c50 c51; have hz5 : w3.heap.size + 1 ≤ w5.heap.size := (by have := s5.size; rw [World.size_alloc] at this; exact this); have hA5 : Below w5.heap.size w5 (w5.alloc (.cells #[.int .i64 z, .int .i64 0] 60)) := ((Below.refl _ _).alloc (Nat.le_refl _) _); have hL5 := HL4.out.keep (w' := w5) (fun k hk hlt => s5.block k hlt (by have := (HL4.out.lt k hk).1; omega)); have hOa := hL5.below hA5; have HR5 := hid_into (h5.step hA5 (by omega)); have HS5 := hid_into ((HS4.out.trans (s5.below (Nat.le_refl _) (by simp; omega))).trans (hA5.mono (by omega))); have hLa : Ls (w5.alloc (.cells #[.int .i64 z, .int .i64 0] 60)) (.slice (some ⟨w5.heap.size, 0, none⟩) 1 1) [(z, 0)] := (Ls_of_block (l := [(z, 0)]) (heap_alloc_new w5 _) (by unfold maxLen; simp)); clear hL5 h5 hX5)
              | (go_at_call 31; refine (CH _).mono ?_; rintro e w4 ⟨rfl, rfl⟩)
              | (at_builtin; refine wpList_append_ls _ rfl (.tmp 62) (.tmp 64) rfl (w.heap.size + 1) _ acc rfl hOa _ [(z, 0)] rfl hLa (by have := HAL.out; simp; omega) (by simp; omega) ?_; intro ao7 cap7 w7 hown7 hg7 hat7; obtain ⟨R7, S7⟩ := after_append2 hOa (Nat.le_succ _) (by simp; omega) HR5.out HS5.out hg7; have HO7 := hid_into hown7; have hz7 := hg7.size; clear hown7 hg7 hat7))
            go_roundw
            case rel => exact ⟨k + 1, acc ++ [(z, 0)], ao7, cap7, [], 3, by omega, by go_num, by simp, hid_into (by have := HAL0.out; simp; omega), hid_into (by simpa using HO7.out), R7, HTI2, S7, by simp at hz7; omega⟩
            case measure => simp [intOf]; omega
        | true =>
          obtain ⟨o1, o2⟩ := opI_iff.1 ho
          have n1 : ¬ z < 1 := by omega
          have n2 : ¬ 22 < z := by omega
          cases hs : hasA z with
          | false =>
            have HTI2 := hid_into (HTI.out.plain hlt ho hs)
            have CH : ∀ W, Calls Tryd.prog 31 #[.int .i64 z] W fun e w' => e = .returned (.bool false) ∧ w' = W := fun W => by have := rhas_any z W; rwa [hs] at this
            clear HTI ho hs
            go_wp2_with (first
              | (go_at_call 41; refine CB.mono ?_; rintro e w3 ⟨rfl, h3, s3⟩; have hA3 : Below w3.heap.size w3 (w3.alloc (.cells #[.int .i64 z, .int .i64 0] 60)) := ((Below.refl _ _).alloc (Nat.le_refl _) _); have hs3 := s3.size; have HR4 := hid_into (h3.step hA3 (by omega)); have c4 := HR4.out.cell; have HS4 := hid_into ((HS.out.trans (s3.below (Nat.le_refl _) (by omega))).trans (hA3.mono (by omega))); have hL3 := HLo.out.keep (w' := w3) (fun k hk hlt => s3.block k hlt (by have := (HLo.out.lt k hk).1; omega)); have HL4 := hid_into (hL3.below hA3); have HX4 : Hid (Cw (w3.alloc (.cells #[.int .i64 z, .int .i64 0] 60)) w3.heap.size [.int .i64 z, .int .i64 0] 60) := Cw.new w3 _ _; have hA5 : Below (w3.alloc (.cells #[.int .i64 z, .int .i64 0] 60)).heap.size (w3.alloc (.cells #[.int .i64 z, .int .i64 0] 60)) ((w3.alloc (.cells #[.int .i64 z, .int .i64 0] 60)).alloc (.cells #[.int .i64 z, .int .i64 0] 60)) := ((Below.refl _ _).alloc (Nat.le_refl _) _); have hOa := HL4.out.below hA5; have HR5 := hid_into (HR4.out.step hA5 (by simp; omega)); have HS5 := hid_into (HS4.out.trans (hA5.mono HS4.out.size)); have hLa : Ls ((w3.alloc (.cells #[.int .i64 z, .int .i64 0] 60)).alloc (.cells #[.int .i64 z, .int .i64 0] 60)) (.slice (some ⟨w3.heap.size + 1, 0, none⟩) 1 1) [(z, 0)] := (by have e1 := heap_alloc_new (w3.alloc (.cells #[.int .i64 z, .int .i64 0] 60)) (.cells (cells2 [(z, 0)]).toArray 60); rw [World.size_alloc] at e1; exact Ls_of_block (l := [(z, 0)]) e1 (by unfold maxLen; simp)); clear hL3 h3)
              | (go_at_call 31; refine (CH _).mono ?_; rintro e w4 ⟨rfl, rfl⟩)
              | (at_builtin; refine wpList_append_ls _ rfl (.tmp 62) (.tmp 64) rfl (w.heap.size + 1) _ acc rfl hOa _ [(z, 0)] rfl hLa (by have := HAL.out; simp; omega) (by simp; omega) ?_; intro ao7 cap7 w7 hown7 hg7 hat7; obtain ⟨R7, S7⟩ := after_append2 hOa (Nat.le_succ _) (by simp; omega) HR5.out HS5.out hg7; have HO7 := hid_into hown7; have hz7 := hg7.size; clear hown7 hg7 hat7))
            go_roundw
            case rel => exact ⟨k + 1, acc ++ [(z, 0)], ao7, cap7, ys, 0, by omega, by go_num, by simp, hid_into (by have := HAL0.out; simp; omega), hid_into (by simpa using HO7.out), R7, HTI2, S7, by simp at hz7; omega⟩
            case measure => simp [intOf]; omega
          | true =>
            have HTI2 := hid_into (HTI.out.num hlt ho hs)
            have hyb : Byt ys := fun y hy => HTI.out.byt y (by simp [hy])
            have CH : ∀ W, Calls Tryd.prog 31 #[.int .i64 z] W fun e w' => e = .returned (.bool true) ∧ w' = W := fun W => by have := rhas_any z W; rwa [hs] at this
            have CN : ∀ W, Fq (w.heap.size + 1) W w.heap.size ys 0 → Calls Tryd.prog 39 #[.pointer (some ⟨w.heap.size, 0, none⟩)] W fun r w' => r = .returned (.int .i64 (numR 10 0 0 ys).1) ∧ Fq (w.heap.size + 1) w' w.heap.size (numR 10 0 0 ys).2.1 (numR 10 0 0 ys).2.2 ∧ Rstep w.heap.size W w' := fun W hW => fq_num hW hyb
            generalize (numR 10 0 0 ys).1 = av at *
            generalize (numR 10 0 0 ys).2.1 = ar at *
            generalize (numR 10 0 0 ys).2.2 = ae at *
            clear HTI ho hs hyb
            go_wp2_with (first
              | (go_at_call 41; refine CB.mono ?_; rintro e w3 ⟨rfl, h3, s3⟩; have hA3 : Below w3.heap.size w3 (w3.alloc (.cells #[.int .i64 z, .int .i64 0] 60)) := ((Below.refl _ _).alloc (Nat.le_refl _) _); have hs3 := s3.size; have HR4 := hid_into (h3.step hA3 (by omega)); have c4 := HR4.out.cell; have HS4 := hid_into ((HS.out.trans (s3.below (Nat.le_refl _) (by omega))).trans (hA3.mono (by omega))); have hL3 := HLo.out.keep (w' := w3) (fun k hk hlt => s3.block k hlt (by have := (HLo.out.lt k hk).1; omega)); have HL4 := hid_into (hL3.below hA3); have HX4 : Hid (Cw (w3.alloc (.cells #[.int .i64 z, .int .i64 0] 60)) w3.heap.size [.int .i64 z, .int .i64 0] 60) := Cw.new w3 _ _; clear hL3 h3)
              | (go_at_call 39; refine (CN _ HR4.out).mono ?_; rintro e w5 ⟨rfl, h5, s5⟩; have hX5 := HX4.out.keep (s5.block w3.heap.size HX4.out.lt (by omega)); have c50 := hX5.cell 0; have c51 := hX5.cell 1; have f51 := hX5.frozen 1; simp only [List.getElem?_cons_succ, List.getElem?_cons_zero] at c50 c51; have hz5 : w3.heap.size + 1 ≤ w5.heap.size := (by have := s5.size; rw [World.size_alloc] at this; exact this); have hsc : ∀ k, k < wr.heap.size → ((w5.setCell ⟨w3.heap.size, 1, none⟩ (.int .i64 av)).alloc (.cells #[.int .i64 z, .int .i64 av] 60)).heap[k]? = w5.heap[k]? := (fun k hk => (Below.heap_alloc _ _ _ (by simp [World.setCell]; omega)).trans (Below.heap_setCell _ _ _ _ (by show k ≠ w3.heap.size; omega))); have hL5 := HL4.out.keep (w' := w5) (fun k hk hlt => s5.block k hlt (by have := (HL4.out.lt k hk).1; omega)); have hOa := hL5.keep (w' := (w5.setCell ⟨w3.heap.size, 1, none⟩ (.int .i64 av)).alloc (.cells #[.int .i64 z, .int .i64 av] 60)) (fun k hk _ => hsc k (HLo.out.lt k hk).2); have HR5 := hid_into (h5.keep (w' := (w5.setCell ⟨w3.heap.size, 1, none⟩ (.int .i64 av)).alloc (.cells #[.int .i64 z, .int .i64 av] 60)) (fun k hk => hsc k (by omega))); have hS5 := HS4.out.trans (s5.below (Nat.le_refl _) (by simp; omega)); have HS5 : Hid (Below w.heap.size w ((w5.setCell ⟨w3.heap.size, 1, none⟩ (.int .i64 av)).alloc (.cells #[.int .i64 z, .int .i64 av] 60))) := (hid_into ⟨hS5.os, hS5.tape, hS5.output, by have := hS5.size; simp [World.setCell]; omega, fun k h1 => (hsc k (by omega)).trans (hS5.block k h1)⟩); have hLa : Ls ((w5.setCell ⟨w3.heap.size, 1, none⟩ (.int .i64 av)).alloc (.cells #[.int .i64 z, .int .i64 av] 60)) (.slice (some ⟨w5.heap.size, 0, none⟩) 1 1) [(z, av)] := (by have e1 := heap_alloc_new (w5.setCell ⟨w3.heap.size, 1, none⟩ (.int .i64 av)) (.cells (cells2 [(z, av)]).toArray 60); rw [show (w5.setCell ⟨w3.heap.size, 1, none⟩ (.int .i64 av)).heap.size = w5.heap.size by simp [World.setCell]] at e1; exact Ls_of_block (l := [(z, av)]) e1 (by unfold maxLen; simp)); clear hL5 h5 hX5 hsc hS5)
              | (go_at_call 31; refine (CH _).mono ?_; rintro e w4 ⟨rfl, rfl⟩)
              | (at_builtin; refine wpList_append_ls _ rfl (.tmp 62) (.tmp 64) rfl (w.heap.size + 1) _ acc rfl hOa _ [(z, av)] rfl hLa (by have := HAL.out; simp; omega) (by simp [World.setCell]; omega) ?_; intro ao7 cap7 w7 hown7 hg7 hat7; obtain ⟨R7, S7⟩ := after_append2 hOa (Nat.le_succ _) (by simp [World.setCell]; omega) HR5.out HS5.out hg7; have HO7 := hid_into hown7; have hz7 := hg7.size; clear hown7 hg7 hat7))
            go_roundw
            case rel => exact ⟨k + 1, acc ++ [(z, av)], ao7, cap7, ar, ae, by omega, by go_num, by simp, hid_into (by have := HAL0.out; simp; omega), hid_into (by simpa using HO7.out), R7, HTI2, S7, by simp [World.setCell] at hz7; omega⟩
            case measure => simp [intOf]; omega
    · have HX := hid_into (HTI.out.exit (by
        by_cases h1 : k < n
        · exact Or.inr fun h2 => hgo ⟨h1, h2⟩
        · exact Or.inl (by omega)))
      have C2 := rq_end_f HR.out
      generalize endR ys e = x at HX C2
      by_cases h1 : k < n
      · have he : e ≠ 0 := fun h2 => hgo ⟨h1, h2⟩
        have hbe : (e == 0) = false := by simp [he]
        clear he
        cases T with
        | error y =>
          have hx : x = y := HX.out
          subst hx
          have hx0 : x ≠ 0 := fun e => HTN.out (by rw [e])
          have hb1 : (x == 0) = false := by simp [hx0]
          have hb2 : (x != 0) = true := by simp [hx0]
          have HD2 : Hid (D = ([], x)) := hid_into HD.out
          clear HD HTN HX hx0 HLN
          go_wp2_with (go_at_call 42; refine C2.mono ?_; rintro e w2 ⟨rfl, rfl⟩)
          go_ret2
          rw [HD2.out]
          exact ⟨_, rfl, (Lo.nil _ 0).ls, HS.out⟩
        | ok l =>
          obtain ⟨rfl, rfl⟩ := HX.out
          have HLs := hid_into HLo.out.ls
          have CK := fun W h' => rcheck_any (.slice ao acc.length cap) acc W h'
          have HD2 : Hid (D = if (chk acc).2 = 0 then (acc, 0) else ([], (chk acc).2)) := hid_into HD.out
          clear HD HTN HX HLN
          by_cases hok : (chk acc).2 = 0
          · have HD3 : Hid (D = (acc, 0)) := by show _ = _; rw [HD2.out, if_pos hok]
            rw [hok] at CK
            clear HD2
            go_wp2_with (first
              | (go_at_call 42; refine C2.mono ?_; rintro e w2 ⟨rfl, rfl⟩)
              | (go_at_call 10; refine (CK _ HLs.out).mono ?_; rintro e w3 ⟨rfl, B3⟩))
            go_ret2
            rw [HD3.out]
            exact ⟨_, rfl, HLs.out.below B3, HS.out.trans (B3.mono HS.out.size)⟩
          · have HD3 : Hid (D = ([], (chk acc).2)) := by show _ = _; rw [HD2.out, if_neg hok]
            generalize chk acc = c at *
            have hc : (c.2 != 0) = true := by simp [hok]
            clear HD2 hok
            go_wp2_with (first
              | (go_at_call 42; refine C2.mono ?_; rintro e w2 ⟨rfl, rfl⟩)
              | (go_at_call 10; refine (CK _ HLs.out).mono ?_; rintro e w3 ⟨rfl, B3⟩))
            go_ret2
            rw [HD3.out]
            exact ⟨_, rfl, (Lo.nil _ 0).ls, HS.out.trans (B3.mono HS.out.size)⟩
      · obtain rfl : k = n := by omega
        clear hgo
        cases T with
        | error y =>
          have hx : x = y := HX.out
          subst hx
          have hx0 : x ≠ 0 := fun e => HTN.out (by rw [e])
          have hb1 : (x == 0) = false := by simp [hx0]
          have hb2 : (x != 0) = true := by simp [hx0]
          have HD2 : Hid (D = ([], x)) := hid_into HD.out
          clear HD HTN HX hx0 HLN
          go_wp2_with (go_at_call 42; refine C2.mono ?_; rintro e w2 ⟨rfl, rfl⟩)
          go_ret2
          rw [HD2.out]
          exact ⟨_, rfl, (Lo.nil _ 0).ls, HS.out⟩
        | ok l =>
          obtain ⟨rfl, rfl⟩ := HX.out
          have HLs := hid_into HLo.out.ls
          have CK := fun W h' => rcheck_any (.slice ao acc.length cap) acc W h'
          have HD2 : Hid (D = if (chk acc).2 = 0 then (acc, 0) else ([], (chk acc).2)) := hid_into HD.out
          clear HD HTN HX HLN
          by_cases hok : (chk acc).2 = 0
          · have HD3 : Hid (D = (acc, 0)) := by show _ = _; rw [HD2.out, if_pos hok]
            rw [hok] at CK
            clear HD2
            go_wp2_with (first
              | (go_at_call 42; refine C2.mono ?_; rintro e w2 ⟨rfl, rfl⟩)
              | (go_at_call 10; refine (CK _ HLs.out).mono ?_; rintro e w3 ⟨rfl, B3⟩))
            go_ret2
            rw [HD3.out]
            exact ⟨_, rfl, HLs.out.below B3, HS.out.trans (B3.mono HS.out.size)⟩
          · have HD3 : Hid (D = ([], (chk acc).2)) := by show _ = _; rw [HD2.out, if_neg hok]
            generalize chk acc = c at *
            have hc : (c.2 != 0) = true := by simp [hok]
            clear HD2 hok
            go_wp2_with (first
              | (go_at_call 42; refine C2.mono ?_; rintro e w2 ⟨rfl, rfl⟩)
              | (go_at_call 10; refine (CK _ HLs.out).mono ?_; rintro e w3 ⟨rfl, B3⟩))
            go_ret2
            rw [HD3.out]
            exact ⟨_, rfl, (Lo.nil _ 0).ls, HS.out.trans (B3.mono HS.out.size)⟩
end Go.Proofs.YtddmnpfebajnmaaDoor
