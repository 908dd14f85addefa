/-
  take, walked.
-/
import Derived.Test.YtddmnpfebajnmaaDoorTake
namespace Go.Proofs.YtddmnpfebajnmaaDoor
open Go.RowKit
theorem Rq.step {N : Nat} {w w' : World} {b : Nat} {zs : List Int} {e : Int} (h : Rq N w b zs e) (hb : Below w.heap.size w w') (hN : N ≤ w.heap.size) : Rq N w' b zs e := h.keep fun k hk => hb.block k (by omega)
theorem after_append {w W w7 : World} {b tb : Nat} {v : Value} {acc : List Ii} {ys : List Int} {e : Int} (ho : Lo W w.heap.size v acc) (hT : Tb W tb) (hR : Rq w.heap.size W b ys e) (hS : Rstep b w W) (hg : W.grownBy w7 v.ownBlock) : Tb w7 tb ∧ Rq w.heap.size w7 b ys e ∧ Rstep b w w7 := by
  have hsz := hS.size
  have hk : ∀ k, k < w.heap.size → w7.heap[k]? = W.heap[k]? := fun k hk => hg.block k (by omega) fun e => by have := (ho.lt k e.symm).1; omega
  exact ⟨hT.grown ho hg, hR.keep hk, ⟨hg.os.trans hS.os, hg.tape.trans hS.tape, hg.output.trans hS.output, Nat.le_trans hsz hg.size, fun k h1 h2 => (hk k h1).trans (hS.block k h1 h2)⟩⟩
set_option maxRecDepth 20000 in
set_option maxHeartbeats 8000000 in
theorem take_any (b : Nat) (zs : List Int) (w : World) (h : Rq w.heap.size w b zs 0) (hz : Byt zs) :
    Calls Tryd.prog 37 #[.pointer (some ⟨b, 0, none⟩)] w fun r w' => ∃ sv l e, r = .returned (.tuple #[sv, .int .i64 e]) ∧ Ls w' sv l ∧ TkA (tkR zs) l e ∧ Rstep b w w' := by
  obtain ⟨nv, hnv⟩ : ∃ nv, nv = (numR 10 0 0 zs).1 := ⟨_, rfl⟩
  obtain ⟨nr, hnr⟩ : ∃ nr, nr = (numR 10 0 0 zs).2.1 := ⟨_, rfl⟩
  obtain ⟨ne, hne⟩ : ∃ ne, ne = (numR 10 0 0 zs).2.2 := ⟨_, rfl⟩
  have C1 : Calls Tryd.prog 58 #[.pointer (some ⟨b, 0, none⟩)] w fun r w' => r = .returned (.int .i64 nv) ∧ Rq w.heap.size w' b nr ne ∧ Rstep b w w' := by
    have := rq_num h hz
    simp only [numE, if_true] at this
    rw [hnv, hnr, hne]
    exact this
  have HNB : Hid (Byt nr) := by rw [hnr]; exact (numR_byt 10 0 0 zs hz).1
  have HNE : Hid (ne ≠ 0 → nv = 0 ∧ nr = []) := by rw [hnr, hne, hnv]; exact fun h0 => numR_err 10 0 0 zs h0
  have HN2 : Hid (ne = 0 ∨ ne = 2 ∨ ne = 3) := by rw [hne]; exact decP_back.numR_two 10 0 0 zs
  have HK : Hid (tkR zs = if ne ≠ 0 then .error ne else if nv < 0 ∨ 256 < nv then .error 3 else takeN nv.toNat nr) := by rw [hne, hnv, hnr]; exact hid_into rfl
  have hbl : b < w.heap.size := h.1
  clear h hnv hnr hne hz
  by_cases hneg : nv < 0
  · have HK2 : Hid (tkR zs = .error 3) := by
      show _ = _
      rw [HK.out, if_neg (fun h0 => by have := (HNE.out h0).1; omega), if_pos (Or.inl hneg)]
    go_enter Tryd.func37, Tryd.ntmps37
    go_wp2_with (go_at_call 58; refine C1.mono ?_; rintro e w1 ⟨rfl, h1, s1⟩)
    go_ret2
    exact ⟨_, [], 3, rfl, (Lo.nil _ 0).ls, by rw [HK2.out]; exact rfl, s1⟩
  by_cases hbig : 256 < nv
  · have HK2 : Hid (tkR zs = .error 3) := by
      show _ = _
      rw [HK.out, if_neg (fun h0 => by have := (HNE.out h0).1; omega), if_pos (Or.inr hbig)]
    go_enter Tryd.func37, Tryd.ntmps37
    go_wp2_with (go_at_call 58; refine C1.mono ?_; rintro e w1 ⟨rfl, h1, s1⟩)
    go_ret2
    exact ⟨_, [], 3, rfl, (Lo.nil _ 0).ls, by rw [HK2.out]; exact rfl, s1⟩
  obtain ⟨n, rfl⟩ := Int.eq_ofNat_of_zero_le (show 0 ≤ nv by omega)
  have hn : n ≤ 256 := by omega
  have HTI : Hid (TkI (tkR zs) n 0 [] nr ne) := by
    by_cases h0 : ne = 0
    · have e : tkR zs = takeN n nr := by
        rw [HK.out, if_neg (by simp [h0]), if_neg (by omega)]
        rfl
      rw [h0, e]
      exact TkI.start n nr HNB.out
    · refine ⟨fun e => absurd e h0, fun _ => ⟨(HNE.out h0).2, ?_, ?_⟩, HNB.out⟩
      · rw [HK.out, if_pos h0]
      · rcases HN2.out with h1 | h1
        · exact absurd h1 h0
        · exact h1
  generalize tkR zs = T at *
  clear HNB HNE HN2 HK hneg hbig
  obtain ⟨cs, hcs⟩ : ∃ cs, cs = opsR := ⟨_, rfl⟩
  obtain ⟨os, hos⟩ : ∃ os, os = zeroT := ⟨_, rfl⟩
  have HI : Hid ((Tryd.prog.info? 57).map (·.size) = some os.length) := by rw [hos]; exact Tryd.size57
  have HLn : Hid (os.length = cs.length) := by rw [hos, hcs]; exact hid_into rfl
  have HC : Hid (∀ v ∈ cs, v.oneCell' = true) := by rw [hcs]; exact hid_into (by decide)
  have HOz : Hid ((Tryd.prog.info? 57).bind (·.zero) = some (.agg os.toArray)) := by rw [hos]; exact Tryd.zero57
  have HOP : ∀ W, Calls Tryd.prog 24 #[] W fun e w' => e = .returned (.agg cs.toArray) ∧ Below W.heap.size W w' := by rw [hcs]; exact ops_any
  have HE : Hid (cs = opsR) := hid_into hcs
  clear hcs hos
  go_enter Tryd.func37, Tryd.ntmps37
  go_wp2_with (first
    | (go_at_call 58; refine C1.mono ?_; rintro e w0 ⟨rfl, h0, s0⟩)
    | (go_at_call 24; refine (HOP _).mono ?_; rintro e w1 ⟨rfl, B1⟩)
    | (refine wpList_alloc_row rfl 57 rfl os HOz.out ?_; intro W1 hc1 B2 HS1)
    | (refine wpList_store_rw rfl 57 (.tmp 6) (.tmp 16) rfl w1.heap.size os cs 57 rfl rfl hc1 HI HLn HC.out ?_; intro W2 hc2 O2))
  have hs0 := s0.size
  have hs1 := B1.size
  have hs2 := B2.size
  have HT : Hid (Tb W2 w1.heap.size) := by
    have e := HE.out
    subst e
    exact hc2
  have hB12 : Below w0.heap.size w0 W2 := B1.trans ((B2.mono (by omega)).trans (O2.below (by omega)))
  have HR : Hid (Rq w.heap.size W2 b nr ne) := h0.keep fun k hk => hB12.block k (by omega)
  have HS : Hid (Rstep b w W2) := s0.trans (Rstep.of_below hB12 (Nat.le_refl _))
  have htb : w.heap.size ≤ w1.heap.size := by omega
  clear HE hc1 hc2 O2 B2 HS1 HOz HI HLn HC HOP B1 hs0 hs1 hs2 C1 h0 s0 hB12
  generalize w1.heap.size = tb at *
  go_loopw [5, 18] (fun s i wr => ∃ (k : Nat) (acc : List Ii) (ao : Option Addr) (cap : Nat) (ys : List Int) (e : Int), k ≤ n ∧ i = .int .i64 (k : Int) ∧ s = .slice ao acc.length cap ∧ Hid (acc.length = k) ∧ Hid (Lo wr w.heap.size (.slice ao acc.length cap) acc) ∧ Hid (Tb wr tb) ∧ Hid (Rq w.heap.size wr b ys e) ∧ Hid (TkI T n k acc ys e) ∧ Hid (Rstep b w wr)) (fun _ i _ => n - (intOf i).toNat)
  case atStart => exact ⟨0, [], none, 0, nr, ne, Nat.zero_le _, rfl, rfl, hid_into rfl, hid_into (Lo.nil _ _), HT, HR, HTI, HS⟩
  case round =>
    clear HT HR HTI HS
    obtain ⟨k, acc, ao, cap, ys, e, hk, rfl, rfl, HAL0, HLo, HT, HR, HTI, HS⟩ := hrel
    have hws := HS.out.size
    by_cases hlt : k < n
    · have hbl2 : b ≠ wr.heap.size := by omega
      by_cases he : e = 0
      · subst he
        rcases ys with _ | ⟨z, ys⟩
        · have HT2 := hid_into (HTI.out.short hlt)
          have CB : Calls Tryd.prog 59 #[.pointer (some ⟨b, 0, none⟩)] wr fun r w' => r = .returned (.int .u8 0) ∧ Rq w.heap.size w' b [] 2 ∧ Rstep b wr w' := rq_byte HR.out
          have CH : ∀ p W, Calls Tryd.prog 25 #[p, .int .i64 0] W fun e w' => e = .returned (.bool false) ∧ w' = W := fun p W => has_any p 0 W
          clear HTI
          go_wp2_with (first
            | (go_at_call 59; refine CB.mono ?_; rintro e w3 ⟨rfl, h3, s3⟩; have HR3 := hid_into (h3.step (((Below.refl _ _).alloc (Nat.le_refl _) (.cells #[.int .i64 0, .int .i64 0] 60))) (by have := s3.size; omega)); have HS3 := hid_into ((HS.out.trans s3).trans (Rstep.of_below (((Below.refl _ _).alloc (Nat.le_refl _) (.cells #[.int .i64 0, .int .i64 0] 60))) (Nat.le_refl _))))
            | (go_at_call 25; refine (CH _ _).mono ?_; rintro e w4 ⟨rfl, rfl⟩)
            | (go_at_call 60; refine (rq_why HR3.out).mono ?_; rintro e w5 ⟨rfl, rfl⟩))
          go_ret2
          exact ⟨_, [], 2, rfl, (Lo.nil _ 0).ls, by rw [HT2.out]; exact rfl, HS3.out⟩
        · obtain ⟨z0, z1⟩ := HTI.out.byt z (by simp)
          have CB : Calls Tryd.prog 59 #[.pointer (some ⟨b, 0, none⟩)] wr fun r w' => r = .returned (.int .u8 z) ∧ Rq w.heap.size w' b ys 0 ∧ Rstep b wr w' := rq_byte HR.out
          have hw8 : IntKind.i64.wrap z = z := by rw [IntKind.wrap_i64]; omega
          cases ho : opI z with
          | false =>
            have HT2 := hid_into (HTI.out.none_ hlt ho)
            have CH : ∀ p W, Calls Tryd.prog 25 #[p, .int .i64 z] W fun e w' => e = .returned (.bool false) ∧ w' = W := fun p W => by have := has_any p z W; rwa [ho] at this
            have HW : Hid (whyI ys 0 = 3) := by
              show _ = _
              unfold whyI endR
              by_cases hy : ys = [] <;> simp [hy]
            clear HTI ho
            go_wp2_with (first
              | (go_at_call 59; refine CB.mono ?_; rintro e w3 ⟨rfl, h3, s3⟩; have HR3 := hid_into (h3.step (((Below.refl _ _).alloc (Nat.le_refl _) (.cells #[.int .i64 z, .int .i64 0] 60))) (by have := s3.size; omega)); have HS3 := hid_into ((HS.out.trans s3).trans (Rstep.of_below (((Below.refl _ _).alloc (Nat.le_refl _) (.cells #[.int .i64 z, .int .i64 0] 60))) (Nat.le_refl _))))
              | (go_at_call 25; refine (CH _ _).mono ?_; rintro e w4 ⟨rfl, rfl⟩)
              | (go_at_call 60; refine (rq_why HR3.out).mono ?_; rw [HW.out]; rintro e w5 ⟨rfl, rfl⟩))
            go_ret2
            exact ⟨_, [], _, rfl, (Lo.nil _ 0).ls, by rw [HT2.out]; exact rfl, HS3.out⟩
          | true =>
            obtain ⟨o1, o2⟩ := opI_iff.1 ho
            obtain ⟨m, rfl⟩ := Int.eq_ofNat_of_zero_le z0
            have CH : ∀ p W, Calls Tryd.prog 25 #[p, .int .i64 (m : Int)] W fun e w' => e = .returned (.bool true) ∧ w' = W := fun p W => by have := has_any p (m : Int) W; rwa [ho] at this
            have HH := fun (W : World) (hT' : Tb W tb) => (hT'.at m (by omega) (by omega)).2.1
            have e22 : (m : Int) < 23 := by omega
            have HAL : Hid (acc.length ≤ 256) := by have := HAL0.out; show _ ≤ _; omega
            cases hs : hasA (m : Int) with
            | false =>
              have HTI2 := hid_into (HTI.out.plain hlt ho hs)
              rw [hs] at HH
              clear HTI ho hs
              go_wp2_with (first
                | (go_at_call 59; refine CB.mono ?_; rintro e w3 ⟨rfl, h3, s3⟩; have hA3 : Below w3.heap.size w3 (w3.alloc (.cells #[.int .i64 (m : Int), .int .i64 0] 60)) := ((Below.refl _ _).alloc (Nat.le_refl _) _); have hs3 := s3.size; have hT3 : Tb w3 tb := Cw.keep HT.out (s3.block tb (Cw.lt HT.out) (by omega)); have HT4 := hid_into (hT3.below hA3); have d4 := HH _ HT4.out; have HR4 := hid_into (h3.step hA3 (by omega)); have HS4 := hid_into ((HS.out.trans s3).trans (Rstep.of_below hA3 (Nat.le_refl _))); have hL3 := HLo.out.keep (w' := w3) (fun k hk hlt => s3.block k hlt (by have := (HLo.out.lt k hk).1; omega)); have HL4 := hid_into (hL3.below hA3); have hA5 : Below (w3.alloc (.cells #[.int .i64 (m : Int), .int .i64 0] 60)).heap.size (w3.alloc (.cells #[.int .i64 (m : Int), .int .i64 0] 60)) ((w3.alloc (.cells #[.int .i64 (m : Int), .int .i64 0] 60)).alloc (.cells #[.int .i64 (m : Int), .int .i64 0] 60)) := ((Below.refl _ _).alloc (Nat.le_refl _) _); have hOa := HL4.out.below hA5; have HT5 := hid_into (HT4.out.below hA5); have HR5 := hid_into (HR4.out.step hA5 (by simp; omega)); have HS5 := hid_into (HS4.out.trans (Rstep.of_below hA5 (Nat.le_refl _))); have hLa : Ls ((w3.alloc (.cells #[.int .i64 (m : Int), .int .i64 0] 60)).alloc (.cells #[.int .i64 (m : Int), .int .i64 0] 60)) (.slice (some ⟨w3.heap.size + 1, 0, none⟩) 1 1) [((m : Int), 0)] := (by have e1 := heap_alloc_new (w3.alloc (.cells #[.int .i64 (m : Int), .int .i64 0] 60)) (.cells (cells2 [((m : Int), 0)]).toArray 60); rw [World.size_alloc] at e1; exact Ls_of_block (l := [((m : Int), 0)]) e1 (by unfold maxLen; simp)); clear hT3 hL3 h3)
                | (go_at_call 25; refine (CH _ _).mono ?_; rintro e w4 ⟨rfl, rfl⟩)
                | (at_builtin; refine wpList_append_ls _ rfl (.tmp 38) (.tmp 40) rfl w.heap.size _ acc rfl hOa _ [((m : Int), 0)] rfl hLa (by have := HAL.out; simp; omega) (by simp; omega) ?_; intro ao7 cap7 w7 hown7 hg7 hat7; obtain ⟨T7, R7, S7⟩ := after_append hOa HT5.out HR5.out HS5.out hg7; have HO7 := hid_into hown7; clear hown7 hg7 hat7))
              go_roundw
              case rel => exact ⟨k + 1, acc ++ [((m : Int), 0)], ao7, cap7, ys, 0, by omega, by go_num, by simp, hid_into (by have := HAL0.out; simp; omega), hid_into (by simpa using HO7.out), T7, R7, HTI2, S7⟩
              case measure => simp [intOf]; omega
            | true =>
              have HTI2 := hid_into (HTI.out.num hlt ho hs)
              have hyb : Byt ys := fun y hy => HTI.out.byt y (by simp [hy])
              have CN : ∀ W, Rq w.heap.size W b ys 0 → Calls Tryd.prog 58 #[.pointer (some ⟨b, 0, none⟩)] W fun r w' => r = .returned (.int .i64 (numR 10 0 0 ys).1) ∧ Rq w.heap.size w' b (numR 10 0 0 ys).2.1 (numR 10 0 0 ys).2.2 ∧ Rstep b W w' := fun W hW => by
                have := rq_num hW hyb
                simpa only [numE, if_true] using this
              generalize (numR 10 0 0 ys).1 = av at *
              generalize (numR 10 0 0 ys).2.1 = ar at *
              generalize (numR 10 0 0 ys).2.2 = ae at *
              rw [hs] at HH
              clear HTI ho hs hyb
              go_wp2_with (first
                | (go_at_call 59; refine CB.mono ?_; rintro e w3 ⟨rfl, h3, s3⟩; have hA3 : Below w3.heap.size w3 (w3.alloc (.cells #[.int .i64 (m : Int), .int .i64 0] 60)) := ((Below.refl _ _).alloc (Nat.le_refl _) _); have hs3 := s3.size; have hT3 : Tb w3 tb := Cw.keep HT.out (s3.block tb (Cw.lt HT.out) (by omega)); have HT4 := hid_into (hT3.below hA3); have d4 := HH _ HT4.out; have HR4 := hid_into (h3.step hA3 (by omega)); have HS4 := hid_into ((HS.out.trans s3).trans (Rstep.of_below hA3 (Nat.le_refl _))); have hL3 := HLo.out.keep (w' := w3) (fun k hk hlt => s3.block k hlt (by have := (HLo.out.lt k hk).1; omega)); have HL4 := hid_into (hL3.below hA3); have HX4 : Hid (Cw (w3.alloc (.cells #[.int .i64 (m : Int), .int .i64 0] 60)) w3.heap.size [.int .i64 (m : Int), .int .i64 0] 60) := Cw.new w3 _ _; clear hT3 hL3 h3)
                | (go_at_call 25; refine (CH _ _).mono ?_; rintro e w4 ⟨rfl, rfl⟩)
                | (go_at_call 58; refine (CN _ HR4.out).mono ?_; rintro e w5 ⟨rfl, h5, s5⟩; have hX5 := HX4.out.keep (s5.block w3.heap.size HX4.out.lt (by omega)); have c50 := hX5.cell 0; have c51 := hX5.cell 1; have f51 := hX5.frozen 1; simp only [List.getElem?_cons_succ, List.getElem?_cons_zero] at c50 c51; have HX5 := hid_into hX5; have HT5 : Hid (Tb w5 tb) := Cw.keep HT4.out (s5.block tb (Cw.lt HT4.out) (by omega)); have HR5 := hid_into h5; have HS5 := hid_into (HS4.out.trans s5); have HL5 := hid_into (HL4.out.keep (w' := w5) (fun k hk hlt => s5.block k hlt (by have := (HL4.out.lt k hk).1; omega))); have hz5 : w3.heap.size + 1 ≤ w5.heap.size := (by have := s5.size; rw [World.size_alloc] at this; exact this); have hsc : ∀ k, k < wr.heap.size → ((w5.setCell ⟨w3.heap.size, 1, none⟩ (.int .i64 av)).alloc (.cells #[.int .i64 (m : Int), .int .i64 av] 60)).heap[k]? = w5.heap[k]? := (fun k hk => (Below.heap_alloc _ _ _ (by simp [World.setCell]; omega)).trans (Below.heap_setCell _ _ _ _ (by show k ≠ w3.heap.size; omega))); have hOa := HL5.out.keep (w' := (w5.setCell ⟨w3.heap.size, 1, none⟩ (.int .i64 av)).alloc (.cells #[.int .i64 (m : Int), .int .i64 av] 60)) (fun k hk _ => hsc k (HLo.out.lt k hk).2); have HT7 : Hid (Tb ((w5.setCell ⟨w3.heap.size, 1, none⟩ (.int .i64 av)).alloc (.cells #[.int .i64 (m : Int), .int .i64 av] 60)) tb) := HT5.out.keep (hsc tb (Cw.lt HT.out)); have HR7 := hid_into (HR5.out.keep (w' := (w5.setCell ⟨w3.heap.size, 1, none⟩ (.int .i64 av)).alloc (.cells #[.int .i64 (m : Int), .int .i64 av] 60)) (fun k hk => hsc k (by omega))); have HS7 : Hid (Rstep b w ((w5.setCell ⟨w3.heap.size, 1, none⟩ (.int .i64 av)).alloc (.cells #[.int .i64 (m : Int), .int .i64 av] 60))) := (hid_into ⟨HS5.out.os, HS5.out.tape, HS5.out.output, by have := HS5.out.size; simp [World.setCell]; omega, fun k h1 h2 => (hsc k (by omega)).trans (HS5.out.block k h1 h2)⟩); have hLa : Ls ((w5.setCell ⟨w3.heap.size, 1, none⟩ (.int .i64 av)).alloc (.cells #[.int .i64 (m : Int), .int .i64 av] 60)) (.slice (some ⟨w5.heap.size, 0, none⟩) 1 1) [((m : Int), av)] := (by have e1 := heap_alloc_new (w5.setCell ⟨w3.heap.size, 1, none⟩ (.int .i64 av)) (.cells (cells2 [((m : Int), av)]).toArray 60); rw [show (w5.setCell ⟨w3.heap.size, 1, none⟩ (.int .i64 av)).heap.size = w5.heap.size by simp [World.setCell]] at e1; exact Ls_of_block (l := [((m : Int), av)]) e1 (by unfold maxLen; simp)); clear h5 s5 hX5 hsc)
                | (at_builtin; refine wpList_append_ls _ rfl (.tmp 38) (.tmp 40) rfl w.heap.size _ acc rfl hOa _ [((m : Int), av)] rfl hLa (by have := HAL.out; simp; omega) (by have := HS5.out.size; simp [World.setCell]; omega) ?_; intro ao7 cap7 w7 hown7 hg7 hat7; obtain ⟨T7, R7, S7⟩ := after_append hOa HT7.out HR7.out HS7.out hg7; have HO7 := hid_into hown7; clear hown7 hg7 hat7))
              go_roundw
              case rel => exact ⟨k + 1, acc ++ [((m : Int), av)], ao7, cap7, ar, ae, by omega, by go_num, by simp, hid_into (by have := HAL0.out; simp; omega), hid_into (by simpa using HO7.out), T7, R7, HTI2, S7⟩
              case measure => simp [intOf]; omega
      · obtain ⟨rfl, hT2, h23⟩ := HTI.out.bad he
        have HT2 := hid_into hT2
        have CB : Calls Tryd.prog 59 #[.pointer (some ⟨b, 0, none⟩)] wr fun r w' => r = .returned (.int .u8 0) ∧ Rq w.heap.size w' b [] e ∧ Rstep b wr w' := by
          have := rq_byte HR.out
          rw [show rowR [0] [] e = ([0], [], e) by simp [rowR, he]] at this
          exact this
        have CH : ∀ p W, Calls Tryd.prog 25 #[p, .int .i64 0] W fun e w' => e = .returned (.bool false) ∧ w' = W := fun p W => has_any p 0 W
        have HW : Hid (whyI [] e = e) := by
          show _ = _
          unfold whyI endR
          rcases h23 with rfl | rfl <;> simp
        clear HTI hT2 h23
        go_wp2_with (first
          | (go_at_call 59; refine CB.mono ?_; rintro e w3 ⟨rfl, h3, s3⟩; have HR3 := hid_into (h3.step (((Below.refl _ _).alloc (Nat.le_refl _) (.cells #[.int .i64 0, .int .i64 0] 60))) (by have := s3.size; omega)); have HS3 := hid_into ((HS.out.trans s3).trans (Rstep.of_below (((Below.refl _ _).alloc (Nat.le_refl _) (.cells #[.int .i64 0, .int .i64 0] 60))) (Nat.le_refl _))))
          | (go_at_call 25; refine (CH _ _).mono ?_; rintro e w4 ⟨rfl, rfl⟩)
          | (go_at_call 60; refine (rq_why HR3.out).mono ?_; rw [HW.out]; rintro e w5 ⟨rfl, rfl⟩))
        go_ret2
        exact ⟨_, [], _, rfl, (Lo.nil _ 0).ls, by rw [HT2.out]; exact rfl, HS3.out⟩
    · obtain rfl : k = n := by omega
      have HL := hid_into HTI.out.last
      have C2 := rq_end HR.out
      generalize endR ys e = x at HL C2
      go_wp2_with (go_at_call 61; refine C2.mono ?_; rintro e w5 ⟨rfl, rfl⟩)
      go_ret2
      exact ⟨_, acc, x, rfl, HLo.out.ls, HL.out, HS.out⟩
end Go.Proofs.YtddmnpfebajnmaaDoor
