/-
  Joined from: RDecW.
-/
import Derived.Test.YtlknolbfhfcflaaGreatM23
import Derived.Test.YtlknolbfhfcflaaGreatM11
section
/-
  The document's Decode, by a contract.
-/
namespace Go.Proofs.YtlknolbfhfcflaaGreat
open Go.RowKit Oc
/-- The variables of the document's Decode: the answer, the Reader, the state. -/
structure Fv (w W : World) (v : Value) (zs : List Int) (e : Int) (cs : List Value) : Prop where
  r : Cw W w.heap.size zeroS 25
  rd : Rf W (w.heap.size + 1) v zs e
  s : Cw W (w.heap.size + 1 + 1) cs 25
  own : ∀ k, v.ownBlock = some k → k < w.heap.size
  below : Below w.heap.size w W
theorem Rf.keep' {w w' : World} {b : Nat} {v : Value} {zs : List Int} {e : Int} (h : Rf w b v zs e) (hb : w'.heap[b]? = w.heap[b]?) (hk : ∀ k, v.ownBlock = some k → k < w.heap.size → w'.heap[k]? = w.heap[k]?) : Rf w' b v zs e := ⟨by rw [hb]; exact h.1, h.2.1.keep hk, h.2.2⟩
section
variable {w W W' : World} {v : Value} {zs zs' : List Int} {e e' : Int} {cs ds : List Value}
theorem Fv.read (h : Fv w W v zs e cs) (hl : Fleft W (w.heap.size + 1) v W' zs' e') : ∃ v', Fv w W' v' zs' e' cs := by
  obtain ⟨v', h1, h2, h3⟩ := hl
  refine ⟨v', h.r.keep (h2.block _ h.r.lt (by omega)), h1, h.s.keep (h2.block _ h.s.lt (by omega)), fun k hk => ?_, ?_⟩
  · rcases h3 with h3 | h3
    · exact h.own k (h3 ▸ hk)
    · rw [h3] at hk; cases hk
  · exact h.below.trans ⟨h2.os, h2.tape, h2.output, h2.size, fun k hk => h2.block k (Nat.lt_of_lt_of_le hk h.below.size) (by omega)⟩
theorem Fv.set (h : Fv w W v zs e cs) (O : Only (w.heap.size + 1 + 1) W W') (hs : Cw W' (w.heap.size + 1 + 1) ds 25) : Fv w W' v zs e ds :=
  ⟨O.cw h.r (by omega), Rf.keep' h.rd (O.block _ (by omega)) (fun k hk _ => O.block k (by have := h.own k hk; omega)), hs, h.own, h.below.trans (O.below (by omega))⟩
theorem Fv.next (h : Fv w W v zs e cs) (hB : Below W.heap.size W W') : Fv w W' v zs e cs := ⟨h.r.below hB h.r.lt, Rf.keep' h.rd (hB.block _ h.rd.lt) (fun k _ hk => hB.block k hk), h.s.below hB h.s.lt, h.own, h.below.trans (hB.mono h.below.size)⟩
end
theorem Fv.make {w W1 W4 : World} {v : Value} {zs : List Int} (hb : Bs w v zs) (hown : ∀ k, v.ownBlock = some k → k < w.heap.size) (hr1 : Cw W1 w.heap.size zeroS 25) (B1 : Below w.heap.size w W1) (s1 : W1.heap.size = w.heap.size + 1) (hs4 : Cw W4 (W1.alloc (.cells #[v, .int .i64 0] 67)).heap.size zeroS 25) (B4 : Below (W1.alloc (.cells #[v, .int .i64 0] 67)).heap.size (W1.alloc (.cells #[v, .int .i64 0] 67)) W4) : Fv w W4 v zs 0 zeroS := by
  have hsz : (W1.alloc (.cells #[v, .int .i64 0] 67)).heap.size = w.heap.size + 1 + 1 := by rw [World.size_alloc, s1]
  have b2 : Below w.heap.size w (W1.alloc (.cells #[v, .int .i64 0] 67)) := B1.alloc (by omega) _
  have hrd : Rf (W1.alloc (.cells #[v, .int .i64 0] 67)) (w.heap.size + 1) v zs 0 := by
    refine ⟨?_, hb.below b2 (Nat.le_refl _), fun e => by have := hown _ e; omega⟩
    rw [← s1]
    exact heap_alloc_new W1 _
  rw [hsz] at hs4
  refine ⟨(hr1.alloc _).below B4 (by omega), Rf.keep' hrd (B4.block _ (by omega)) (fun k _ hk => B4.block k hk), hs4, hown, b2.trans (B4.mono (by omega))⟩
theorem setS_frame' (zs : List Int) : zeroS.set 0 (.int .i64 (dA zs).1) = stV (sK zs 0) := rfl
set_option maxRecDepth 20000 in
set_option maxHeartbeats 4000000 in
theorem rDecode_any (sv : Value) (zs : List Int) (w : World) (hb : Bs w sv zs) (hz : Byt zs) (hown : ∀ k, sv.ownBlock = some k → k < w.heap.size) :
    Calls Tryz.prog 12 #[sv] w fun e w' => e = .returned (.tuple #[.agg (stV (decP zs).1).toArray, .int .i64 (decP zs).2]) ∧ Below w.heap.size w w' := by
  obtain ⟨ao, cp, rfl, hm⟩ := hb.len
  obtain ⟨P, hP⟩ : ∃ P, P = decP zs := ⟨_, rfl⟩
  rw [← hP]
  have HPd := hid_into hP
  clear hP
  have C39 : Hid (∀ v W, Rf W (w.heap.size + 1) v zs 0 → Calls Tryz.prog 30 #[.pointer (some ⟨w.heap.size + 1, 0, none⟩)] W fun r w' => r = .returned (.int .i64 (dA zs).1) ∧ Fleft W (w.heap.size + 1) v w' (dA zs).2.1 (dA zs).2.2) := fun v W h => fnum_any _ v zs W h hz
  have HZ : Hid ((Tryz.prog.info? 25).bind (·.zero) = some (.agg zeroS.toArray)) := Tryz.zero25
  have ZS := zeroS_size
  have HBz : Hid (Tryz.prog.built 25 [] = some zeroS.toArray) := built28z
  have HOz : Hid (∀ v ∈ zeroS, v.oneCell' = true) := hid_into (by decide)
  have HBy := hid_into hz
  have HBs := hid_into hb
  have HOw := hid_into hown
  have z0 : Hid (zeroS[0]? = some (.int .i64 0)) := rfl
  clear hb hm hown hz
  go_enter Tryz.func12, Tryz.ntmps12
  have tok1 : True := trivial
  go_upto_block 0 with (go_big_may; first
    | (have _t := tok1; refine wpList_alloc_row rfl 25 rfl zeroS HZ.out ?_; intro W1 hr1 B1 HS1; clear tok1)
    | (refine wpList_alloc_row rfl 25 rfl zeroS HZ.out ?_; intro W4 hs4 B4 _; have HF4 := hid_into (Fv.make HBs.out HOw.out hr1 B1 HS1.out hs4 B4); have hsz := HS1.out; clear hr1 B1 hs4 B4)
    | (go_at_call 30; refine (C39.out _ _ HF4.out.rd).mono ?_; rintro e w5 ⟨rfl, hl5⟩; obtain ⟨v5, hF5⟩ := HF4.out.read hl5; have f5 := hF5.s.frozen 0; have e5 := (hF5.s.cell 0).trans z0.out; have HF5 := hid_into hF5; clear hl5 hF5))
  go_wp2_with fail
  have h6 := HF5.out.set (Only.set _ _ _ _) (HF5.out.s.set 0 (.int .i64 (dA zs).1))
  rw [setS_frame' zs] at h6
  have HF6 := hid_into h6
  clear h6 HF5 e5 f5 z0 HBs HOw
  have HW4 : Hid (∀ k, k ≤ 16 → (sK zs k).Wf) := fun k hk => ⟨cellsK_len zs hk, fun x hx => by
      rcases List.mem_append.1 hx with h | h
      · exact fk_in _ _ k x h
      · rw [(List.mem_replicate.1 h).2]; exact zero_in, by show (0 : Int) ≤ 0 ∧ (0 : Int) < 4294967296; omega⟩
  have C40 : Hid (∀ W v ys e, Rf W (w.heap.size + 1) v ys e → Inv ys e → Byt ys → Calls Tryz.prog 31 #[.pointer (some ⟨w.heap.size + 1, 0, none⟩)] W fun r w' => r = .returned (.int .u32 (fourV (rowR z4 ys e).1)) ∧ Fleft W (w.heap.size + 1) v w' (rowR z4 ys e).2.1 (rowR z4 ys e).2.2) := fun W v ys e h1 h2 h3 => ffour_u _ v ys e W h1 h2 h3
  have C41 : Hid (∀ W v ys e, Rf W (w.heap.size + 1) v ys e → Inv ys e → Calls Tryz.prog 32 #[.pointer (some ⟨w.heap.size + 1, 0, none⟩)] W fun r w' => r = .returned (.int .u8 ((rowR [0] ys e).1.getD 0 0)) ∧ Fleft W (w.heap.size + 1) v w' (rowR [0] ys e).2.1 (rowR [0] ys e).2.2) := fun W v ys e h1 h2 => fbyte_u _ v ys e W h1 h2
  have C42x : Hid (∀ W v, Rf W (w.heap.size + 1) v (dG zs).2.1 (dG zs).2.2 → Calls Tryz.prog 33 #[.pointer (some ⟨w.heap.size + 1, 0, none⟩)] W fun r w' => r = .returned (.int .i64 (dE zs)) ∧ W = w') := fun W v h => fend_any _ v _ _ W h
  go_loopw [6] (fun i wr => ∃ (k : Nat) (v : Value), k ≤ 16 ∧ i = .int .i64 (k : Int) ∧ Hid (Fv w wr v (fk k (dA zs).2.1 (dA zs).2.2).2.1 (fk k (dA zs).2.1 (dA zs).2.2).2.2 (stV (sK zs k)))) (fun i _ => 16 - (intOf i).toNat)
  case atStart => exact ⟨0, _, Nat.zero_le _, rfl, HF6.out⟩
  case round =>
    clear HF6
    obtain ⟨k, v, hk, rfl, HD⟩ := hrel
    by_cases hlt : k < 16
    · have hlt' : (k : Int) < 16 := by omega
      have C := hid_into (C40.out wr v _ _ HD.out.rd (fk_inv (dA_inv zs) k) (fk_byt (dA zs).2.2 (dA_byt HBy.out) k))
      have HSt := hid_into (cellsK_step zs hlt)
      have HSt2 : Hid ((stV (sK zs k)).set (1 + k) (.int .i32 (sgnI (fourV (rowR z4 (fk k (dA zs).2.1 (dA zs).2.2).2.1 (fk k (dA zs).2.1 (dA zs).2.2).2.2).1))) = stV (sK zs (k + 1))) := by
        rw [setCell_st (HW4.out k hk).cells k hlt]
        refine hid_into ?_
        unfold sK
        rw [HSt.out]
      have hfk : fk (k + 1) (dA zs).2.1 (dA zs).2.2 = ((fk k (dA zs).2.1 (dA zs).2.2).1 ++ [sgnI (fourV (rowR z4 (fk k (dA zs).2.1 (dA zs).2.2).2.1 (fk k (dA zs).2.1 (dA zs).2.2).2.2).1)], (rowR z4 (fk k (dA zs).2.1 (dA zs).2.2).2.1 (fk k (dA zs).2.1 (dA zs).2.2).2.2).2.1, (rowR z4 (fk k (dA zs).2.1 (dA zs).2.2).2.1 (fk k (dA zs).2.1 (dA zs).2.2).2.2).2.2) := rfl
      have HFk := hid_into hfk
      have HCk := hid_into (stV_c (HW4.out k hk))
      clear hfk HSt
      generalize hX : fourV (rowR z4 (fk k (dA zs).2.1 (dA zs).2.2).2.1 (fk k (dA zs).2.1 (dA zs).2.2).2.2).1 = X at C HSt2
      have hsg : IntKind.i32.wrap X = sgnI X := rfl
      clear hX
      go_wp2_with (first
        | (go_at_call 31; refine C.out.mono ?_; rintro e w6 ⟨rfl, hl6⟩; obtain ⟨v6, hD6⟩ := HD.out.read hl6; have HD6 := hid_into hD6; have f6 := hD6.s.frozen (1 + k); have e6 := (hD6.s.cell (1 + k)).trans (HCk.out.cell k hlt); clear hl6 hD6))
      go_roundw
      case rel =>
        refine ⟨k + 1, v6, by omega, by go_num, ?_⟩
        have h7 := HD6.out.set (Only.set _ _ _ _) (HD6.out.s.set (1 + k) (.int .i32 (sgnI X)))
        rw [HSt2.out] at h7
        rw [HFk.out]
        exact h7
      case measure => simp [intOf]; omega
    · obtain rfl : k = 16 := by omega
      have e16 : fk 16 (dA zs).2.1 (dA zs).2.2 = dB zs := rfl
      rw [e16] at HD
      have C40x : Hid (Calls Tryz.prog 31 #[.pointer (some ⟨w.heap.size + 1, 0, none⟩)] wr fun r w' => r = .returned (.int .u32 (fourV (dC zs).1)) ∧ Fleft wr (w.heap.size + 1) v w' (dC zs).2.1 (dC zs).2.2) := C40.out wr v _ _ HD.out.rd (dB_inv zs) (dB_byt HBy.out)
      have C41a : Hid (∀ W v, Rf W (w.heap.size + 1) v (dC zs).2.1 (dC zs).2.2 → Calls Tryz.prog 32 #[.pointer (some ⟨w.heap.size + 1, 0, none⟩)] W fun r w' => r = .returned (.int .u8 (dOv zs)) ∧ Fleft W (w.heap.size + 1) v w' (dD zs).2.1 (dD zs).2.2) := fun W v h => C41.out W v _ _ h (dC_inv zs)
      have C41b : Hid (∀ W v, Rf W (w.heap.size + 1) v (dD zs).2.1 (dD zs).2.2 → Calls Tryz.prog 32 #[.pointer (some ⟨w.heap.size + 1, 0, none⟩)] W fun r w' => r = .returned (.int .u8 ((dG zs).1.getD 0 0)) ∧ Fleft W (w.heap.size + 1) v w' (dG zs).2.1 (dG zs).2.2) := fun W v h => C41.out W v _ _ h (dD_inv zs)
      clear C40 C41
      have e0 : stV (sK zs 16) = stV (s0D zs) := by unfold sK s0D; rw [cellsK_end]
      rw [e0] at HD
      have w0 : (s0D zs).Wf := ⟨fk_len _ _ 16, fk_in _ _ 16, by show (0 : Int) ≤ 0 ∧ (0 : Int) < 4294967296; omega⟩
      have w1 : (s1D zs).Wf := ⟨fk_len _ _ 16, fk_in _ _ 16, dC_in HBy.out⟩
      have w2 : ∀ o, (s2D zs o).Wf := fun o => ⟨fk_len _ _ 16, fk_in _ _ 16, dC_in HBy.out⟩
      have w3' : ∀ o x, (s3D zs o x).Wf := fun o x => ⟨fk_len _ _ 16, fk_in _ _ 16, dC_in HBy.out⟩
      have HA1 : Hid ((stV (s0D zs)).set 17 (.int .u32 (fourV (dC zs).1)) = stV (s1D zs)) := setS_seed w0 _
      have HA2' : ∀ o, Hid ((stV (s1D zs)).set 18 (.bool o) = stV (s2D zs o)) := fun o => setS_over w1 o
      have HA3' : ∀ o x, Hid ((stV (s2D zs o)).set 19 (.int .i64 x) = stV (s3D zs o x)) := fun o x => setS_win (w2 o) x
      have q0 := hid_into (stV_c w0)
      have q1 := hid_into (stV_c w1)
      have q2' := fun o => hid_into (stV_c (w2 o))
      have q3' := fun o x => hid_into (stV_c (w3' o x))
      have hY := getD_byt (dG_byt HBy.out).1
      have hOb := getD_byt (dD_byt HBy.out).1
      have hdS : dS zs = s3D zs (decide (dOv zs = 1)) ((dG zs).1.getD 0 0) := rfl
      have hdP : P = if dE zs ≠ 0 then (noS, dE zs) else if 1 < dOv zs ∨ isS (dS zs) = false then (noS, 3) else (dS zs, 0) := HPd.out
      rw [hdS] at hdP
      have HN3' := fun o x => st_size (w3' o x)
      have HL3' := fun o x => st_len (w3' o x)
      have HO3' := fun o x => st_one (w3' o x)
      clear e0 e16 hdS w0 w1 w2 w3' HW4 hk hlt HBy
      have hO0 : 0 ≤ dOv zs := hOb.1
      have hO1 : dOv zs < 256 := hOb.2
      clear hOb
      generalize hXe : fourV (dC zs).1 = X at C40x HA1
      clear hXe
      generalize (dG zs).1.getD 0 0 = Y at C41b hdP hY
      generalize dE zs = er at C42x hdP
      generalize dOv zs = ob at C41a hdP hO0 hO1
      by_cases he : er = 0
      · subst he
        rw [if_neg (by simp)] at hdP
        by_cases hb1 : ob = 1
        · subst hb1
          have hdt : decide ((1 : Int) = 1) = true := rfl
          rw [hdt] at hdP
          have HA2 := HA2' true
          have HA3 := HA3' true Y
          have q2 := q2' true
          have q3 := q3' true Y
          have HN3 := HN3' true Y
          have HL3 := HL3' true Y
          have HO3 := HO3' true Y
          clear HA2' HA3' q2' q3' HN3' HL3' HO3'
          cases hi : isS (s3D zs true Y) with
          | true =>
            rw [hi, if_neg (by simp)] at hdP
            go_wp2_with (first
              | (go_at_call 31; refine C40x.out.mono ?_; rintro e w6 ⟨rfl, hl6⟩; obtain ⟨v6, hD6⟩ := HD.out.read hl6; have f6 := hD6.s.frozen 17; have e6 := (hD6.s.cell 17).trans q0.out.seed; have h7 := hD6.set (Only.set _ _ _ _) (hD6.s.set 17 (.int .u32 X)); rw [HA1.out] at h7; have HD7 := hid_into h7; clear hl6 hD6 h7 HD)
              | (go_at_call 32; have _q := HD7; refine (C41a.out _ _ HD7.out.rd).mono ?_; rintro e w8 ⟨rfl, hl8⟩; obtain ⟨v8, hD8⟩ := HD7.out.read hl8; have f8 := hD8.s.frozen 18; have e8 := (hD8.s.cell 18).trans q1.out.over; have h9 := hD8.set (Only.set _ _ _ _) (hD8.s.set 18 (.bool true)); rw [HA2.out] at h9; have HD9 := hid_into h9; clear hl8 hD8 h9 HD7 _q)
              | (go_at_call 32; have _q := HD9; refine (C41b.out _ _ HD9.out.rd).mono ?_; rintro e w10 ⟨rfl, hl10⟩; obtain ⟨v10, hD10⟩ := HD9.out.read hl10; have f10 := hD10.s.frozen 19; have e10 := (hD10.s.cell 19).trans q2.out.win; have h11 := hD10.set (Only.set _ _ _ _) (hD10.s.set 19 (.int .i64 Y)); rw [HA3.out] at h11; have HD11 := hid_into h11; clear hl10 hD10 h11 HD9 _q)
              | (go_at_call 33; refine (C42x.out _ _ HD11.out.rd).mono ?_; rintro e w12 ⟨rfl, hw12⟩; subst hw12)
              | (refine wpList_load_rwG (by kernel_rfl) 25 (.tmp 5) rfl (w.heap.size + 1 + 1) (stV (s3D zs true Y)) 25 _ rfl ?_ Tryz.underlying25 rfl HN3 ?_; exact HD11.out.s)
              | (go_at_call 10; refine (rIs_c _ _ q3.out _).mono ?_; rintro e w13 ⟨rfl, B13⟩; replace HD11 := hid_into (HD11.out.next B13); clear B13)
              | (refine wpList_load_rw rfl 25 (.tmp 5) rfl (w.heap.size + 1 + 1) (stV (s3D zs true Y)) 25 _ rfl ?_ Tryz.underlying25 rfl HN3 ?_; exact HD11.out.s)
              | (refine wpList_build_row rfl 25 #[] rfl zeroS [] rfl HBz.out ?_)
              | (refine wpList_store_rw rfl 25 (.tmp 2) (.tmp 54) rfl w.heap.size zeroS (stV (s3D zs true Y)) 25 rfl rfl ?_ ZS HL3 HO3.out ?_; exact HD11.out.r; intro W14 hr14 O14))
            exact ret_row2 rfl rfl rfl hr14 Tryz.underlying25 rfl HN3 ⟨by rw [hdP]; rfl, HD11.out.below.trans (O14.below (by omega))⟩
          | false =>
            rw [hi, if_pos (by simp)] at hdP
            go_wp2_with (first
              | (go_at_call 31; refine C40x.out.mono ?_; rintro e w6 ⟨rfl, hl6⟩; obtain ⟨v6, hD6⟩ := HD.out.read hl6; have f6 := hD6.s.frozen 17; have e6 := (hD6.s.cell 17).trans q0.out.seed; have h7 := hD6.set (Only.set _ _ _ _) (hD6.s.set 17 (.int .u32 X)); rw [HA1.out] at h7; have HD7 := hid_into h7; clear hl6 hD6 h7 HD)
              | (go_at_call 32; have _q := HD7; refine (C41a.out _ _ HD7.out.rd).mono ?_; rintro e w8 ⟨rfl, hl8⟩; obtain ⟨v8, hD8⟩ := HD7.out.read hl8; have f8 := hD8.s.frozen 18; have e8 := (hD8.s.cell 18).trans q1.out.over; have h9 := hD8.set (Only.set _ _ _ _) (hD8.s.set 18 (.bool true)); rw [HA2.out] at h9; have HD9 := hid_into h9; clear hl8 hD8 h9 HD7 _q)
              | (go_at_call 32; have _q := HD9; refine (C41b.out _ _ HD9.out.rd).mono ?_; rintro e w10 ⟨rfl, hl10⟩; obtain ⟨v10, hD10⟩ := HD9.out.read hl10; have f10 := hD10.s.frozen 19; have e10 := (hD10.s.cell 19).trans q2.out.win; have h11 := hD10.set (Only.set _ _ _ _) (hD10.s.set 19 (.int .i64 Y)); rw [HA3.out] at h11; have HD11 := hid_into h11; clear hl10 hD10 h11 HD9 _q)
              | (go_at_call 33; refine (C42x.out _ _ HD11.out.rd).mono ?_; rintro e w12 ⟨rfl, hw12⟩; subst hw12)
              | (refine wpList_load_rwG (by kernel_rfl) 25 (.tmp 5) rfl (w.heap.size + 1 + 1) (stV (s3D zs true Y)) 25 _ rfl ?_ Tryz.underlying25 rfl HN3 ?_; exact HD11.out.s)
              | (go_at_call 10; refine (rIs_c _ _ q3.out _).mono ?_; rintro e w13 ⟨rfl, B13⟩; replace HD11 := hid_into (HD11.out.next B13); clear B13)
              | (refine wpList_load_rw rfl 25 (.tmp 5) rfl (w.heap.size + 1 + 1) (stV (s3D zs true Y)) 25 _ rfl ?_ Tryz.underlying25 rfl HN3 ?_; exact HD11.out.s)
              | (refine wpList_build_row rfl 25 #[] rfl zeroS [] rfl HBz.out ?_)
              | (refine wpList_store_rw rfl 25 (.tmp 2) (.tmp 52) rfl w.heap.size zeroS zeroS 25 rfl rfl ?_ ZS (hid_into rfl) HOz.out ?_; exact HD11.out.r; intro W14 hr14 O14))
            exact ret_row2 rfl rfl rfl hr14 Tryz.underlying25 rfl ZS ⟨by rw [hdP]; rfl, HD11.out.below.trans (O14.below (by omega))⟩
        · have hdf : decide (ob = 1) = false := by simp [hb1]
          rw [hdf] at hdP
          have hbb : (ob == 1) = false := by simp [hb1]
          have HA2 := HA2' false
          have HA3 := HA3' false Y
          have q2 := q2' false
          have q3 := q3' false Y
          have HN3 := HN3' false Y
          have HL3 := HL3' false Y
          have HO3 := HO3' false Y
          clear HA2' HA3' q2' q3' HN3' HL3' HO3'
          by_cases hb0 : ob = 0
          · subst hb0
            cases hi : isS (s3D zs false Y) with
            | true =>
              rw [hi, if_neg (by simp)] at hdP
              go_wp2_with (first
                | (go_at_call 31; refine C40x.out.mono ?_; rintro e w6 ⟨rfl, hl6⟩; obtain ⟨v6, hD6⟩ := HD.out.read hl6; have f6 := hD6.s.frozen 17; have e6 := (hD6.s.cell 17).trans q0.out.seed; have h7 := hD6.set (Only.set _ _ _ _) (hD6.s.set 17 (.int .u32 X)); rw [HA1.out] at h7; have HD7 := hid_into h7; clear hl6 hD6 h7 HD)
                | (go_at_call 32; have _q := HD7; refine (C41a.out _ _ HD7.out.rd).mono ?_; rintro e w8 ⟨rfl, hl8⟩; obtain ⟨v8, hD8⟩ := HD7.out.read hl8; have f8 := hD8.s.frozen 18; have e8 := (hD8.s.cell 18).trans q1.out.over; have h9 := hD8.set (Only.set _ _ _ _) (hD8.s.set 18 (.bool false)); rw [HA2.out] at h9; have HD9 := hid_into h9; clear hl8 hD8 h9 HD7 _q)
                | (go_at_call 32; have _q := HD9; refine (C41b.out _ _ HD9.out.rd).mono ?_; rintro e w10 ⟨rfl, hl10⟩; obtain ⟨v10, hD10⟩ := HD9.out.read hl10; have f10 := hD10.s.frozen 19; have e10 := (hD10.s.cell 19).trans q2.out.win; have h11 := hD10.set (Only.set _ _ _ _) (hD10.s.set 19 (.int .i64 Y)); rw [HA3.out] at h11; have HD11 := hid_into h11; clear hl10 hD10 h11 HD9 _q)
                | (go_at_call 33; refine (C42x.out _ _ HD11.out.rd).mono ?_; rintro e w12 ⟨rfl, hw12⟩; subst hw12)
                | (refine wpList_load_rwG (by kernel_rfl) 25 (.tmp 5) rfl (w.heap.size + 1 + 1) (stV (s3D zs false Y)) 25 _ rfl ?_ Tryz.underlying25 rfl HN3 ?_; exact HD11.out.s)
                | (go_at_call 10; refine (rIs_c _ _ q3.out _).mono ?_; rintro e w13 ⟨rfl, B13⟩; replace HD11 := hid_into (HD11.out.next B13); clear B13)
                | (refine wpList_load_rw rfl 25 (.tmp 5) rfl (w.heap.size + 1 + 1) (stV (s3D zs false Y)) 25 _ rfl ?_ Tryz.underlying25 rfl HN3 ?_; exact HD11.out.s)
                | (refine wpList_build_row rfl 25 #[] rfl zeroS [] rfl HBz.out ?_)
                | (refine wpList_store_rw rfl 25 (.tmp 2) (.tmp 54) rfl w.heap.size zeroS (stV (s3D zs false Y)) 25 rfl rfl ?_ ZS HL3 HO3.out ?_; exact HD11.out.r; intro W14 hr14 O14))
              exact ret_row2 rfl rfl rfl hr14 Tryz.underlying25 rfl HN3 ⟨by rw [hdP]; rfl, HD11.out.below.trans (O14.below (by omega))⟩
            | false =>
              rw [hi, if_pos (by simp)] at hdP
              go_wp2_with (first
                | (go_at_call 31; refine C40x.out.mono ?_; rintro e w6 ⟨rfl, hl6⟩; obtain ⟨v6, hD6⟩ := HD.out.read hl6; have f6 := hD6.s.frozen 17; have e6 := (hD6.s.cell 17).trans q0.out.seed; have h7 := hD6.set (Only.set _ _ _ _) (hD6.s.set 17 (.int .u32 X)); rw [HA1.out] at h7; have HD7 := hid_into h7; clear hl6 hD6 h7 HD)
                | (go_at_call 32; have _q := HD7; refine (C41a.out _ _ HD7.out.rd).mono ?_; rintro e w8 ⟨rfl, hl8⟩; obtain ⟨v8, hD8⟩ := HD7.out.read hl8; have f8 := hD8.s.frozen 18; have e8 := (hD8.s.cell 18).trans q1.out.over; have h9 := hD8.set (Only.set _ _ _ _) (hD8.s.set 18 (.bool false)); rw [HA2.out] at h9; have HD9 := hid_into h9; clear hl8 hD8 h9 HD7 _q)
                | (go_at_call 32; have _q := HD9; refine (C41b.out _ _ HD9.out.rd).mono ?_; rintro e w10 ⟨rfl, hl10⟩; obtain ⟨v10, hD10⟩ := HD9.out.read hl10; have f10 := hD10.s.frozen 19; have e10 := (hD10.s.cell 19).trans q2.out.win; have h11 := hD10.set (Only.set _ _ _ _) (hD10.s.set 19 (.int .i64 Y)); rw [HA3.out] at h11; have HD11 := hid_into h11; clear hl10 hD10 h11 HD9 _q)
                | (go_at_call 33; refine (C42x.out _ _ HD11.out.rd).mono ?_; rintro e w12 ⟨rfl, hw12⟩; subst hw12)
                | (refine wpList_load_rwG (by kernel_rfl) 25 (.tmp 5) rfl (w.heap.size + 1 + 1) (stV (s3D zs false Y)) 25 _ rfl ?_ Tryz.underlying25 rfl HN3 ?_; exact HD11.out.s)
                | (go_at_call 10; refine (rIs_c _ _ q3.out _).mono ?_; rintro e w13 ⟨rfl, B13⟩; replace HD11 := hid_into (HD11.out.next B13); clear B13)
                | (refine wpList_load_rw rfl 25 (.tmp 5) rfl (w.heap.size + 1 + 1) (stV (s3D zs false Y)) 25 _ rfl ?_ Tryz.underlying25 rfl HN3 ?_; exact HD11.out.s)
                | (refine wpList_build_row rfl 25 #[] rfl zeroS [] rfl HBz.out ?_)
                | (refine wpList_store_rw rfl 25 (.tmp 2) (.tmp 52) rfl w.heap.size zeroS zeroS 25 rfl rfl ?_ ZS (hid_into rfl) HOz.out ?_; exact HD11.out.r; intro W14 hr14 O14))
              exact ret_row2 rfl rfl rfl hr14 Tryz.underlying25 rfl ZS ⟨by rw [hdP]; rfl, HD11.out.below.trans (O14.below (by omega))⟩
          · rw [if_pos (by left; omega)] at hdP
            have hbn : 1 < ob := by omega
            go_wp2_with (first
              | (go_at_call 31; refine C40x.out.mono ?_; rintro e w6 ⟨rfl, hl6⟩; obtain ⟨v6, hD6⟩ := HD.out.read hl6; have f6 := hD6.s.frozen 17; have e6 := (hD6.s.cell 17).trans q0.out.seed; have h7 := hD6.set (Only.set _ _ _ _) (hD6.s.set 17 (.int .u32 X)); rw [HA1.out] at h7; have HD7 := hid_into h7; clear hl6 hD6 h7 HD)
              | (go_at_call 32; have _q := HD7; refine (C41a.out _ _ HD7.out.rd).mono ?_; rintro e w8 ⟨rfl, hl8⟩; obtain ⟨v8, hD8⟩ := HD7.out.read hl8; have f8 := hD8.s.frozen 18; have e8 := (hD8.s.cell 18).trans q1.out.over; have h9 := hD8.set (Only.set _ _ _ _) (hD8.s.set 18 (.bool false)); rw [HA2.out] at h9; have HD9 := hid_into h9; clear hl8 hD8 h9 HD7 _q)
              | (go_at_call 32; have _q := HD9; refine (C41b.out _ _ HD9.out.rd).mono ?_; rintro e w10 ⟨rfl, hl10⟩; obtain ⟨v10, hD10⟩ := HD9.out.read hl10; have f10 := hD10.s.frozen 19; have e10 := (hD10.s.cell 19).trans q2.out.win; have h11 := hD10.set (Only.set _ _ _ _) (hD10.s.set 19 (.int .i64 Y)); rw [HA3.out] at h11; have HD11 := hid_into h11; clear hl10 hD10 h11 HD9 _q)
              | (go_at_call 33; refine (C42x.out _ _ HD11.out.rd).mono ?_; rintro e w12 ⟨rfl, hw12⟩; subst hw12)
              | (refine wpList_load_rw rfl 25 (.tmp 5) rfl (w.heap.size + 1 + 1) (stV (s3D zs false Y)) 25 _ rfl ?_ Tryz.underlying25 rfl HN3 ?_; exact HD11.out.s)
              | (refine wpList_build_row rfl 25 #[] rfl zeroS [] rfl HBz.out ?_)
              | (refine wpList_store_rw rfl 25 (.tmp 2) (.tmp 52) rfl w.heap.size zeroS zeroS 25 rfl rfl ?_ ZS (hid_into rfl) HOz.out ?_; exact HD11.out.r; intro W14 hr14 O14))
            exact ret_row2 rfl rfl rfl hr14 Tryz.underlying25 rfl ZS ⟨by rw [hdP]; rfl, HD11.out.below.trans (O14.below (by omega))⟩
      · have he' : (er != 0) = true := by simp [he]
        have he2 : (er == 0) = false := by simp [he]
        rw [if_pos he] at hdP
        by_cases hb1 : ob = 1
        · subst hb1
          have HA2 := HA2' true
          have HA3 := HA3' true Y
          have q2 := q2' true
          have HN3 := HN3' true Y
          go_wp2_with (first
            | (go_at_call 31; refine C40x.out.mono ?_; rintro e w6 ⟨rfl, hl6⟩; obtain ⟨v6, hD6⟩ := HD.out.read hl6; have f6 := hD6.s.frozen 17; have e6 := (hD6.s.cell 17).trans q0.out.seed; have h7 := hD6.set (Only.set _ _ _ _) (hD6.s.set 17 (.int .u32 X)); rw [HA1.out] at h7; have HD7 := hid_into h7; clear hl6 hD6 h7 HD)
            | (go_at_call 32; have _q := HD7; refine (C41a.out _ _ HD7.out.rd).mono ?_; rintro e w8 ⟨rfl, hl8⟩; obtain ⟨v8, hD8⟩ := HD7.out.read hl8; have f8 := hD8.s.frozen 18; have e8 := (hD8.s.cell 18).trans q1.out.over; have h9 := hD8.set (Only.set _ _ _ _) (hD8.s.set 18 (.bool true)); rw [HA2.out] at h9; have HD9 := hid_into h9; clear hl8 hD8 h9 HD7 _q)
            | (go_at_call 32; have _q := HD9; refine (C41b.out _ _ HD9.out.rd).mono ?_; rintro e w10 ⟨rfl, hl10⟩; obtain ⟨v10, hD10⟩ := HD9.out.read hl10; have f10 := hD10.s.frozen 19; have e10 := (hD10.s.cell 19).trans q2.out.win; have h11 := hD10.set (Only.set _ _ _ _) (hD10.s.set 19 (.int .i64 Y)); rw [HA3.out] at h11; have HD11 := hid_into h11; clear hl10 hD10 h11 HD9 _q)
            | (go_at_call 33; refine (C42x.out _ _ HD11.out.rd).mono ?_; rintro e w12 ⟨rfl, hw12⟩; subst hw12)
            | (refine wpList_load_rw rfl 25 (.tmp 5) rfl (w.heap.size + 1 + 1) (stV (s3D zs true Y)) 25 _ rfl ?_ Tryz.underlying25 rfl HN3 ?_; exact HD11.out.s)
            | (refine wpList_build_row rfl 25 #[] rfl zeroS [] rfl HBz.out ?_)
            | (refine wpList_store_rw rfl 25 (.tmp 2) (.tmp 52) rfl w.heap.size zeroS zeroS 25 rfl rfl ?_ ZS (hid_into rfl) HOz.out ?_; exact HD11.out.r; intro W14 hr14 O14))
          exact ret_row2 rfl rfl rfl hr14 Tryz.underlying25 rfl ZS ⟨by rw [hdP]; rfl, HD11.out.below.trans (O14.below (by omega))⟩
        · have hbb : (ob == 1) = false := by simp [hb1]
          have HA2 := HA2' false
          have HA3 := HA3' false Y
          have q2 := q2' false
          have HN3 := HN3' false Y
          go_wp2_with (first
            | (go_at_call 31; refine C40x.out.mono ?_; rintro e w6 ⟨rfl, hl6⟩; obtain ⟨v6, hD6⟩ := HD.out.read hl6; have f6 := hD6.s.frozen 17; have e6 := (hD6.s.cell 17).trans q0.out.seed; have h7 := hD6.set (Only.set _ _ _ _) (hD6.s.set 17 (.int .u32 X)); rw [HA1.out] at h7; have HD7 := hid_into h7; clear hl6 hD6 h7 HD)
            | (go_at_call 32; have _q := HD7; refine (C41a.out _ _ HD7.out.rd).mono ?_; rintro e w8 ⟨rfl, hl8⟩; obtain ⟨v8, hD8⟩ := HD7.out.read hl8; have f8 := hD8.s.frozen 18; have e8 := (hD8.s.cell 18).trans q1.out.over; have h9 := hD8.set (Only.set _ _ _ _) (hD8.s.set 18 (.bool false)); rw [HA2.out] at h9; have HD9 := hid_into h9; clear hl8 hD8 h9 HD7 _q)
            | (go_at_call 32; have _q := HD9; refine (C41b.out _ _ HD9.out.rd).mono ?_; rintro e w10 ⟨rfl, hl10⟩; obtain ⟨v10, hD10⟩ := HD9.out.read hl10; have f10 := hD10.s.frozen 19; have e10 := (hD10.s.cell 19).trans q2.out.win; have h11 := hD10.set (Only.set _ _ _ _) (hD10.s.set 19 (.int .i64 Y)); rw [HA3.out] at h11; have HD11 := hid_into h11; clear hl10 hD10 h11 HD9 _q)
            | (go_at_call 33; refine (C42x.out _ _ HD11.out.rd).mono ?_; rintro e w12 ⟨rfl, hw12⟩; subst hw12)
            | (refine wpList_load_rw rfl 25 (.tmp 5) rfl (w.heap.size + 1 + 1) (stV (s3D zs false Y)) 25 _ rfl ?_ Tryz.underlying25 rfl HN3 ?_; exact HD11.out.s)
            | (refine wpList_build_row rfl 25 #[] rfl zeroS [] rfl HBz.out ?_)
            | (refine wpList_store_rw rfl 25 (.tmp 2) (.tmp 52) rfl w.heap.size zeroS zeroS 25 rfl rfl ?_ ZS (hid_into rfl) HOz.out ?_; exact HD11.out.r; intro W14 hr14 O14))
          exact ret_row2 rfl rfl rfl hr14 Tryz.underlying25 rfl ZS ⟨by rw [hdP]; rfl, HD11.out.below.trans (O14.below (by omega))⟩
end Go.Proofs.YtlknolbfhfcflaaGreat
end
