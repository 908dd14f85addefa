/-
  OctetTakes, walked: for all bytes and all kinds it answers true, and writes nothing that was there.
-/
import Derived.Test.YtamifgaaalclcaaDoorTakesHelp
namespace Go.Proofs.YtamifgaaalclcaaDoor
open Go.RowKit

theorem newReader_lt (sv : Value) (zs : List Int) (w : World) (hb : Bs w sv zs) (hz : zs.length ≤ 100000000000000) :
    Calls Tryd.prog 22 #[sv] w fun e w' => ∃ b v, e = .returned (.pointer (some ⟨b, 0, none⟩)) ∧ Rd w' b v zs 0 ∧ Below w.heap.size w w' ∧ w.heap.size ≤ b ∧ ∀ k, v.ownBlock = some k → k < w'.heap.size := by
  go_enter Tryd.func22, Tryd.ntmps22
  go_wp2_with fail
  refine (clone_any sv zs _ hb hz).mono ?_
  rintro e w1 ⟨ao, cap, rfl, hown, B1⟩
  have R : Rd (w1.alloc (.cells #[.slice ao zs.length cap, .int .i64 0] 72)) w1.heap.size (.slice ao zs.length cap) zs 0 :=
    ⟨heap_alloc_new w1 _, hown.bs.below ((Below.refl _ _).alloc (Nat.le_refl _) _) (Nat.le_refl _), fun e => by have := World.ownsRow.lt hown _ e; omega⟩
  have hk : ∀ k, (Value.slice ao zs.length cap).ownBlock = some k → k < (w1.alloc (.cells #[.slice ao zs.length cap, .int .i64 0] 72)).heap.size := fun k e => by have := (World.ownsRow.lt hown k e).2; simp; omega
  have hs := B1.size
  clear hown
  go_wp2
  go_ret
  exact ⟨_, _, rfl, R, B1.alloc hs _, hs, hk⟩

set_option maxRecDepth 100000 in
set_option maxHeartbeats 6400000 in
theorem takes_walk (sv kv : Value) (zs ks : List Int) (w : World) (hb : Bs w sv zs) (hz : Byt zs) (hk : Ks w kv ks) (ht : Tab w) :
    Calls Tryd.prog 4 #[sv, kv] w fun e w' => e = .returned (.bool true) ∧ Below w.heap.size w w' := by
  obtain ⟨ao, cap, hsv, hm⟩ := hb.len
  subst hsv
  obtain ⟨ak, ck, hkv, hmk⟩ := hk.len
  subst hkv
  unfold maxLen at hm hmk
  by_cases hn : 3000 < zs.length
  · go_enter Tryd.func4, Tryd.ntmps4
    go_wp2
    go_ret
    exact ⟨rfl, Below.refl _ _⟩
  by_cases hn2 : 200 < ks.length
  · go_enter Tryd.func4, Tryd.ntmps4
    go_wp2
    go_ret
    exact ⟨rfl, Below.refl _ _⟩
  have htl := ht.lt
  go_enter Tryd.func4, Tryd.ntmps4
  go_wp2_with fail
  refine (roomy_any _ zs _ hb (by omega)).mono ?_
  rintro e w1 ⟨g, cap1, rfl, ho1, B1, hg1, hcap1⟩
  have hp1 := ho1.take zs.length (by simp)
  rw [show (zs ++ [(171 : Int)]).take zs.length = zs by simp] at hp1
  obtain ⟨-, -, hcm⟩ := hp1.bounds
  unfold maxLen at hcm
  go_wp2_with fail
  refine (newReader_lt _ zs _ hp1.bs (by omega)).mono ?_
  rintro e w2 ⟨b, v1, rfl, hr2, B2, hb2, hk2⟩
  have hown0 : Ow (w2.alloc (.cells #[] 5)) w2.heap.size (.slice (some ⟨w2.heap.size, 0, none⟩) 0 0) [] := Ow_of_block (heap_alloc_new w2 _) (by simp) (Nat.le_refl _)
  have hsb : Bs (w2.alloc (.cells #[] 5)) (.slice ao zs.length cap) zs := ((hb.below B1 (Nat.le_refl _)).below B2 (Nat.le_refl _)).below ((Below.refl _ _).alloc (Nat.le_refl _) _) (Nat.le_refl _)
  go_wp2_with (at_builtin; refine wpList_append_bs _ rfl (.tmp 28) (.tmp 29) rfl w2.heap.size _ [] rfl hown0 _ zs rfl hsb (by simp; omega) (by simp) ?_)
  intro ao3 cap3 w3 ho3 hg3 hat3
  have B3 : Below w2.heap.size w2 w3 := ((Below.refl _ _).alloc (Nat.le_refl _) _).grown hg3 (by simp) (fun k hk => by simp [Value.ownBlock] at hk; omega)
  have hf4 : Rf (w3.alloc (.cells #[.slice ao3 zs.length cap3, .int .i64 0] 56)) w3.heap.size (.slice ao3 zs.length cap3) zs 0 :=
    ⟨heap_alloc_new w3 _, by have := ho3.bs.below ((Below.refl _ _).alloc (Nat.le_refl _) (.cells #[.slice ao3 zs.length cap3, .int .i64 0] 56)) (Nat.le_refl _); simpa using this, fun e => by have := (World.ownsRow.lt ho3 _ (by simpa using e)).2; omega⟩
  clear hown0 hsb hg3 hat3
  have P4 : Pr w1 (w3.heap.size + 1) b w3.heap.size (w3.alloc (.cells #[.slice ao3 zs.length cap3, .int .i64 0] 56)) v1 (.slice ao3 zs.length cap3) zs 0 zs 0 := by
    have hs2 := B2.size
    have hs3 := B3.size
    have hlb := hr2.lt
    have Ba : Below w3.heap.size w3 (w3.alloc (.cells #[.slice ao3 zs.length cap3, .int .i64 0] 56)) := (Below.refl _ _).alloc (Nat.le_refl _) _
    refine ⟨(hr2.below B3 (Nat.le_refl _)).below Ba (Nat.le_refl _), hf4, by omega, hb2, by omega, by omega, by omega, fun q hq => ?_, fun q hq => ?_, by simp, (B2.trans (B3.mono hs2)).trans (Ba.mono (by omega))⟩
    · have := hk2 q hq
      omega
    · have := World.ownsRow.lt ho3 q (by simpa using hq)
      omega
  have F4 : Fit zs 0 := ⟨Or.inl rfl, hz, by omega⟩
  clear hf4 ho3 hk2 hr2 B3 hp1 hcap1
  go_wp2
  generalize w3.alloc (.cells #[.slice ao3 zs.length cap3, .int .i64 0] 56) = w4 at *
  generalize w3.heap.size + 1 = N at *
  generalize w3.heap.size = c at *
  go_loopw [8] (fun i wr => ∃ (k : Nat) (u1 u2 : Value) (ys : List Int) (e1 : Int), k ≤ ks.length ∧ i = .int .i64 k ∧ Pr w1 N b c wr u1 u2 ys e1 ys e1 ∧ Fit ys e1) (fun i _ => ks.length - (intOf i).toNat)
  case atStart => exact ⟨0, _, _, zs, 0, Nat.zero_le _, rfl, P4, F4⟩
  case round =>
    obtain ⟨k, u1, u2, ys, e1, hkk, rfl, hP, hF⟩ := hrel
    have Bk : Below w.heap.size w wr := B1.trans (hP.low.mono B1.size)
    by_cases hlt : k < ks.length
    · obtain ⟨gk, offk, rfl, hck⟩ := hk.cell Bk (Nat.le_refl _) k hlt
      generalize ks.getD k 0 = kk at *
      have hby0 : ∀ n : Nat, Byt (List.replicate n 0) := fun n z hz => by have := (List.mem_replicate.1 hz).2; omega
      clear P4 F4 hb Bk ho1 B2 hcm
      by_cases k1 : kk = 1
      · rw [k1] at hck
        have HF2 : Fit (rowR [0] ys e1).2.1 (rowR [0] ys e1).2.2 := hF.row [0] (hby0 1)
        have C1 := rbyte_u b u1 ys e1 _ hP.rd
        have C2 := fun W (hW : Rf W c u2 ys e1) => fbyte_u c u2 ys e1 W hW hF.inv
        generalize rowR [0] ys e1 = R at *
        obtain ⟨row, ys2, e2⟩ := R
        have H1 := hid_into C1
        have H2 := hid_into C2
        clear C1 C2
        go_wp2_with fail
        refine H1.out.mono ?_
        rintro r wa ⟨rfl, hla⟩
        obtain ⟨u1', Pa⟩ := hP.one hla
        go_wp2_with fail
        refine (H2.out _ Pa.rf).mono ?_
        rintro r wb ⟨rfl, hlb⟩
        obtain ⟨u2', P⟩ := Pa.two hlb
        clear hla hlb Pa hP H1 H2
        go_wp2_with fail
        refine (left_any b _ _ _ _ P.rd).mono ?_
        rintro r wa ⟨rfl, rfl⟩
        go_wp2_with fail
        refine (fleft_any c _ _ _ _ P.rf).mono ?_
        rintro r wa ⟨rfl, rfl⟩
        go_wp2_with fail
        refine (end_any b _ _ _ _ P.rd).mono ?_
        rintro r wa ⟨rfl, rfl⟩
        go_wp2_with fail
        refine (fend_any c _ _ _ _ P.rf).mono ?_
        rintro r wa ⟨rfl, rfl⟩
        go_wp2
        go_roundw
        case rel => exact ⟨k + 1, _, _, _, _, by omega, by go_num, P, HF2⟩
        case measure => simp [intOf]; omega
      by_cases k2 : kk = 2
      · rw [k2] at hck
        have HF2 : Fit (rowR [0, 0] ys e1).2.1 (rowR [0, 0] ys e1).2.2 := hF.row [0, 0] (hby0 2)
        have C1 := rtwo_any b u1 ys e1 _ hP.rd hF.byt hP.l1
        have C2 := fun W (hW : Rf W c u2 ys e1) => ftwo_u c u2 ys e1 W hW hF.inv hF.byt
        generalize rowR [0, 0] ys e1 = R at *
        obtain ⟨row, ys2, e2⟩ := R
        have H1 := hid_into C1
        have H2 := hid_into C2
        clear C1 C2
        go_wp2_with fail
        refine H1.out.mono ?_
        rintro r wa ⟨rfl, hla⟩
        obtain ⟨u1', Pa⟩ := hP.one hla
        go_wp2_with fail
        refine (H2.out _ Pa.rf).mono ?_
        rintro r wb ⟨rfl, hlb⟩
        obtain ⟨u2', P⟩ := Pa.two hlb
        clear hla hlb Pa hP H1 H2
        go_wp2_with fail
        refine (left_any b _ _ _ _ P.rd).mono ?_
        rintro r we ⟨rfl, rfl⟩
        go_wp2_with fail
        refine (fleft_any c _ _ _ _ P.rf).mono ?_
        rintro r we ⟨rfl, rfl⟩
        go_wp2_with fail
        refine (end_any b _ _ _ _ P.rd).mono ?_
        rintro r we ⟨rfl, rfl⟩
        go_wp2_with fail
        refine (fend_any c _ _ _ _ P.rf).mono ?_
        rintro r we ⟨rfl, rfl⟩
        go_wp2
        go_roundw
        case rel => exact ⟨k + 1, _, _, _, _, by omega, by go_num, P, HF2⟩
        case measure => simp [intOf]; omega
      by_cases k3 : kk = 3
      · rw [k3] at hck
        have HF2 : Fit (rowR [0, 0, 0, 0] ys e1).2.1 (rowR [0, 0, 0, 0] ys e1).2.2 := hF.row [0, 0, 0, 0] (hby0 4)
        have C1 := rfour_any b u1 ys e1 _ hP.rd hF.byt hP.l1
        have C2 := fun W (hW : Rf W c u2 ys e1) => ffour_u c u2 ys e1 W hW hF.inv hF.byt
        generalize rowR [0, 0, 0, 0] ys e1 = R at *
        obtain ⟨row, ys2, e2⟩ := R
        have H1 := hid_into C1
        have H2 := hid_into C2
        clear C1 C2
        go_wp2_with fail
        refine H1.out.mono ?_
        rintro r wa ⟨rfl, hla⟩
        obtain ⟨u1', Pa⟩ := hP.one hla
        go_wp2_with fail
        refine (H2.out _ Pa.rf).mono ?_
        rintro r wb ⟨rfl, hlb⟩
        obtain ⟨u2', P⟩ := Pa.two hlb
        clear hla hlb Pa hP H1 H2
        go_wp2_with fail
        refine (left_any b _ _ _ _ P.rd).mono ?_
        rintro r we ⟨rfl, rfl⟩
        go_wp2_with fail
        refine (fleft_any c _ _ _ _ P.rf).mono ?_
        rintro r we ⟨rfl, rfl⟩
        go_wp2_with fail
        refine (end_any b _ _ _ _ P.rd).mono ?_
        rintro r we ⟨rfl, rfl⟩
        go_wp2_with fail
        refine (fend_any c _ _ _ _ P.rf).mono ?_
        rintro r we ⟨rfl, rfl⟩
        go_wp2
        go_roundw
        case rel => exact ⟨k + 1, _, _, _, _, by omega, by go_num, P, HF2⟩
        case measure => simp [intOf]; omega
      by_cases k4 : kk = 4
      · rw [k4] at hck
        have HF2 : Fit (numE ys e1).2.1 (numE ys e1).2.2 := hF.num
        have C1 := rnum_u b u1 ys e1 _ hP.rd hF.byt
        have C2 := fun W (hW : Rf W c u2 ys e1) => fnum_u c u2 ys e1 W hW hF
        generalize numE ys e1 = R at *
        obtain ⟨row, ys2, e2⟩ := R
        have H1 := hid_into C1
        have H2 := hid_into C2
        clear C1 C2
        go_wp2_with fail
        refine H1.out.mono ?_
        rintro r wa ⟨rfl, hla⟩
        obtain ⟨u1', Pa⟩ := hP.one hla
        go_wp2_with fail
        refine (H2.out _ Pa.rf).mono ?_
        rintro r wb ⟨rfl, hlb⟩
        obtain ⟨u2', P⟩ := Pa.two hlb
        clear hla hlb Pa hP H1 H2
        go_wp2_with fail
        refine (left_any b _ _ _ _ P.rd).mono ?_
        rintro r we ⟨rfl, rfl⟩
        go_wp2_with fail
        refine (fleft_any c _ _ _ _ P.rf).mono ?_
        rintro r we ⟨rfl, rfl⟩
        go_wp2_with fail
        refine (end_any b _ _ _ _ P.rd).mono ?_
        rintro r we ⟨rfl, rfl⟩
        go_wp2_with fail
        refine (fend_any c _ _ _ _ P.rf).mono ?_
        rintro r we ⟨rfl, rfl⟩
        go_wp2
        go_roundw
        case rel => exact ⟨k + 1, _, _, _, _, by omega, by go_num, P, HF2⟩
        case measure => simp [intOf]; omega
      by_cases k5 : kk = 5
      · rw [k5] at hck
        obtain ⟨HF2, hrl⟩ := hF.bytes
        have C1 := rbytes_any b u1 ys e1 _ hP.rd hF.byt
        have C2 := fun W (hW : Rf W c u2 ys e1) (hv : ∀ q, u2.ownBlock = some q → q < W.heap.size) => fbytes_any c u2 ys e1 W hW hF.inv hF.byt hv
        generalize bytesR ys e1 = R at *
        obtain ⟨row, ys2, e2⟩ := R
        have H1 := hid_into C1
        have H2 := hid_into C2
        have hrl' : row.length ≤ 3000 := hrl
        clear C1 C2 hrl
        have hcr : c < wr.heap.size := Nat.lt_of_lt_of_le hP.cN hP.sz
        have hNr := hP.sz
        go_wp2_with fail
        refine H1.out.mono ?_
        rintro r wa ⟨aoa, capa, rfl, hoa, hla⟩
        obtain ⟨u1', Pa⟩ := hP.one hla
        have hsza : wr.heap.size ≤ wa.heap.size := by obtain ⟨_, _, hs, _⟩ := hla; exact hs.size
        go_wp2_with fail
        refine (H2.out _ Pa.rf Pa.l2).mono ?_
        rintro r wb ⟨aob, capb, rfl, hob, hlb⟩
        obtain ⟨u2', Pb⟩ := Pa.two hlb
        have hoa2 : Ow wb wr.heap.size (.slice aoa row.length capa) row := by obtain ⟨_, _, hs, _⟩ := hlb; exact hoa.rstep hs hcr
        have hszb : wr.heap.size ≤ wb.heap.size := by obtain ⟨_, _, hs, _⟩ := hlb; exact Nat.le_trans hsza hs.size
        clear hla hlb Pa hP H1 H2 hoa
        go_wp2_with fail
        refine (same_any _ _ row row _ hoa2.bs hob.bs).mono ?_
        rintro r wc ⟨rfl, hsm⟩
        rw [eqB_true rfl]
        have hoc := hsm.ow hoa2
        have Pc := Pb.sm hsm
        have hszc : wr.heap.size ≤ wc.heap.size := by rw [hsm.heap]; exact hszb
        clear hoa2 hob Pb hsm
        go_wp2_with fail
        refine (spoil_any wr.heap.size _ row _ hoc hszc (by omega)).mono ?_
        rintro r wd ⟨rfl, hgd⟩
        have P := Pc.grown hgd (fun q hq => Nat.le_trans hNr (World.ownsRow.lt hoc q hq).1)
        clear hoc Pc hgd
        go_wp2_with fail
        refine (left_any b _ _ _ _ P.rd).mono ?_
        rintro r we ⟨rfl, rfl⟩
        go_wp2_with fail
        refine (fleft_any c _ _ _ _ P.rf).mono ?_
        rintro r we ⟨rfl, rfl⟩
        go_wp2_with fail
        refine (end_any b _ _ _ _ P.rd).mono ?_
        rintro r we ⟨rfl, rfl⟩
        go_wp2_with fail
        refine (fend_any c _ _ _ _ P.rf).mono ?_
        rintro r we ⟨rfl, rfl⟩
        go_wp2
        go_roundw
        case rel => exact ⟨k + 1, _, _, _, _, by omega, by go_num, P, HF2⟩
        case measure => simp [intOf]; omega
      have q1 : (kk == 1) = false := by simp [k1]
      have q2 : (kk == 2) = false := by simp [k2]
      have q3 : (kk == 3) = false := by simp [k3]
      have q4 : (kk == 4) = false := by simp [k4]
      have q5 : (kk == 5) = false := by simp [k5]
      clear k1 k2 k3 k4 k5
      have HF2 : Fit (rowR zero32 ys e1).2.1 (rowR zero32 ys e1).2.2 := hF.row zero32 (hby0 32)
      have C1 := rhash_any b u1 ys e1 _ hP.rd hP.l1
      have C2 := fun W (hW : Rf W c u2 ys e1) (hv : ∀ q, u2.ownBlock = some q → q < W.heap.size) => fhash_any c u2 ys e1 W hW hF.inv hv
      have hlen : (rowR zero32 ys e1).1.length = 32 := rowR_len zero32 ys e1
      generalize rowR zero32 ys e1 = R at *
      obtain ⟨row, ys2, e2⟩ := R
      have H1 := hid_into C1
      have H2 := hid_into C2
      have heq : ∀ W, (Op.equalIn 10000 28 (.agg (cellsOf row).toArray) (.agg (cellsOf row).toArray)).run Tryd.prog W = .ok true W := fun W => by rw [run_equal_hash row row hlen hlen W, eqB_true rfl]
      clear C1 C2 hlen
      go_wp2_with fail
      refine H1.out.mono ?_
      rintro r wa ⟨rfl, hla⟩
      obtain ⟨u1', Pa⟩ := hP.one hla
      go_wp2_with fail
      refine (H2.out _ Pa.rf Pa.l2).mono ?_
      rintro r wb ⟨rfl, hlb⟩
      obtain ⟨u2', P⟩ := Pa.two hlb
      clear hla hlb Pa hP H1 H2
      go_wp2_with fail
      refine (left_any b _ _ _ _ P.rd).mono ?_
      rintro r we ⟨rfl, rfl⟩
      go_wp2_with fail
      refine (fleft_any c _ _ _ _ P.rf).mono ?_
      rintro r we ⟨rfl, rfl⟩
      go_wp2_with fail
      refine (end_any b _ _ _ _ P.rd).mono ?_
      rintro r we ⟨rfl, rfl⟩
      go_wp2_with fail
      refine (fend_any c _ _ _ _ P.rf).mono ?_
      rintro r we ⟨rfl, rfl⟩
      go_wp2
      go_roundw
      case rel => exact ⟨k + 1, _, _, _, _, by omega, by go_num, P, HF2⟩
      case measure => simp [intOf]; omega
    · have ho2 : Ow wr w.heap.size (.slice (some ⟨g, 0, none⟩) (zs.length + 1) cap1) (zs ++ [171]) := ho1.keep fun q _ hq => hP.low.block q hq
      have hb2' := hb.below Bk (Nat.le_refl _)
      have htk := ht.below Bk htl
      clear P4 F4 ho1 hb
      go_wp2_with fail
      refine (stands_any _ g cap1 _ zs _ ho2 hb2' (by omega)).mono ?_
      rintro r wa ⟨rfl, hsm⟩
      have Pa := hP.sm hsm
      have Ba : Below w.heap.size w wa := Bk.trans (hsm.below _)
      have hta := htk.sm hsm
      clear ho2 hb2' hP
      go_wp2_with fail
      refine (end_any b _ _ _ _ Pa.rd).mono ?_
      rintro r we ⟨rfl, rfl⟩
      go_wp2_with fail
      refine (fend_any c _ _ _ _ Pa.rf).mono ?_
      rintro r we ⟨rfl, rfl⟩
      go_wp2_with fail
      refine (known_any _ hta).mono ?_
      rintro r we ⟨rfl, Be⟩
      go_wp2
      go_ret
      exact ⟨rfl, Ba.trans (Be.mono Ba.size)⟩
end Go.Proofs.YtamifgaaalclcaaDoor
