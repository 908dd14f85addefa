/-
  InputsPlay's own walk.
-/
import Derived.Test.YtkjoadncbfhjfaaPairsEq
import Derived.Test.YtkjoadncbfhjfaaArgIn
namespace Go.Proofs.Ytkjoadncbfhjfaa
open Go.RowKit
/-- Both Queues, side by side, over the same rows. -/
structure Tw (w wr : World) (qb g0 g1 rb a0 a1 b0 b1 : Nat) (l0 l1 : List Pl) : Prop where
  p : Qp wr w.heap.size (w.heap.size + 3) qb g0 g1 l0 l1
  r : Rq wr (w.heap.size + 3) (w.heap.size + 8) rb a0 a1 b0 b1 l0 l1
  b : Below w.heap.size w wr
  sz : w.heap.size + 8 ≤ wr.heap.size
section
variable {w wr w2 w3 : World} {qb g0 g1 rb a0 a1 b0 b1 : Nat} {l0 l1 : List Pl}
theorem Tw.below (h : Tw w wr qb g0 g1 rb a0 a1 b0 b1 l0 l1) (hb : Below wr.heap.size wr w2) : Tw w w2 qb g0 g1 rb a0 a1 b0 b1 l0 l1 :=
  ⟨h.p.keep fun k _ hk => hb.block k (by have := h.sz; omega), h.r.keep fun k _ hk => hb.block k (by have := h.sz; omega), h.b.trans (hb.mono h.b.size), Nat.le_trans h.sz hb.size⟩
theorem Tw.drewN (h : Tw w wr qb g0 g1 rb a0 a1 b0 b1 l0 l1) (n : Nat) : Tw w (wr.drewN n) qb g0 g1 rb a0 a1 b0 b1 l0 l1 := h.below ((Sm.drewN wr n).below _)
theorem Tw.drew (h : Tw w wr qb g0 g1 rb a0 a1 b0 b1 l0 l1) : Tw w wr.drew qb g0 g1 rb a0 a1 b0 b1 l0 l1 := h.below (Below.refl _ _).drew
theorem Tw.put (h : Tw w wr qb g0 g1 rb a0 a1 b0 b1 l0 l1) {p f x : Int} (h1 : PutP wr w2 w.heap.size (w.heap.size + 3) qb g0 g1 l0 l1 p f x) (h2 : RPutP w2 w3 (w.heap.size + 3) (w.heap.size + 8) rb a0 a1 b0 b1 l0 l1 p f x) : ∃ m0 m1, Tw w w3 qb g0 g1 rb a0 a1 b0 b1 m0 m1 :=
  ⟨_, _, h1.q.keep fun k _ hk => h2.og.block k (by omega), h2.q, (h.b.trans (h1.og.below fun k hk => hk.1)).trans (h2.og.below fun k hk => by omega), by rw [h2.og.size, h1.og.size]; exact h.sz⟩
theorem Tw.ref (h : Tw w wr qb g0 g1 rb a0 a1 b0 b1 l0 l1) {p f x : Int} (h1 : PutP wr w2 w.heap.size (w.heap.size + 3) qb g0 g1 l0 l1 p f x) : Rq w2 (w.heap.size + 3) (w.heap.size + 8) rb a0 a1 b0 b1 l0 l1 :=
  h.r.keep fun k hk _ => h1.og.block k (by omega)
end
theorem Ps_of_prs {w : World} {B : Nat} {l : List Pi} (hc : Cw w B (cellsP l) 47) (hl : l.length ≤ 1000) : Ps w (.slice (some ⟨B, 0, none⟩) l.length l.length) l := Ps_of_block hc (by unfold maxLen; omega)
theorem play_out (n : Int) (a1 : Option Addr) (len1 cap1 : Nat) (a2 : Option Addr) (len2 cap2 : Nat) (w : World) (h : 20 < len2) :
    Calls Try.prog 3 #[.int .i64 n, .slice a1 len1 cap1, .slice a2 len2 cap2] w fun e w' => e = .returned (.bool true) ∧ Below w.heap.size w w' := by
  have C := known_any w
  have h1 : 20 < (len2 : Int) := by omega
  go_enter Try.func3, Try.ntmps3
  go_wp2_with (go_at_call 7; refine C.mono ?_; rintro e w1 ⟨rfl, hb⟩)
  go_ret
  exact ⟨rfl, hb⟩
theorem play_bad (n : Int) (a1 : Option Addr) (len1 cap1 : Nat) (a2 : Option Addr) (len2 cap2 : Nat) (w : World) (h : len2 ≤ 20) (hn : n < 1 ∨ 600 < n) :
    Calls Try.prog 3 #[.int .i64 n, .slice a1 len1 cap1, .slice a2 len2 cap2] w fun e w' => e = .returned (.bool true) ∧ Below w.heap.size w w' := by
  have C := known_any w
  have h1 : (len2 : Int) ≤ 20 := by omega
  have HN := hid_into hn
  clear hn
  go_enter Try.func3, Try.ntmps3
  go_wp2_with (first
    | (go_at_call 8; refine (new_no _ _ HN.out).mono ?_; rintro e w1 ⟨rfl, hw1⟩; replace hw1 := hw1.symm; subst hw1)
    | (go_at_call 9; refine (rnew_no _ _ HN.out).mono ?_; rintro e w1 ⟨rfl, hw1⟩; replace hw1 := hw1.symm; subst hw1)
    | (go_at_call 7; refine C.mono ?_; rintro e w1 ⟨rfl, hb⟩))
  go_ret
  exact ⟨rfl, hb⟩
set_option maxHeartbeats 2000000 in
set_option maxRecDepth 20000 in
theorem play_in (n : Nat) (a1 : Option Addr) (len1 cap1 : Nat) (ls : List To) (a2 : Option Addr) (len2 cap2 : Nat) (ask : List To) (w : World) (r1 : Rw w 3 To.cells a1 len1 cap1 ls) (r2 : Rw w 3 To.cells a2 len2 cap2 ask)
    (h : len2 ≤ 20) (hn1 : 1 ≤ n) (hn2 : n ≤ 600) :
    Calls Try.prog 3 #[.int .i64 (n : Int), .slice a1 len1 cap1, .slice a2 len2 cap2] w fun e w' => e = .returned (.bool true) ∧ Below w.heap.size w w' := by
  have h1 : (len2 : Int) ≤ 20 := by omega
  have R1 := hid_into r1
  have R2 := hid_into r2
  have C := hid_into (new_any w n hn1 hn2)
  have hm1 : (len1 : Int) ≤ 9223372036854775807 := by have := r1.le; have := r1.mx; unfold maxLen at this; omega
  clear r1 r2
  go_enter Try.func3, Try.ntmps3
  go_wp2_with (first
    | (go_at_call 8; refine C.out.mono ?_; rintro e w1 ⟨qb, g0, g1, rfl, hq, hb, hs⟩; replace hs := hid_into hs)
    | (go_at_call 9; refine (rnew_any _ n hn1 hn2).mono ?_; rintro e w2 ⟨rb, a0', a1', b0', b1', rfl, hq2, hb2, hs2⟩; replace hs2 := hid_into hs2))
  have HT : Hid (Tw w w2 qb g0 g1 rb a0' a1' b0' b1' (zeros n) (zeros n)) := by
    have e1 := hs.out
    have e2 := hs2.out
    rw [e1] at hq2 e2
    exact ⟨hq.keep fun k _ hk => hb2.block k (by omega), hq2, hb.trans (hb2.mono (by omega)), by omega⟩
  clear hq hb hs hq2 hb2 hs2
  go_loopw [11] (fun x wr => ∃ (k : Nat) (l0 l1 : List Pl), k ≤ 300 ∧ x = .int .i64 (k : Int) ∧ Hid (Tw w wr qb g0 g1 rb a0' a1' b0' b1' l0 l1)) (fun x _ => 300 - (intOf x).toNat)
  case atStart => exact ⟨0, _, _, by omega, rfl, HT⟩
  case round =>
    clear HT
    obtain ⟨k, l0, l1, hk, rfl, HT⟩ := hrel
    by_cases hlt : k < len1 ∧ k < 300
    · obtain ⟨hk1, hk3⟩ := hlt
      have hk1' : (k : Int) < (len1 : Int) := by omega
      have hk3' : (k : Int) < 300 := by omega
      obtain ⟨t, ht⟩ : ∃ t, ls[k]? = some t := ⟨_, List.getElem?_eq_getElem (by rw [R1.out.len]; exact hk1)⟩
      obtain ⟨g, off, rfl, ct⟩ := (R1.out.below HT.out.b (Nat.le_refl _)).at' k t ht
      have d0 := ct 0 _ rfl
      have d1 := ct 1 _ rfl
      have d2 := ct 2 _ rfl
      simp only [Nat.add_zero] at d0
      clear ct ht
      obtain ⟨p, f, x⟩ := t
      simp only at d0 d1 d2
      go_wp2_with fail
      have HT1 : Hid (Tw w (wr.alloc (.cells #[.int .i64 p, .int .i64 f, .int .u16 x] 33)) qb g0 g1 rb a0' a1' b0' b1' l0 l1) := HT.out.below ((Below.refl _ _).alloc (Nat.le_refl _) _)
      have HX := hid_into (Cw.new wr [.int .i64 p, .int .i64 f, .int .u16 x] 33)
      have HZ := hid_into HT.out.sz
      generalize wr.alloc (.cells #[.int .i64 p, .int .i64 f, .int .u16 x] 33) = W1 at *
      generalize hxb : wr.heap.size = xb at *
      clear hxb HT d0 d1 d2 wr
      have t0 : W1.cell? ⟨xb, 0, none⟩ = some (.int .i64 p) ∧ W1.cell? ⟨xb, 1, none⟩ = some (.int .i64 f) ∧ W1.cell? ⟨xb, 2, none⟩ = some (.int .u16 x) := ⟨HX.out.cell 0, HX.out.cell 1, HX.out.cell 2⟩
      replace t0 := hid_into t0
      have C1 : Hid (Calls Try.prog 10 #[.pointer (some ⟨qb, 0, none⟩), .int .i64 p, .int .i64 f, .int .u16 x] W1.drew fun e w' => e = .returned (.int .i64 (putE (sel p l0 l1) f x)) ∧ PutP W1.drew w' w.heap.size (w.heap.size + 3) qb g0 g1 l0 l1 p f x) := put_any HT1.out.drew.p p f x
      have C2 : Hid (∀ w2, PutP W1.drew w2 w.heap.size (w.heap.size + 3) qb g0 g1 l0 l1 p f x → Calls Try.prog 11 #[.pointer (some ⟨rb, 0, none⟩), .int .i64 p, .int .i64 f, .int .u16 x] w2 fun e w' => e = .returned (.int .i64 (putE (sel p l0 l1) f x)) ∧ RPutP w2 w' (w.heap.size + 3) (w.heap.size + 8) rb a0' a1' b0' b1' l0 l1 p f x) := fun w2 h2 => rput_anyR (HT1.out.drew.ref h2) p f x
      generalize putE (sel p l0 l1) f x = E at *
      have K2 : Hid (∀ w2, PutP W1.drew w2 w.heap.size (w.heap.size + 3) qb g0 g1 l0 l1 p f x → w2.cell? ⟨xb, 0, none⟩ = some (.int .i64 p) ∧ w2.cell? ⟨xb, 1, none⟩ = some (.int .i64 f) ∧ w2.cell? ⟨xb, 2, none⟩ = some (.int .u16 x)) := by
        intro w2 h2
        have hc : Cw w2 xb _ 33 := HX.out.keep (h2.og.block xb (by have := HZ.out; omega))
        exact ⟨hc.cell 0, hc.cell 1, hc.cell 2⟩
      have K3 : Hid (∀ w2 w3, PutP W1.drew w2 w.heap.size (w.heap.size + 3) qb g0 g1 l0 l1 p f x → RPutP w2 w3 (w.heap.size + 3) (w.heap.size + 8) rb a0' a1' b0' b1' l0 l1 p f x → w3.cell? ⟨xb, 0, none⟩ = some (.int .i64 p) ∧ w3.cell? ⟨xb, 1, none⟩ = some (.int .i64 f) ∧ w3.cell? ⟨xb, 2, none⟩ = some (.int .u16 x)) := by
        intro w2 w3 h2 h3
        have hc : Cw w3 xb _ 33 := (HX.out.keep (h2.og.block xb (by have := HZ.out; omega))).keep (h3.og.block xb (by have := HZ.out; omega))
        exact ⟨hc.cell 0, hc.cell 1, hc.cell 2⟩
      go_region_held3 (fun u => u.cell? ⟨xb, 0, none⟩ = some (.int .i64 p) ∧ u.cell? ⟨xb, 1, none⟩ = some (.int .i64 f) ∧ u.cell? ⟨xb, 2, none⟩ = some (.int .u16 x)) (first | exact t0.out | exact t2.out | exact t3.out)
        (first
          | (go_at_call 10; refine C1.out.mono ?_; rintro e w2 ⟨rfl, hp⟩; have t2 := hid_into (K2.out _ hp))
          | (go_at_call 11; refine (C2.out _ hp).mono ?_; rintro e w3 ⟨rfl, hr⟩; have t3 := hid_into (K3.out _ _ hp hr)))
      obtain ⟨m0, m1, ht⟩ := HT1.out.drew.put hp hr
      have HT := hid_into ht
      clear ht hp hr t0 t2 t3 C1 C2 K2 K3 HX HZ HT1 w2 W1
      go_wp2_with fail
      go_loopw [13] (fun y wr => ∃ j : Nat, j ≤ len2 ∧ y = .int .i64 (j : Int) ∧ Hid (Tw w wr qb g0 g1 rb a0' a1' b0' b1' m0 m1)) (fun y _ => len2 - (intOf y).toNat)
      case atStart => exact ⟨0, Nat.zero_le _, rfl, HT⟩
      case round =>
        clear HT
        obtain ⟨j, hj, rfl, HT⟩ := hrel
        by_cases hlt : j < len2
        · have hlt2 : (j : Int) < (len2 : Int) := by omega
          obtain ⟨t, ht⟩ : ∃ t, ask[j]? = some t := ⟨_, List.getElem?_eq_getElem (by rw [R2.out.len]; exact hlt)⟩
          obtain ⟨g', off', rfl, ct⟩ := (R2.out.below HT.out.b (Nat.le_refl _)).at' j t ht
          have d0 := ct 0 _ rfl
          have d1 := ct 1 _ rfl
          simp only [Nat.add_zero] at d0
          have CT : Hid (∀ W, Below w.heap.size w W → W.cell? ⟨g', off' + j * 3, none⟩ = some (.int .i64 t.p) ∧ W.cell? ⟨g', off' + j * 3 + 1, none⟩ = some (.int .i64 t.f)) := by
            intro W hW
            obtain ⟨g2, o2, e2, c2⟩ := (R2.out.below hW (Nat.le_refl _)).at' j t ht
            cases e2
            exact ⟨c2 0 _ rfl, c2 1 _ rfl⟩
          clear ct ht
          obtain ⟨P, F, X⟩ := t
          simp only at d0 d1 CT
          have CG : Hid (∀ W, Tw w W qb g0 g1 rb a0' a1' b0' b1' m0 m1 → Calls Try.prog 12 #[.pointer (some ⟨qb, 0, none⟩), .int .i64 P, .int .i64 F] W fun e w' => e = .returned (.tuple #[.int .u16 (getP (sel P m0 m1) F).1, .bool (getP (sel P m0 m1) F).2]) ∧ w' = W) := fun W hW => get_any hW.p P F
          have CH : Hid (∀ W, Tw w W qb g0 g1 rb a0' a1' b0' b1' m0 m1 → Calls Try.prog 13 #[.pointer (some ⟨rb, 0, none⟩), .int .i64 P, .int .i64 F] W fun e w' => e = .returned (.tuple #[.int .u16 (getP (sel P m0 m1) F).1, .bool (getP (sel P m0 m1) F).2]) ∧ w' = W) := fun W hW => rget_anyR hW.r P F
          have CK : Hid (∀ W, Tw w W qb g0 g1 rb a0' a1' b0' b1' m0 m1 → Calls Try.prog 14 #[.pointer (some ⟨qb, 0, none⟩), .int .i64 P] W fun e w' => e = .returned (.int .i64 (kn (sel P m0 m1) : Int)) ∧ w' = W) := fun W hW => known_any' hW.p P
          have CL : Hid (∀ W, Tw w W qb g0 g1 rb a0' a1' b0' b1' m0 m1 → Calls Try.prog 15 #[.pointer (some ⟨rb, 0, none⟩), .int .i64 P] W fun e w' => e = .returned (.int .i64 (kn (sel P m0 m1) : Int)) ∧ w' = W) := fun W hW => rknown_anyR hW.r P
          generalize getP (sel P m0 m1) F = G at *
          generalize kn (sel P m0 m1) = Kn at *
          obtain ⟨ga, gb⟩ := G
          simp only at CG CH
          go_wp2_with fail
          have t0 := hid_into (CT.out _ HT.out.b)
          go_region_held3 (fun u => u.cell? ⟨g', off' + j * 3, none⟩ = some (.int .i64 P) ∧ u.cell? ⟨g', off' + j * 3 + 1, none⟩ = some (.int .i64 F)) (exact t0.out)
            (first | (go_at_call 12; refine (CG.out _ HT.out.drew).mono ?_; rintro e w2 ⟨rfl, hw2⟩; replace hw2 := hw2.symm; subst hw2))
          go_wp2_with fail
          go_region_held3 (fun u => u.cell? ⟨g', off' + j * 3, none⟩ = some (.int .i64 P) ∧ u.cell? ⟨g', off' + j * 3 + 1, none⟩ = some (.int .i64 F)) (exact t0.out)
            (first | (go_at_call 13; refine (CH.out _ HT.out.drew.drew).mono ?_; rintro e w2 ⟨rfl, hw2⟩; replace hw2 := hw2.symm; subst hw2))
          go_wp2_with fail
          go_region_held3 (fun u => u.cell? ⟨g', off' + j * 3, none⟩ = some (.int .i64 P) ∧ u.cell? ⟨g', off' + j * 3 + 1, none⟩ = some (.int .i64 F)) (exact t0.out)
            (first
              | (go_at_call 14; refine (CK.out _ HT.out.drew.drew.drew).mono ?_; rintro e w2 ⟨rfl, hw2⟩; replace hw2 := hw2.symm; subst hw2)
              | (go_at_call 15; refine (CL.out _ HT.out.drew.drew.drew).mono ?_; rintro e w2 ⟨rfl, hw2⟩; replace hw2 := hw2.symm; subst hw2))
          go_wp2_with fail
          go_roundw
          case rel => exact ⟨j + 1, by omega, by go_num, HT.out.drew.drew.drew⟩
          case measure => simp [intOf]; omega
        · obtain rfl : j = len2 := by omega
          clear hlt hj
          have CB := hid_into (Both_any HT.out.p)
          have CC := hid_into (rBoth_any HT.out.r)
          generalize min (kn m0) (kn m1) = B at *
          go_wp2_with (first
            | (go_at_call 16; refine CB.out.mono ?_; rintro e w2 ⟨rfl, hw2⟩; replace hw2 := hw2.symm; subst hw2)
            | (go_at_call 17; refine CC.out.mono ?_; rintro e w2 ⟨rfl, hw2⟩; replace hw2 := hw2.symm; subst hw2))
          go_roundw
          case rel => exact ⟨k + 1, m0, m1, by omega, by go_num, HT⟩
          case measure => simp [intOf]; omega
    · have CP := hid_into (Pairs_any HT.out.p)
      have HL : Hid (min (kn l0) (kn l1) ≤ 600) := by
        have h1 := kn_le l0
        have h2 := HT.out.p.n2
        show _ ≤ _
        omega
      generalize hM : min (kn l0) (kn l1) = M at *
      have HM := hid_into hM
      clear hM
      by_cases hk1 : (k : Int) < (len1 : Int)
      · have hk3 : ¬ (k : Int) < 300 := by omega
        clear hlt
        go_wp2_with (first
          | (go_at_call 19; refine CP.out.mono ?_; rintro e w2 ⟨rfl, hc2, hb2, hs2⟩; replace hs2 := hid_into hs2; have HT2 := hid_into (HT.out.below hb2); have CR := rPairs_any HT2.out.r; rw [HM.out] at CR; replace CR := hid_into CR)
          | (go_at_call 20; refine CR.out.mono ?_; rintro e w3 ⟨v3, rfl, hps, hb3⟩; have CE := hid_into (pairs_same w3 _ v3 _ ((Ps_of_prs hc2 (by rw [prs_len]; have := HL.out; omega)).below hb3) hps (by rw [prs_len]; have := HL.out; omega)); rw [prs_len] at CE)
          | (go_at_call 18; refine CE.out.mono ?_; rintro e w4 ⟨rfl, hb4⟩)
          | (go_at_call 7; refine (known_any _).mono ?_; rintro e w5 ⟨rfl, hb5⟩))
        go_ret
        exact ⟨rfl, ((((HT2.out.below hb3).below hb4).below hb5).b)⟩
      · clear hlt
        go_wp2_with (first
          | (go_at_call 19; refine CP.out.mono ?_; rintro e w2 ⟨rfl, hc2, hb2, hs2⟩; replace hs2 := hid_into hs2; have HT2 := hid_into (HT.out.below hb2); have CR := rPairs_any HT2.out.r; rw [HM.out] at CR; replace CR := hid_into CR)
          | (go_at_call 20; refine CR.out.mono ?_; rintro e w3 ⟨v3, rfl, hps, hb3⟩; have CE := hid_into (pairs_same w3 _ v3 _ ((Ps_of_prs hc2 (by rw [prs_len]; have := HL.out; omega)).below hb3) hps (by rw [prs_len]; have := HL.out; omega)); rw [prs_len] at CE)
          | (go_at_call 18; refine CE.out.mono ?_; rintro e w4 ⟨rfl, hb4⟩)
          | (go_at_call 7; refine (known_any _).mono ?_; rintro e w5 ⟨rfl, hb5⟩))
        go_ret
        exact ⟨rfl, ((((HT2.out.below hb3).below hb4).below hb5).b)⟩
theorem play_walk (n : Int) (a1 : Option Addr) (len1 cap1 : Nat) (ls : List To) (a2 : Option Addr) (len2 cap2 : Nat) (ask : List To) (w : World) (r1 : Rw w 3 To.cells a1 len1 cap1 ls) (r2 : Rw w 3 To.cells a2 len2 cap2 ask) :
    Calls Try.prog 3 #[.int .i64 n, .slice a1 len1 cap1, .slice a2 len2 cap2] w fun e w' => e = .returned (.bool true) ∧ Below w.heap.size w w' := by
  by_cases h : 20 < len2
  · exact play_out n a1 len1 cap1 a2 len2 cap2 w h
  · by_cases hn : n < 1 ∨ 600 < n
    · exact play_bad n a1 len1 cap1 a2 len2 cap2 w (by omega) hn
    · obtain ⟨k, rfl⟩ : ∃ k : Nat, n = (k : Int) := ⟨n.toNat, by omega⟩
      exact play_in k a1 len1 cap1 ls a2 len2 cap2 ask w r1 r2 (by omega) (by omega) (by omega)
end Go.Proofs.Ytkjoadncbfhjfaa
