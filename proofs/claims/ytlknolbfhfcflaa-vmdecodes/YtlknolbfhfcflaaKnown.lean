/-
  What the laws know by heart: known.
-/
import Derived.Test.YtlknolbfhfcflaaLaw
namespace Go.Proofs.Ytlknolbfhfcflaa
open Go.RowKit
def kcode : List Ii := [(2, 0), (16, 0), (4, 0), (3, 0)]
def kst (f a : Int) : Sp := ⟨f, [a, 0, 0, 0, 0, 0, 0, 0, 0, 0, 0, 0, 0, 0, 0, 0], 1, false, 0⟩
theorem kn1 : stepF kcode 9 9 (startS 1) 3 0 = (kst 1 3, 0) := by rfl
theorem kn2 : stepF kcode 9 9 (kst 1 3) 3 0 = (kst 2 6, 0) := by rfl
theorem kst_wf (f a : Int) (ha : In32 a) : (kst f a).Wf := ⟨rfl, by intro x hx; simp only [kst, List.mem_cons, List.not_mem_nil, or_false, or_self] at hx; rcases hx with rfl | rfl; exact ha; exact zero_in, by show (0 : Int) ≤ 1 ∧ (1 : Int) < 4294967296; omega⟩
set_option maxRecDepth 20000 in
set_option maxHeartbeats 4000000 in
theorem known_any (w : World) : Calls Try.prog 12 #[] w fun e w' => e = .returned (.bool true) ∧ Below w.heap.size w w' := by
  have w0 : (startS 1).Wf := startS_wf 1 (by omega)
  have w1 : (kst 1 3).Wf := kst_wf 1 3 ⟨by omega, by omega⟩
  have w2 : (kst 2 6).Wf := kst_wf 2 6 ⟨by omega, by omega⟩
  have ST : ∀ W, Calls Try.prog 13 #[.int .u32 1] W fun e w' => e = .returned (.agg (stV (startS 1)).toArray) ∧ Below W.heap.size W w' := fun W => Start_any 1 W
  have SP1 : Hid (∀ W N G cv, Kn w W N G cv 9 9 kcode → Calls Try.prog 8 #[.agg #[cv, .int .i64 9, .int .i64 9], .agg (stV (startS 1)).toArray, .agg #[.int .u16 3, .int .u16 0]] W fun r w' => r = .returned (.tuple #[.agg (stV (kst 1 3)).toArray, .int .i64 0]) ∧ Below W.heap.size W w') := fun W N G cv h => h.step _ _ _ _ _ w0 (by omega) (by omega) kn1
  have SP2 : Hid (∀ W N G cv, Kn w W N G cv 9 9 kcode → Calls Try.prog 8 #[.agg #[cv, .int .i64 9, .int .i64 9], .agg (stV (kst 1 3)).toArray, .agg #[.int .u16 3, .int .u16 0]] W fun r w' => r = .returned (.tuple #[.agg (stV (kst 2 6)).toArray, .int .i64 0]) ∧ Below W.heap.size W w') := fun W N G cv h => h.step _ _ _ _ _ w1 (by omega) (by omega) kn2
  have L1 := st_len w1
  have L2 := st_len w2
  have O1 := st_one w1
  have O2 := st_one w2
  have Z1 := st_size w1
  have C2 := hid_into (stV_c w2)
  have HZ : Hid ((Try.prog.info? 28).bind (·.zero) = some (.agg zeroS.toArray)) := Try.zero28
  have ZS := zeroS_size
  clear w0 w1 w2
  generalize hss : stV (startS 1) = ss at ST SP1
  clear hss
  have hl1 : (stV (kst 1 3)).length = 20 := rfl
  generalize hs1 : stV (kst 1 3) = s1 at SP1 SP2 L1 O1 Z1 hl1
  clear hs1
  generalize hs2 : stV (kst 2 6) = s2 at SP2 L2 O2 C2
  clear hs2
  go_enter Try.func12, Try.ntmps12
  go_upto_region 2 with fail
  have H : Hid (Kn w (((w.alloc (.cells (cells2 kcode).toArray 52)).alloc (.cells #[.slice (some ⟨w.heap.size, 0, none⟩) 4 4, .int .i64 9, .int .i64 9] 24))) (w.heap.size + 2) (w.heap.size + 1) (.slice (some ⟨w.heap.size, 0, none⟩) 4 4) 9 9 kcode) := by
    have hc : Cw (w.alloc (.cells (cells2 kcode).toArray 52)) w.heap.size (cells2 kcode) 52 := Cw.new _ _ _
    have hg := Cw.new (w.alloc (.cells (cells2 kcode).toArray 52)) [.slice (some ⟨w.heap.size, 0, none⟩) 4 4, .int .i64 9, .int .i64 9] 24
    rw [World.size_alloc] at hg
    refine ⟨hg.keep rfl, (Ls_of_block (hc.alloc _) (by decide)).keep fun k _ _ => rfl, (((Below.refl w.heap.size w).alloc (Nat.le_refl _) _).alloc (by rw [World.size_alloc]; omega) _), by omega, by omega, ?_, ?_⟩
    · intro k hk
      have : w.heap.size = k := by simpa [Value.ownBlock] using hk
      omega
    · show w.heap.size + 2 ≤ ((w.alloc _).alloc _).heap.size
      rw [World.size_alloc, World.size_alloc]; omega
  have hA : (w.alloc (.cells (cells2 kcode).toArray 52)).alloc (.cells #[.slice (some ⟨w.heap.size, 0, none⟩) 4 4, .int .i64 9, .int .i64 9] 24) = (w.alloc (.cells #[.int .i64 2, .int .i64 0, .int .i64 16, .int .i64 0, .int .i64 4, .int .i64 0, .int .i64 3, .int .i64 0] 52)).alloc (.cells #[.slice (some ⟨w.heap.size, 0, none⟩) 4 4, .int .i64 9, .int .i64 9] 24) := rfl
  rw [hA] at H
  clear hA
  generalize (w.alloc (.cells #[.int .i64 2, .int .i64 0, .int .i64 16, .int .i64 0, .int .i64 4, .int .i64 0, .int .i64 3, .int .i64 0] 52)).alloc (.cells #[.slice (some ⟨w.heap.size, 0, none⟩) 4 4, .int .i64 9, .int .i64 9] 24) = W0 at H ⊢
  replace H := hid_into (H.out.sm (W' := W0.drew) ⟨rfl, rfl, rfl, rfl⟩)
  generalize (Value.slice (some ⟨w.heap.size, 0, none⟩) 4 4) = cv at H ⊢
  go_cut [2, 3] (fun pv ev wx => ∃ b, pv = .pointer (some ⟨b, 0, none⟩) ∧ ev = .int .i64 0 ∧ w.heap.size + 2 ≤ b ∧ Cw wx b s1 28 ∧ Kn w wx (w.heap.size + 2) (w.heap.size + 1) cv 9 9 kcode)
  case first =>
    have hS := H.out.s
    go_region_held3 (fun V => V.cell? ⟨w.heap.size + 1, 0, none⟩ = some cv ∧ V.cell? ⟨w.heap.size + 1, 1, none⟩ = some (.int .i64 9) ∧ V.cell? ⟨w.heap.size + 1, 2, none⟩ = some (.int .i64 9)) (first | exact hS | exact H.out.s | exact (H.out.next ((Below.refl _ _).alloc (Nat.le_refl _) _)).s)
      (first
        | (go_at_call 13; refine (ST _).mono ?_; rintro e wa ⟨rfl, Ba⟩; (first | (replace H := hid_into (H.out.next Ba)) | (obtain ⟨hr, hb, H1⟩ := Kn.alloc1 H.out Ba; clear H; have H := hid_into H1.out; clear H1)); clear Ba)
        | (go_at_call 8; (first | refine (SP1.out _ _ _ _ H.out).mono ?_ | refine (SP1.out _ _ _ _ (H.out.next ((Below.refl _ _).alloc (Nat.le_refl _) _))).mono ?_); rintro e wb ⟨rfl, Bb⟩; (first | (replace hr := hid_into (hr.out.below Bb hr.out.lt); replace H := hid_into (H.out.next Bb)) | (replace H := hid_into (H.out.next Bb)) | (obtain ⟨hr, hb, H1⟩ := Kn.alloc2 H.out Bb; clear H; have H := hid_into H1.out; clear H1)); clear Bb)
        | (refine upon_store (t := 28) hr.out L1 O1 ?_; intro wd hd Od; replace H := hid_into (H.out.only Od hb.out); clear Od)
        | (refine upon_store (cs := zeroS) (t := 28) (Cw.new _ _ _) L1 O1 ?_; intro wd hd Od; have hb := hid_into H.out.size; replace H := hid_into ((H.out.next ((Below.refl _ _).alloc (Nat.le_refl _) _)).only Od hb.out); clear Od))
    all_goals
      go_wp2_with fail
      go_meet
      exact ⟨_, rfl, rfl, hb.out, hd.keep rfl, H.out.sm ⟨rfl, rfl, rfl, rfl⟩⟩
  case rest =>
    obtain ⟨b, rfl, rfl, hb, hd, hK⟩ := hcut
    have H2 := hid_into hK
    have hd2 := hid_into hd
    have g0 := hK.s.1
    have g1 := hK.s.2.1
    have g2 := hK.s.2.2
    clear hK hd
    go_wp2_with (first
      | (refine wpList_load_rw rfl 28 (.tmp 2) rfl b s1 28 _ rfl ?_ Try.underlying28 rfl Z1 ?_; exact hd2.out)
      | (go_at_call 8; refine (SP2.out _ _ _ _ H2.out).mono ?_; rintro e wb ⟨rfl, Bb⟩; replace H2 := hid_into (H2.out.next Bb); clear Bb)
      | (refine wpList_alloc_row rfl 28 rfl zeroS HZ.out ?_; intro W5 hr5 B5 _; have hz5 := hid_into H2.out.size; replace H2 := hid_into (H2.out.next B5))
      | (refine wpList_store_rw rfl 28 (.tmp 4) (.tmp 24) rfl wb.heap.size zeroS s2 28 rfl rfl ?_ ZS L2 O2.out ?_; exact hr5; intro W6 hr6 O6; replace H2 := hid_into (H2.out.only O6 hz5.out); have t0 := (hr6.cell 0).trans C2.out.frame; have t1 := (hr6.cell 1).trans (C2.out.cell 0 (by omega)); have t2 := (hr6.cell 18).trans C2.out.over; simp only [kst, List.getD_cons_zero] at t0 t1 t2))
    go_ret
    exact ⟨rfl, H2.out.below⟩
end Go.Proofs.Ytlknolbfhfcflaa
