/-
  The document's Newest of a ring.
-/
import Derived.Test.YtkchdkcdkeajkaaRgRef
namespace Go.Proofs.Ytkchdkcdkeajkaa
open Go.RowKit
set_option maxHeartbeats 2000000 in
theorem rNewest_any {w : World} {db lo n a : Nat} {L : List Sp} (h : Rr w db lo n L) (hk : Rk n a L) : Calls Try.prog 14 #[.pointer (some ⟨db, 0, none⟩)] w fun e w' => e = .returned (.tuple #[.agg (stV (gtS a L (gstF a L))).toArray, .bool (gtB a L (gstF a L))]) ∧ Below w.heap.size w w' := by
  obtain ⟨ao, cap, h1, h2, h3⟩ := h.r
  have HZ : Hid ((Try.prog.info? 35).bind (·.zero) = some (.agg zeroS.toArray)) := Try.zero35
  have ZS := zeroS_size
  have HBz : Hid (Try.prog.built 35 [] = some zeroS.toArray) := built28z
  have HLz := st_len noS_wf
  have HOz := st_one noS_wf
  by_cases hl : L = []
  · have e : L.length = 0 := by rw [hl]; rfl
    have HX : Hid (∀ W, Below w.heap.size w W → W.cell? ⟨db, 1, none⟩ = some (.slice ao 0 cap)) := fun W hW => by
      have c1 := (h1.below hW h1.lt).cell 1
      rw [e] at c1
      exact c1
    have hb : gtB a L (gstF a L) = false := by
      rw [show gstF a L = -1 from if_pos hl]
      unfold gtB
      rw [decide_eq_false_iff_not]
      omega
    have hv : stV (gtS a L (gstF a L)) = zeroS := by rw [gt_no hb]; rfl
    rw [hv, hb]
    clear h h1 h2 h3 hk hl e hb hv
    go_enter Try.func14, Try.ntmps14
    go_wp2_with (first
      | (refine wpList_alloc_row rfl 35 rfl zeroS HZ.out ?_; intro W1 hr1 B1 _; have c1 := HX.out _ B1)
      | (refine wpList_build_row rfl 35 #[] rfl zeroS [] rfl HBz.out ?_)
      | (refine wpList_store_rw rfl 35 (.tmp 2) (.tmp 10) rfl w.heap.size zeroS zeroS 35 rfl rfl ?_ ZS HLz HOz.out ?_; exact hr1; intro W3 hr3 O3))
    refine ret_row2 rfl rfl rfl hr3 Try.underlying35 rfl ZS ?_
    exact ⟨rfl, B1.trans (O3.below (Nat.le_refl _))⟩
  · have ht := hk.top
    have hp : 0 < L.length := List.length_pos_iff.2 hl
    obtain ⟨m, hm⟩ : ∃ m, L.length = m + 1 := ⟨L.length - 1, by omega⟩
    have gm : L[m]? = some L[m] := List.getElem?_eq_getElem (by omega)
    have hwf := hk.fit _ (List.mem_of_getElem? gm)
    have hx : gstF a L = ((a + m : Nat) : Int) := by rw [show gstF a L = ((a + L.length : Nat) : Int) - 1 from if_neg hl]; omega
    have hb : gtB a L (gstF a L) = true := by rw [hx]; unfold gtB; rw [decide_eq_true_eq]; omega
    have hv : gtS a L (gstF a L) = L[m] := by
      obtain ⟨i, s, j1, j2, j3⟩ := gt_yes hb
      rw [hx] at j2
      obtain rfl : i = m := by omega
      rw [gm] at j1
      rw [j3, Option.some.inj j1]
    rw [hv, hb]
    obtain ⟨g, off, rfl, dm, rm⟩ := h2.frame hk.fit gm
    have HX : Hid (∀ W, Below w.heap.size w W → W.cell? ⟨db, 1, none⟩ = some (.slice (some ⟨g, off, none⟩) L.length cap) ∧ W.rangeAt g (off + m * 20) (stV L[m])) := fun W hW => by
      obtain ⟨g', off', e', _, rm'⟩ := (h2.below hW (Nat.le_refl _)).frame hk.fit gm
      simp only [Option.some.injEq, Addr.mk.injEq, and_true] at e'
      obtain ⟨rfl, rfl⟩ := e'
      exact ⟨(h1.below hW h1.lt).cell 1, rm'⟩
    have HN := st_size hwf
    have HL2 := st_len hwf
    have HO2 := st_one hwf
    generalize stV L[m] = cs at *
    have q1 : IntKind.i64.wrap ((L.length : Int) - 1) = (m : Int) := by rw [hm]; simp [IntKind.wrap, IntKind.bits, IntKind.signed]; omega
    have q2 : (m : Int) < (L.length : Int) := by omega
    have q3 : (0 : Int) ≤ (m : Int) := by omega
    have q4 : ¬ L.length = 0 := by omega
    have q5 : ¬ (L.length : Int) = 0 := by omega
    have q7 : m < L.length := by omega
    have HG : Hid (w.heap.size ≠ db ∧ w.heap.size ≠ g) := ⟨by have := h1.lt; omega, by have hh : g < w.heap.size := World.block_lt_of_cell? w _ dm; omega⟩
    clear h h1 h2 h3 hk hl ht hp hwf hx hb hv dm rm gm hm
    generalize L.length = p at *
    go_enter Try.func14, Try.ntmps14
    go_upto_region 3 with (go_big_may; first
      | (refine wpList_alloc_row rfl 35 rfl zeroS HZ.out ?_; intro W1 hr1 B1 _; obtain ⟨c1, c2⟩ := HX.out _ B1))
    have HS : Hid (∀ V, Below w.heap.size w V → V.cell? ⟨db, 1, none⟩ = some (.slice (some ⟨g, off, none⟩) p cap) ∧ V.rangeAt g (off + m * 20) cs) := HX
    have S1 := HS.out W1.drew B1.drew
    have hr2 : Cw W1.drew w.heap.size zeroS 35 := hr1
    refine wp_region_held (S := fun V => V.cell? ⟨db, 1, none⟩ = some (.slice (some ⟨g, off, none⟩) p cap) ∧ V.rangeAt g (off + m * 20) cs) (by kernel_rfl) ?_
    change wpAnyH _ _ _ _ _ _ _ _ (World.drew _)
    refine wpAnyH_take (i := 0) (v := .pointer (some ⟨db, 0, none⟩)) rfl (by kernel_rfl) (by kernel_rfl) (by kernel_rfl) (fun _ _ _ h => h) (Or.inl ⟨by kernel_rfl, by intro V _; go_simp⟩) S1 ?_
    refine wpAnyH_take (i := 1) (v := .pointer (some ⟨db, 0, none⟩)) rfl (by kernel_rfl) (by kernel_rfl) (by kernel_rfl) (fun _ _ _ h => h) (Or.inl ⟨by kernel_rfl, by intro V _; go_simp⟩) S1 ?_
    refine wpAnyH_take (i := 2) (v := .pointer (some ⟨db, 1, none⟩)) rfl (by kernel_rfl) (by kernel_rfl) (by kernel_rfl) (fun _ _ _ h => h) (Or.inl ⟨by kernel_rfl, by intro V _; go_simp⟩) S1 ?_
    refine wpAnyH_take (i := 3) (v := .slice (some ⟨g, off, none⟩) p cap) rfl (by kernel_rfl) (by kernel_rfl) (by kernel_rfl) (fun _ _ _ h => h) (Or.inl ⟨by kernel_rfl, by intro V hV; have y0 := hV.1; go_simp⟩) S1 ?_
    refine wpAnyH_take (i := 4) (v := .pointer (some ⟨db, 0, none⟩)) rfl (by kernel_rfl) (by kernel_rfl) (by kernel_rfl) (fun _ _ _ h => h) (Or.inl ⟨by kernel_rfl, by intro V _; go_simp⟩) S1 ?_
    refine wpAnyH_take (i := 5) (v := .pointer (some ⟨db, 0, none⟩)) rfl (by kernel_rfl) (by kernel_rfl) (by kernel_rfl) (fun _ _ _ h => h) (Or.inl ⟨by kernel_rfl, by intro V _; go_simp⟩) S1 ?_
    refine wpAnyH_take (i := 6) (v := .pointer (some ⟨db, 1, none⟩)) rfl (by kernel_rfl) (by kernel_rfl) (by kernel_rfl) (fun _ _ _ h => h) (Or.inl ⟨by kernel_rfl, by intro V _; go_simp⟩) S1 ?_
    refine wpAnyH_take (i := 7) (v := .slice (some ⟨g, off, none⟩) p cap) rfl (by kernel_rfl) (by kernel_rfl) (by kernel_rfl) (fun _ _ _ h => h) (Or.inl ⟨by kernel_rfl, by intro V hV; have y0 := hV.1; go_simp⟩) S1 ?_
    refine wpAnyH_take (i := 8) (v := .int .i64 (p : Int)) rfl (by kernel_rfl) (by kernel_rfl) (by kernel_rfl) (fun _ _ _ h => h) (Or.inl ⟨by kernel_rfl, by intro V _; go_simp⟩) S1 ?_
    refine wpAnyH_take (i := 9) (v := .int .i64 (m : Int)) rfl (by kernel_rfl) (by kernel_rfl) (by kernel_rfl) (fun _ _ _ h => h) (Or.inl ⟨by kernel_rfl, by intro V _; go_simp⟩) S1 ?_
    refine wpAnyH_take (i := 10) (v := .pointer (some ⟨g, off + m * 20, none⟩)) rfl (by kernel_rfl) (by kernel_rfl) (by kernel_rfl) (fun _ _ _ h => h) (Or.inl ⟨by kernel_rfl, by intro V _; go_simp⟩) S1 ?_
    refine wpAnyH_take (i := 11) (v := .agg cs.toArray) rfl (by kernel_rfl) (by kernel_rfl) (by kernel_rfl) (fun _ _ _ h => h) (yieldsIf_load_mid (by kernel_rfl) 35 (.tmp 21) rfl g (off + m * 20) (by kernel_rfl) cs _ (fun V h => h.2) Try.underlying35 rfl HN.out) S1 ?_
    refine wpAnyH_ready (rs := [12]) (by kernel_rfl) (by simp) ?_
    simp only [List.getElem_toArray, List.getElem_cons_zero, List.getElem_cons_succ, Act.put, List.setIfInBounds_toArray, List.set_cons_zero, List.set_cons_succ]
    refine AllReadyH.cons rfl (fun KK hK => ?_) AllReadyH.nil
    refine step_store_rw rfl 35 (.tmp 2) (.tmp 22) rfl w.heap.size zeroS cs 35 (by kernel_rfl) (by kernel_rfl) hr2 ZS HL2 HO2 ?_
    intro W3 hr3 O3
    have B3 := B1.drew.trans (O3.below (Nat.le_refl _))
    have S3 := HS.out W3 B3
    refine hK.out _ _ (by exact S3) (fun _ => ?_)
    clear hK KK
    refine wpAnyH_take (i := 13) (v := .bool true) rfl (by kernel_rfl) (by kernel_rfl) (by kernel_rfl) (fun _ _ _ h => h) (Or.inl ⟨by kernel_rfl, by intro V _; go_simp⟩) S3 ?_
    simp only [List.getElem_toArray, List.getElem_cons_zero, List.getElem_cons_succ, Act.put, List.setIfInBounds_toArray, List.set_cons_zero, List.set_cons_succ]
    refine wpAnyH_done (by kernel_rfl) ?_ _
    go_wp2_with fail
    refine ret_row2 rfl rfl rfl hr3 Try.underlying35 rfl HN ?_
    exact ⟨rfl, B3⟩
end Go.Proofs.Ytkchdkcdkeajkaa
