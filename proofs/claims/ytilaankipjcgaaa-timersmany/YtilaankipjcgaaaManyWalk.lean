/-
  TimersMany, walked.
-/
import Derived.Test.YtilaankipjcgaaaManyMap
import Derived.Test.YtilaankipjcgaaaRowKit
import Derived.StillTailTactics
namespace Go.Proofs.Ytilaankipjcgaaa
open Go.RowKit Go.Maps
/-- The timers and the law's map, side by side. -/
structure Mn (w wr : World) (sb mb : Nat) (s sm : List Pr) (F : Nat → Prop) : Prop where
  t : Tm wr F sb s
  m : Mp wr mb sm
  tl : ∀ k, F k → w.heap.size ≤ k ∧ k < wr.heap.size
  mf : ¬ F mb
  ml : w.heap.size ≤ mb
  b : Below w.heap.size w wr
variable {w wr w2 : World} {sb mb : Nat} {s s' sm : List Pr} {F : Nat → Prop}
theorem Mn.set (h : Mn w wr sb mb s sm F) (ht : Tm w2 (Pl F wr.heap.size) sb s') (hg : Grows F wr w2) : Mn w w2 sb mb s' sm (fun k => Pl F wr.heap.size k ∧ k < w2.heap.size) where
  t := ht.more fun k hk hl => ⟨hk, hl⟩
  m := h.m.keep (hg.block mb h.m.lt h.mf)
  tl := fun k hk => ⟨by rcases hk.1 with e | e; exact (h.tl k e).1; exact Nat.le_trans h.b.size e, hk.2⟩
  mf := fun hk => by
    rcases hk.1 with e | e
    · exact h.mf e
    · have := h.m.lt; omega
  ml := h.ml
  b := h.b.trans (hg.below h.b.size fun k hk => (h.tl k hk).1)
theorem Mn.upd (h : Mn w wr sb mb s sm F) (hm : Mp w2 mb s') (hg : wr.grownBy w2 (some mb)) : Mn w w2 sb mb s s' F where
  t := h.t.keep fun k hf hk => hg.block k hk fun e => h.mf (Option.some.inj e ▸ hf)
  m := hm
  tl := fun k hk => ⟨(h.tl k hk).1, Nat.lt_of_lt_of_le (h.tl k hk).2 hg.size⟩
  mf := h.mf
  ml := h.ml
  b := h.b.grown hg h.b.size fun k hk => by cases hk; exact h.ml
/-- What the first loop holds. -/
structure MnI (w wr : World) (sb mb : Nat) (wide : Int) (k : Nat) : Prop where
  i : ∃ s F, Mn w wr sb mb s s F ∧ s.length ≤ k ∧ ∀ p ∈ s, 0 ≤ p.2 ∧ p.2 < wide
open Go.ChangeShapes Go.WideShapes Go.ChangeAt in
theorem bits_in64 (op : BinOp) (x y : Int) : In64 (bits op .i64 x y) := wf_in64 (wf_bits _ _ _ _)
theorem tlen_zero {w : World} {F : Nat → Prop} {sb : Nat} (h : Tm w F sb []) : Calls Try.prog 18 #[.pointer (some ⟨sb, 0, none⟩)] w fun e w' => e = .returned (.int .i64 0) ∧ w' = w := tlen_any h
theorem takeWhile_all {f : Pr → Bool} : ∀ {s : List Pr}, (∀ p ∈ s, f p = true) → s.takeWhile f = s
  | [], _ => rfl
  | x :: r, h => by rw [List.takeWhile_cons, if_pos (h x List.mem_cons_self), takeWhile_all fun p hp => h p (List.mem_cons_of_mem _ hp)]
theorem dropWhile_all {f : Pr → Bool} : ∀ {s : List Pr}, (∀ p ∈ s, f p = true) → s.dropWhile f = []
  | [], _ => rfl
  | x :: r, h => by rw [List.dropWhile_cons, if_pos (h x List.mem_cons_self), dropWhile_all fun p hp => h p (List.mem_cons_of_mem _ hp)]
set_option maxRecDepth 20000 in
set_option maxHeartbeats 6400000 in
theorem many_walk (n step wide : Int) (w : World) : Calls Try.prog 4 #[.int .i64 n, .int .i64 step, .int .i64 wide] w fun e w' => e = .returned (.bool true) ∧ Below w.heap.size w w' := by
  by_cases b1 : n < 1
  · go_enter Try.func4, Try.ntmps4
    go_wp2_with (go_at_call 19; refine (known_any _).mono ?_; rintro e w1 ⟨rfl, hB⟩)
    go_ret
    exact ⟨rfl, hB⟩
  by_cases b2 : 600 < n
  · go_enter Try.func4, Try.ntmps4
    go_wp2_with (go_at_call 19; refine (known_any _).mono ?_; rintro e w1 ⟨rfl, hB⟩)
    go_ret
    exact ⟨rfl, hB⟩
  by_cases b3 : step < 1
  · go_enter Try.func4, Try.ntmps4
    go_wp2_with (go_at_call 19; refine (known_any _).mono ?_; rintro e w1 ⟨rfl, hB⟩)
    go_ret
    exact ⟨rfl, hB⟩
  by_cases b4 : 1048576 < step
  · go_enter Try.func4, Try.ntmps4
    go_wp2_with (go_at_call 19; refine (known_any _).mono ?_; rintro e w1 ⟨rfl, hB⟩)
    go_ret
    exact ⟨rfl, hB⟩
  by_cases b5 : wide < 1
  · go_enter Try.func4, Try.ntmps4
    go_wp2_with (go_at_call 19; refine (known_any _).mono ?_; rintro e w1 ⟨rfl, hB⟩)
    go_ret
    exact ⟨rfl, hB⟩
  by_cases b6 : 1000 < wide
  · go_enter Try.func4, Try.ntmps4
    go_wp2_with (go_at_call 19; refine (known_any _).mono ?_; rintro e w1 ⟨rfl, hB⟩)
    go_ret
    exact ⟨rfl, hB⟩
  obtain ⟨N, rfl⟩ : ∃ N : Nat, n = (N : Int) := ⟨n.toNat, by omega⟩
  obtain ⟨st, rfl⟩ : ∃ st : Nat, step = (st : Int) := ⟨step.toNat, by omega⟩
  have hmm := @run_makeMap Try.prog
  go_enter Try.func4, Try.ntmps4
  go_wp2_with (go_at_call 8; refine (new_any _).mono ?_; rintro e w1 ⟨rfl, h1, B1⟩)
  have hst : Hid (MnI w (w1.alloc (.map #[] 0)) w.heap.size w1.heap.size wide 0) := by
    have hs1 := B1.size
    have hA : Below w1.heap.size w1 (w1.alloc (.map #[] 0)) := (Below.refl _ _).alloc (Nat.le_refl _) _
    exact ⟨[], fun k => w.heap.size ≤ k ∧ k < w1.heap.size, ⟨(h1.more fun k hk hl => ⟨hk, hl⟩).keep fun k _ hk => hA.block k hk, Mp.new w1, fun k hk => ⟨hk.1, by simp; omega⟩, fun hk => by omega, hs1, B1.trans (hA.mono hs1)⟩, by simp, fun p hp => by cases hp⟩
  clear h1 B1 hmm
  go_loopw [9] (fun i wr => ∃ k : Nat, k ≤ N ∧ i = .int .i64 (k : Int) ∧ Hid (MnI w wr w.heap.size w1.heap.size wide k)) (fun i _ => N - (intOf i).toNat)
  case atStart => exact ⟨0, Nat.zero_le _, rfl, hst.out⟩
  case round =>
    clear hst
    obtain ⟨k, hk, rfl, HI⟩ := hrel
    by_cases hlt : k < N
    · have hks : 0 ≤ (k : Int) * (st : Int) := Int.mul_nonneg (by omega) (by omega)
      have hks2 : (k : Int) * (st : Int) ≤ 600 * 1048576 := Int.mul_le_mul (by omega) (by omega) (by omega) (by omega)
      have hmd : 0 ≤ (k : Int) * (st : Int) % wide := Int.emod_nonneg _ (by omega)
      have hmd2 : (k : Int) * (st : Int) % wide < wide := Int.emod_lt_of_pos _ (by omega)
      have hid : In64 (bits BinOp.and IntKind.i64 ((k : Int) * (st : Int)) 1023) := bits_in64 _ _ _
      obtain ⟨⟨s, F, hM, hsl, hdw⟩⟩ := HI.out
      obtain ⟨w3, hup, hm3, hg3⟩ := hM.m.put (by omega) hid ((k : Int) * (st : Int) % wide)
      have hM3 := hM.upd hm3 hg3
      have hgp := get_put hM.t.dis (bits BinOp.and IntKind.i64 ((k : Int) * (st : Int)) 1023) ((k : Int) * (st : Int) % wide)
      have hlk := hM3.m.look (put_dis hM.t.dis _ _) hid hgp
      have hcan : canS s (bits BinOp.and IntKind.i64 ((k : Int) * (st : Int)) 1023) = true := by
        simp only [canS, Bool.or_eq_true, decide_eq_true_eq]
        exact Or.inr (by omega)
      have HC := hid_into hcan
      have HS : Hid (setS s (bits BinOp.and IntKind.i64 ((k : Int) * (st : Int)) 1023) ((k : Int) * (st : Int) % wide) = put s (bits BinOp.and IntKind.i64 ((k : Int) * (st : Int)) 1023) ((k : Int) * (st : Int) % wide)) := by show _ = _; simp [setS, hcan]
      have HM3 := hid_into hM3
      have HDW : Hid (∀ p ∈ put s (bits BinOp.and IntKind.i64 ((k : Int) * (st : Int)) 1023) ((k : Int) * (st : Int) % wide), 0 ≤ p.2 ∧ p.2 < wide) := fun p hp => by
        rcases List.mem_cons.1 ((put_perm _ _ _).mem_iff.1 hp) with rfl | h1
        · exact ⟨hmd, hmd2⟩
        · exact hdw p (rm_mem.1 h1).1
      have HL : Hid ((put s (bits BinOp.and IntKind.i64 ((k : Int) * (st : Int)) 1023) ((k : Int) * (st : Int) % wide)).length ≤ k + 1) := by
        show _ ≤ _
        rw [(put_perm _ _ _).length_eq, List.length_cons]
        have : (rm s (bits BinOp.and IntKind.i64 ((k : Int) * (st : Int)) 1023)).length ≤ s.length := List.length_filter_le _ _
        omega
      have HID := hid_into hid
      have HD2 : Hid (In64 ((k : Int) * (st : Int) % wide)) := in64 _ (by omega) (by omega)
      clear HI hM hsl hdw hm3 hg3 hM3 hgp hcan hid hmd hmd2
      go_wp2_with (go_at_call 9; refine (set_any HM3.out.t _ _ HID.out HD2.out).mono ?_; rintro e w4 ⟨rfl, h4, hg4⟩; rw [HC.out]; rw [HS.out] at h4)
      go_roundw
      case rel => exact ⟨k + 1, by omega, by go_num, ⟨_, _, HM3.out.set h4 hg4, HL.out, HDW.out⟩⟩
      case measure => simp [intOf]; omega
    · obtain ⟨⟨s, F, hM, hsl, hdw⟩⟩ := HI.out
      have hlen := hM.m.len
      have hds : dues s wide = s.map (·.1) := by
        simp only [dues]
        rw [takeWhile_all (fun p hp => by have := hdw p hp; simp; omega)]
      have hrs : rest s wide = [] := by
        simp only [rest]
        rw [dropWhile_all (fun p hp => by have := hdw p hp; simp; omega)]
      have HM := hid_into hM
      have HD := hid_into hds
      have HR := hid_into hrs
      clear HI hM hdw hds hrs
      go_wp2_with (first
        | (go_at_call 18; first | (refine (tlen_any HM.out.t).mono ?_; rintro e w5 ⟨rfl, rfl⟩) | (refine (tlen_zero HT6.out).mono ?_; rintro e w5 ⟨rfl, rfl⟩))
        | (go_at_call 14; refine (due_any HM.out.t wide fun k hk => (HM.out.tl k hk).2).mono ?_; rintro e w6 ⟨v6, rfl, hi6, ho6, h6, hg6⟩; rw [HD.out] at hi6; rw [HR.out] at h6; have HT6 := hid_into h6; obtain ⟨ao6, cap6, hv6⟩ := hi6.form; subst hv6; have HM6 := hid_into (HM.out.m.keep (w' := w6) (hg6.block _ HM.out.m.lt HM.out.mf)); have hlen6 := HM6.out.len; replace hi6 := hid_into hi6; replace hg6 := hid_into hg6; replace ho6 := hid_into ho6; simp only [List.length_map]))
      have HB5 : Hid (Below w.heap.size w w5) := HM.out.b.trans (hg6.out.below HM.out.b.size fun k hk => (HM.out.tl k hk).1)
      have HDi := hid_into HM.out.t.dis
      have HSr := hid_into HM.out.t.srt
      have HRn := hid_into HM.out.t.rng
      clear h6 HT6 hlen hlen6 HM hg6 ho6 HD HR
      go_loopw [12] (fun i wr => ∃ k : Nat, 1 ≤ k ∧ (k ≤ s.length ∨ k = 1) ∧ i = .int .i64 (k : Int) ∧ Hid (Sm w5 wr)) (fun i _ => s.length + 1 - (intOf i).toNat)
      case atStart => exact ⟨1, Nat.le_refl _, Or.inr rfl, rfl, Sm.refl _⟩
      case round =>
        obtain ⟨k2, hk1, hk2, rfl, HSm⟩ := hrel
        by_cases hlt2 : k2 < s.length
        · obtain ⟨k3, hk3⟩ : ∃ k3, k2 = k3 + 1 := ⟨k2 - 1, by omega⟩
          obtain ⟨p, hp⟩ : ∃ p, s[k3]? = some p := ⟨_, List.getElem?_eq_getElem (by omega)⟩
          obtain ⟨q, hq⟩ : ∃ q, s[k2]? = some q := ⟨_, List.getElem?_eq_getElem hlt2⟩
          have hbef : bef p q := by
            have h1 := List.pairwise_iff_getElem.1 HSr.out k3 k2 (by omega) hlt2 (by omega)
            rw [(List.getElem?_eq_some_iff.1 hp).2, (List.getElem?_eq_some_iff.1 hq).2] at h1
            exact h1
          have hI : Ir wr (.slice ao6 (s.map (·.1)).length cap6) (s.map (·.1)) := hi6.out.keep fun k _ => by rw [HSm.out.heap]
          have hIs := hI.is (by simp; omega)
          rcases hIs with ⟨e0, _⟩ | ⟨_, _, g, off, cap7, hv7, hcell⟩
          · have := congrArg List.length e0
            rw [List.length_map, List.length_nil] at this
            omega
          simp only [Value.slice.injEq] at hv7
          obtain ⟨rfl, -, rfl⟩ := hv7
          have y1 := hcell k3 (by simp; omega)
          have y2 := hcell k2 (by simp; omega)
          simp only [List.getD, List.getElem?_map, hp, hq, Option.map_some, Option.getD_some] at y1 y2
          have hMr : Mp wr.drew w1.heap.size s := HM6.out.keep (by show wr.heap[_]? = _; rw [HSm.out.heap])
          have l1 := hMr.look HDi.out (HRn.out p (List.mem_of_getElem? hp)).1 (get_of_mem HDi.out (List.mem_of_getElem? hp))
          have l2 := hMr.look HDi.out (HRn.out q (List.mem_of_getElem? hq)).1 (get_of_mem HDi.out (List.mem_of_getElem? hq))
          have hsl6 : s.length ≤ 600 := by omega
          have hw1 : IntKind.i64.wrap ((k2 : Int) - 1) = (k3 : Int) := by rw [IntKind.wrap_i64]; omega
          have hw2 : wrap64 ((k2 : Int) - 1) = (k3 : Int) := by simp only [wrap64]; omega
          have hk3l : k3 < s.length := by omega
          have HK3 := hid_into hk3
          clear hk3
          clear hI hcell hMr hp hq
          go_wp2_with fail
          refine wp_region_still_lit (by kernel_rfl) (by kernel_rfl) ?_
          change wpStill _ _ (World.drew _) _ _ _
          repeat still_step
          refine wpStill_nil ?_
          change Exit.then _ _ _ _ (World.drew _)
          rcases hbef with hb | ⟨hb1, hb2⟩
          · have d1 : decide (q.2 < p.2) = false := by simp; omega
            have d2 : (p.2 == q.2) = false := by simp; omega
            go_wp2_with fail
            go_quiet (fail)
            go_wp2_with fail
            go_roundw
            case rel => exact ⟨k2 + 1, by omega, Or.inl (by omega), by go_num, HSm.out.trans (Sm.drewN _ _)⟩
            case measure => simp [intOf]; omega
          · have d1 : decide (q.2 < p.2) = false := by simp; omega
            have d2 : (p.2 == q.2) = true := by simp [hb1]
            have d3 : decide (q.1 ≤ p.1) = false := by simp; omega
            clear hb1
            go_wp2_with fail
            go_quiet (fail)
            go_wp2_with fail
            go_roundw
            case rel => exact ⟨k2 + 1, by omega, Or.inl (by omega), by go_num, HSm.out.trans (Sm.drewN _ _)⟩
            case measure => simp [intOf]; omega
        · go_wp2_with (go_at_call 19; refine (known_any _).mono ?_; rintro e w8 ⟨rfl, hB8⟩)
          go_ret
          have := HB5.out.trans (HSm.out.below _)
          exact ⟨rfl, this.trans (hB8.mono this.size)⟩
end Go.Proofs.Ytilaankipjcgaaa
