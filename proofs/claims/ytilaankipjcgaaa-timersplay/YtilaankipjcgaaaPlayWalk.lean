/-
  TimersPlay, walked.
-/
import Derived.Test.YtilaankipjcgaaaPlayT
import Derived.Deep.DeepCutAuto
import Derived.Deep.CutBlock
namespace Go.Proofs.Ytilaankipjcgaaa
open Go.RowKit Go.Maps
theorem dues_len {w : World} {F : Nat → Prop} {sb : Nat} {s : List Pr} (h : Tm w F sb s) (now : Int) : (dues s now).length ≤ 9223372036854775807 := by
  have h1 := h.len
  have h2 : (dues s now).length ≤ s.length := by
    simp only [dues, List.length_map]
    exact (List.takeWhile_sublist _).length_le
  omega
set_option maxRecDepth 20000 in
set_option maxHeartbeats 6400000 in
theorem play_walk (v : Value) (ss : List Sp) (w : World) (h : Sts w v ss) : Calls Try.prog 3 #[v] w fun e w' => e = .returned (.bool true) ∧ Below w.heap.size w w' := by
  obtain ⟨ao, cap, rfl, hl, hok, hc⟩ := h
  have HOK := hid_into hok
  have HC := hid_into hc
  clear hok hc
  go_enter Try.func3, Try.ntmps3
  go_wp2_with (go_at_call 8; refine (new_any _).mono ?_; rintro e w1 ⟨rfl, h1, B1⟩)
  have hst : Hid (Same w (w1.alloc (.cells #[.slice none 0 0] 28)) w.heap.size w1.heap.size) := by
    have hs1 := B1.size
    have hA : Below w1.heap.size w1 (w1.alloc (.cells #[.slice none 0 0] 28)) := (Below.refl _ _).alloc (Nat.le_refl _) _
    refine ⟨[], fun k => w.heap.size ≤ k ∧ k < w1.heap.size, fun k => k = w1.heap.size, ⟨(h1.more fun k hk hl => ⟨hk, hl⟩).keep fun k _ hk => hA.block k hk, ⟨.slice none 0 0, [], Cw.new w1 [_] 28, World.ownsRow_nil _ _ _ _, by simp, List.Perm.refl _, List.Pairwise.nil, List.Pairwise.nil, rfl, fun k hk => (by cases hk)⟩, fun k hk => ⟨hk.1, by simp; omega⟩, fun k hk => ⟨by omega, by simp; omega⟩, fun k hk e => by omega, B1.trans (hA.mono hs1)⟩⟩
  clear h1 B1
  go_loopw [5] (fun i wr => ∃ k : Nat, k ≤ ss.length ∧ i = .int .i64 (k : Int) ∧ Hid (Same w wr w.heap.size w1.heap.size)) (fun i _ => ss.length - (intOf i).toNat)
  case atStart => exact ⟨0, Nat.zero_le _, rfl, hst.out⟩
  case round =>
    clear hst
    obtain ⟨k, hk, rfl, HS⟩ := hrel
    by_cases hlt : k < ss.length
    · by_cases h300 : k < 300
      · obtain ⟨x, hx⟩ : ∃ x, ss[k]? = some x := ⟨_, List.getElem?_eq_getElem hlt⟩
        obtain ⟨b, off, hao, hcell⟩ := HC.out (fun e => by rw [e] at hlt; simp at hlt)
        subst hao
        obtain ⟨s, Ft, Fr, T⟩ := HS.out
        have hB := T.b
        obtain ⟨x0, x1, x2⟩ := hcell k x hx
        have hlb := World.block_lt_of_cell? w _ x0
        simp only at hlb
        rw [← hB.cell (p := ⟨b, off + k * 3, none⟩) hlb] at x0
        rw [← hB.cell (p := ⟨b, off + k * 3 + 1, none⟩) hlb] at x1
        rw [← hB.cell (p := ⟨b, off + k * 3 + 2, none⟩) hlb] at x2
        obtain ⟨hxi, hxa⟩ := HOK.out x (List.mem_of_getElem? hx)
        have HT := hid_into T
        clear hcell hx hB T HS hlb
        have hA : Below wr.heap.size wr (wr.alloc (.cells #[.int .i64 x.k, .int .i64 x.i, .int .i64 x.a] 30)) := (Below.refl _ _).alloc (Nat.le_refl _) _
        have hX : Cw (wr.alloc (.cells #[.int .i64 x.k, .int .i64 x.i, .int .i64 x.a] 30)) wr.heap.size [.int .i64 x.k, .int .i64 x.i, .int .i64 x.a] 30 := Cw.new wr _ _
        have hT := HT.out.other hA
        have hfr := HT.out.free
        have c1 := hX.cell 1
        have c2 := hX.cell 2
        simp only [List.getElem?_cons_succ, List.getElem?_cons_zero] at c1 c2
        replace hT := hid_into hT
        replace hX := hid_into hX
        have HF := hid_into hfr
        clear hA hfr
        go_upto_block 2 with fail
        go_cut [7] (fun ok wx => ok = .bool true ∧ Hid (Same w wx w.heap.size w1.heap.size))
        case first =>
          have hTd := hid_into (hT.out.other ((Below.refl _ _).drew))
          by_cases k1 : x.k = 1
          · have e1 : (x.k == 1) = true := by simp [k1]
            clear k1
            go_wp2_with fail
            go_region_held3 (fun W => W.cell? ⟨wr.heap.size, 1, none⟩ = some (.int .i64 x.i) ∧ W.cell? ⟨wr.heap.size, 2, none⟩ = some (.int .i64 x.a)) (first | exact ⟨c1, c2⟩ | assumption)
              (first
                | (go_at_call 9; refine (set_any hTd.out.t _ _ hxi hxa).mono ?_; rintro e w3 ⟨rfl, h3, hg3⟩; have ht3 := And.intro (cell_grows hg3 (by exact c1) HF.out.1) (cell_grows hg3 (by exact c2) HF.out.1); have hT3 := hid_into (hTd.out.tdone h3 hg3))
                | (go_at_call 10; refine (rset_any hT3.out.r _ _).mono ?_; rintro e w4 ⟨rfl, h4, hg4⟩; have ht4 := And.intro (cell_grows hg4 ht3.1 HF.out.2) (cell_grows hg4 ht3.2 HF.out.2); have hT4 := hid_into (hT3.out.rdone h4 hg4)))
            go_wp2_with fail
            go_meet
            exact ⟨by simp, ⟨_, _, _, hT4.out⟩⟩
          have f1 : (x.k == 1) = false := by simp [k1]
          clear k1
          by_cases k2 : x.k = 2
          · have e2 : (x.k == 2) = true := by simp [k2]
            clear k2
            cases hg : get s x.i with
            | none =>
              have HG := hid_into hg
              clear hg
              go_wp2_with (first
                | (go_at_call 11; refine (cancel_none hT.out.t _ hxi HG.out).mono ?_; rintro e w3 ⟨rfl, rfl⟩)
                | (go_at_call 12; refine (rcancel_none hT.out.r _ HG.out).mono ?_; rintro e w4 ⟨rfl, rfl⟩))
              go_meet
              exact ⟨rfl, ⟨_, _, _, hT.out⟩⟩
            | some d =>
              have HG := hid_into hg
              clear hg
              go_wp2_with (first
                | (go_at_call 11; refine (cancel_some hT.out.t _ d hxi HG.out).mono ?_; rintro e w3 ⟨rfl, h3, hg3⟩; have ht3 := cell_grows hg3 (by exact c1) HF.out.1; have hT3 := hid_into (hT.out.tdone (h3.more fun k hk _ => Or.inl hk) hg3))
                | (go_at_call 12; refine (rcancel_some hT3.out.r _ d HG.out).mono ?_; rintro e w4 ⟨rfl, h4, hg4⟩; have hT4 := hid_into (hT3.out.rdone h4 hg4)))
              go_meet
              exact ⟨by simp, ⟨_, _, _, hT4.out⟩⟩
          have f2 : (x.k == 2) = false := by simp [k2]
          clear k2
          by_cases k3 : x.k = 3
          · have e3 : (x.k == 3) = true := by simp [k3]
            clear k3
            go_wp2_with fail
            go_region_held3 (fun W => W.cell? ⟨wr.heap.size, 2, none⟩ = some (.int .i64 x.a)) (first | exact ⟨c2⟩ | exact c2 | assumption)
              (first
                | (go_at_call 14; refine (due_any hTd.out.t _ fun k hk => (hTd.out.tl k hk).2).mono ?_; rintro e w3 ⟨v3, rfl, hi3, ho3, h3, hg3⟩; have ht3 := cell_grows hg3 (by exact c2) HF.out.1; have hT3 := hid_into (hTd.out.tdone (h3.more fun k hk _ => Or.inl hk) hg3))
                | (go_at_call 15; refine (rdue_any hT3.out.r _ fun k hk => (hT3.out.rl k hk).2).mono ?_; rintro e w4 ⟨v4, rfl, hi4, ho4, h4, hg4⟩; have ht4 := cell_grows hg4 ht3 HF.out.2; have hT4 := hid_into (hT3.out.rdone h4 hg4); have hi34 := hi3.keep (w' := w4) fun k hk => hg4.block k (hi3.lt hk) fun e => absurd (ho3 k hk) (Nat.not_le.2 (hTd.out.rl k e).2))
                | (go_at_call 13; refine (ints_any _ _ _ _ _ (hi34.is (dues_len hTd.out.t _)) (hi4.is (dues_len hTd.out.t _))).mono ?_; rintro e w5 ⟨rfl, sm5⟩; rw [eqB_true rfl]; have ht5 : w5.cell? ⟨wr.heap.size, 2, none⟩ = some (.int .i64 x.a) := (by rw [World.cell?_of_block (w := w4) (by rw [sm5.heap])]; exact ht4); have hT5 := hid_into (hT4.out.other (sm5.below _))))
            go_wp2_with fail
            go_meet
            exact ⟨rfl, ⟨_, _, _, hT5.out⟩⟩
          have f3 : (x.k == 3) = false := by simp [k3]
          clear k3
          go_wp2_with fail
          go_meet
          exact ⟨rfl, ⟨_, _, _, hT.out⟩⟩
        case rest =>
          clear c1 c2 hT hX HF x0 x1 x2 HT
          rename World => wc
          obtain ⟨rfl, HS2⟩ := hcut
          obtain ⟨s2, F2, G2, T2⟩ := HS2.out
          clear HS2
          rcases s2 with _ | ⟨p, r⟩
          · have HT2 := hid_into T2
            clear T2
            go_wp2_with (first
              | (go_at_call 16; refine (next_nil HT2.out.t).mono ?_; rintro e w3 ⟨rfl, sm3⟩; have HT3 := hid_into (HT2.out.other (sm3.below _)); clear sm3)
              | (go_at_call 17; refine (rnext_nil HT3.out.r).mono ?_; rintro e w4 ⟨rfl, B4⟩; have HT4 := hid_into (HT3.out.other B4); clear B4))
            obtain ⟨v5, L5, hR5⟩ := HT4.out.r
            obtain ⟨ao5, cap5, hv5⟩ := hR5.slot
            have c5 := hR5.cell
            rw [hv5, hR5.perm.length_eq] at c5
            have CL := fun (W : World) (hs : Sm w4 W) => tlen_any (HT4.out.t.keep (w' := W) fun k _ _ => by rw [hs.heap])
            clear hR5 hv5
            go_quiet ((go_at_call 18; refine Calls.quiet_of_same ((CL _ (Sm.drewN _ _)).mono fun _ _ h => ⟨h.1, h.2⟩)))
            go_wp2_with fail
            go_roundw
            case rel => exact ⟨k + 1, by omega, by go_num, ⟨_, _, _, HT4.out.other ((Sm.drewN _ _).below _)⟩⟩
            case measure => simp [intOf]; omega
          · have HT2 := hid_into T2
            clear T2
            go_wp2_with (first
              | (go_at_call 16; refine (next_cons HT2.out.t).mono ?_; rintro e w3 ⟨rfl, sm3⟩; have HT3 := hid_into (HT2.out.other (sm3.below _)); clear sm3)
              | (go_at_call 17; refine (rnext_cons HT3.out.r).mono ?_; rintro e w4 ⟨rfl, B4⟩; have HT4 := hid_into (HT3.out.other B4); clear B4))
            obtain ⟨v5, L5, hR5⟩ := HT4.out.r
            obtain ⟨ao5, cap5, hv5⟩ := hR5.slot
            have c5 := hR5.cell
            rw [hv5, hR5.perm.length_eq] at c5
            have CL := fun (W : World) (hs : Sm w4 W) => tlen_any (HT4.out.t.keep (w' := W) fun k _ _ => by rw [hs.heap])
            clear hR5 hv5
            go_quiet ((go_at_call 18; refine Calls.quiet_of_same ((CL _ (Sm.drewN _ _)).mono fun _ _ h => ⟨h.1, h.2⟩)))
            go_wp2_with fail
            go_roundw
            case rel => exact ⟨k + 1, by omega, by go_num, ⟨_, _, _, HT4.out.other ((Sm.drewN _ _).below _)⟩⟩
            case measure => simp [intOf]; omega
      · have hge : ¬ k < 300 := h300
        obtain ⟨s, Ft, Fr, T⟩ := HS.out
        have HB := hid_into T.b
        clear HS T
        go_wp2_with (go_at_call 19; refine (known_any _).mono ?_; rintro e w6 ⟨rfl, hB⟩)
        go_ret
        exact ⟨rfl, HB.out.trans (hB.mono HB.out.size)⟩
    · obtain ⟨s, Ft, Fr, T⟩ := HS.out
      have HB := hid_into T.b
      clear HS T
      go_wp2_with (go_at_call 19; refine (known_any _).mono ?_; rintro e w6 ⟨rfl, hB⟩)
      go_ret
      exact ⟨rfl, HB.out.trans (hB.mono HB.out.size)⟩
end Go.Proofs.Ytilaankipjcgaaa
