/-
  DiskPlays: the law, walked.
-/
import Derived.Test.YthkgmnmdojmfgaaPlayH
namespace Go.Proofs.Ythkgmnmdojmfgaa
open Go.RowKit Go.Maps Go.Sort

/-- What is held between two steps. -/
structure Lp (W wr : World) (sb wb : Nat) : Prop where
  t : ∃ F G u, T2 wr F G sb wb u u ∧ (∀ k, F k → W.heap.size ≤ k) ∧ ∀ k, G k → W.heap.size ≤ k
  b : Below W.heap.size W wr
/-- The elder disk is written to, and crashed: the copies stand. -/
structure Oc (W w : World) (sb cb qb : Nat) (uc : Ud) (Fo Fn Gn : Nat → Prop) : Prop where
  o : ∃ u, Pd w Fo sb u
  t : T2 w Fn Gn cb qb uc uc
  o0 : ∀ k, Fo k → W.heap.size ≤ k
  ol : ∀ k, Fo k → k < w.heap.size
  n0 : ∀ k, Fn k → W.heap.size ≤ k
  m0 : ∀ k, Gn k → W.heap.size ≤ k
  ap : ∀ k, Fo k → ¬ Fn k ∧ ¬ Gn k
  b : Below W.heap.size W w
theorem Oc.step {W w w' : World} {sb cb qb : Nat} {uc u' : Ud} {Fo Fn Gn : Nat → Prop} (h : Oc W w sb cb qb uc Fo Fn Gn) (hr : PRes Fo sb u' w w') : ∃ Fo', Oc W w' sb cb qb uc Fo' Fn Gn := by
  obtain ⟨hp, hg⟩ := hr
  refine ⟨fun k => Pl Fo w.heap.size k ∧ k < w'.heap.size, ⟨u', hp.more fun k hk hl => ⟨hk, hl⟩⟩, h.t.keep hg.size fun k hk => hg.block k (by rcases hk with hk | hk; exact h.t.fl k hk; exact h.t.gl k hk) (fun e => by rcases hk with hk | hk; exact (h.ap k e).1 hk; exact (h.ap k e).2 hk), fun k hk => ?_, fun k hk => hk.2, h.n0, h.m0, fun k hk => ?_, h.b.trans (hg.below h.b.size h.o0)⟩
  · rcases hk.1 with e | e
    · exact h.o0 k e
    · exact Nat.le_trans h.b.size e
  · rcases hk.1 with e | e
    · exact h.ap k e
    · exact ⟨fun e2 => by have := h.t.fl k e2; omega, fun e2 => by have := h.t.gl k e2; omega⟩
theorem Oc.to {W w w' : World} {sb cb qb : Nat} {uc : Ud} {Fo Fn Gn : Nat → Prop} (h : Oc W w sb cb qb uc Fo Fn Gn) (hb : Below w.heap.size w w') : Oc W w' sb cb qb uc Fo Fn Gn := by
  obtain ⟨u, ho⟩ := h.o
  exact ⟨⟨u, ho.to hb⟩, h.t.to hb, h.o0, fun k hk => Nat.lt_of_lt_of_le (h.ol k hk) hb.size, h.n0, h.m0, h.ap, h.b.trans (hb.mono h.b.size)⟩
theorem Oc.start {W wr w4 w5 : World} {sb : Nat} {F : Nat → Prop} {u uc : Ud} (hF0 : ∀ k, F k → W.heap.size ≤ k) (hfl : ∀ k, F k → k < wr.heap.size) (ho : Pd w5 F sb u) (hP : Pd w5 (fun k => wr.heap.size ≤ k ∧ k < w4.heap.size) wr.heap.size uc) (hQ : Qd w5 (fun k => w4.heap.size ≤ k) w4.heap.size uc) (hBr : Below W.heap.size W wr) (hB4 : Below wr.heap.size wr w4) (hB5 : Below w4.heap.size w4 w5) :
    Oc W w5 sb wr.heap.size w4.heap.size uc F (fun k => wr.heap.size ≤ k ∧ k < w4.heap.size) (fun k => w4.heap.size ≤ k ∧ k < w5.heap.size) := by
  have s1 := hBr.size
  have s2 := hB4.size
  have s3 := hB5.size
  exact ⟨⟨u, ho⟩, ⟨hP, hQ.more fun k hk hl => ⟨hk, hl⟩, fun k hk => Nat.lt_of_lt_of_le hk.2 s3, fun k hk => hk.2, fun k hk hk' => by omega⟩, hF0, fun k hk => by have := hfl k hk; omega, fun k hk => by omega, fun k hk => by omega, fun k hk => ⟨fun e => by have := hfl k hk; omega, fun e => by have := hfl k hk; omega⟩, (hBr.trans (hB4.mono s1)).trans (hB5.mono (Nat.le_trans s1 s2))⟩
theorem Oc.lp {W w : World} {sb cb qb : Nat} {uc : Ud} {Fo Fn Gn : Nat → Prop} (h : Oc W w sb cb qb uc Fo Fn Gn) : Lp W w cb qb := ⟨⟨Fn, Gn, uc, h.t, h.n0, h.m0⟩, h.b⟩
set_option maxHeartbeats 6400000 in
set_option maxRecDepth 20000 in
theorem plays_walk (room : Int) (c : Value) (ss : List Sp) (W : World) (h : Sts W c ss) :
    Calls Try.prog 3 #[.int .i64 room, c] W fun e w' => e = .returned (.bool true) ∧ Below W.heap.size W w' := by
  have CH := heavy_any c ss W h
  obtain ⟨ao, cap, rfl, hl, hok, hc⟩ := h
  have kc := fun (w : World) (C : Array Value) (n c : Nat) => Lib.run_convert_bytes_const (P := Try.prog) w 32 5 C n c Try.underlying32 Try.underlying5
  go_enter Try.func3, Try.ntmps3
  go_wp2_with fail
  refine CH.mono ?_
  rintro e w1 ⟨hv, hs1⟩
  rcases hv with rfl | ⟨rfl, hsm⟩
  · go_wp2_with (go_at_call 10; refine (known_any _).mono ?_; rintro e w2 ⟨rfl, hB2⟩)
    go_ret
    exact ⟨rfl, (hs1.below _).trans (hB2.mono (Nat.le_of_eq hs1.size.symm))⟩
  · by_cases hroom : room < 0 ∨ 1073741824 < room
    · go_wp2_with (first
        | (go_at_call 11; refine (New_bad room _ hroom).mono ?_; rintro e w2 ⟨rfl, hw2⟩; replace hw2 := hw2.symm; subst hw2)
        | (go_at_call 12; refine (new3_bad room _ hroom).mono ?_; rintro e w3 ⟨rfl, hw3⟩; subst hw3)
        | (go_at_call 10; refine (known_any _).mono ?_; rintro e w4 ⟨rfl, hB2⟩))
      go_ret
      exact ⟨rfl, (hs1.below _).trans (hB2.mono (Nat.le_of_eq hs1.size.symm))⟩
    · have hrm : 0 ≤ room ∧ room ≤ 1073741824 := by omega
      have HSM := hid_into hsm
      have HOK := hid_into hok
      have HC := hid_into hc
      clear hsm hok hc hroom CH
      go_wp2_with (first
        | (go_at_call 11; refine (pNew room _ hrm).mono ?_; rintro e w2 ⟨rfl, hP2, hB2⟩)
        | (go_at_call 12; refine (qNew room _ hrm).mono ?_; rintro e w3 ⟨rfl, hQ3, hB3⟩))
      have hw1 : w1.heap.size = W.heap.size := hs1.size
      have hstart : Lp W w3 w1.heap.size w2.heap.size := by
        have hl2 := hB2.size
        have hP3 := hP2.to hB3
        have hlt2 : w1.heap.size < w2.heap.size := by
          obtain ⟨mb, fs, lit, lf, hd, _⟩ := hP2
          exact hd.cells.lt
        have hlt3 : w2.heap.size < w3.heap.size := by
          obtain ⟨v, L, hr, _⟩ := hQ3
          exact hr.lt
        refine ⟨⟨_, _, _, ⟨hP3, hQ3, fun k hk => by rw [hk]; omega, fun k hk => by rw [hk]; exact hlt3, fun k hk hk' => by omega⟩, fun k hk => by rw [hk, hw1]; exact Nat.le_refl _, fun k hk => by rw [hk]; omega⟩, ?_⟩
        exact (hs1.below _).trans ((hB2.trans (hB3.mono hl2)).mono (Nat.le_of_eq hw1.symm))
      have HST := hid_into hstart
      clear hstart hP2 hB2 hQ3 hB3 hs1 hw1 hrm
      generalize w1.heap.size = sb0 at *
      generalize w2.heap.size = wb0 at *
      go_wp2_with fail
      go_loopw [5, 7, 9, 10] (fun dv wv iv _ wr => ∃ i sb wb : Nat, i ≤ ss.length ∧ i ≤ 120 ∧ dv = .pointer (some ⟨sb, 0, none⟩) ∧ wv = .pointer (some ⟨wb, 0, none⟩) ∧ iv = .int .i64 (i : Int) ∧ Lp W wr sb wb) (fun _ _ iv _ _ => ss.length - (intOf iv).toNat)
      case atStart => exact ⟨0, sb0, wb0, Nat.zero_le _, Nat.zero_le _, rfl, rfl, rfl, HST.out⟩
      case round =>
        clear HST
        obtain ⟨i, sb, wb, hi, hi2, rfl, rfl, rfl, hL⟩ := hrel
        by_cases hlt : i < ss.length ∧ i < 120
        · obtain ⟨s, hsk⟩ : ∃ s, ss[i]? = some s := ⟨_, List.getElem?_eq_getElem hlt.1⟩
          have hne : ss ≠ [] := fun e => by rw [e] at hlt; simp at hlt
          obtain ⟨b, off, rfl, hcell⟩ := HC.out hne
          have hso := HOK.out s (List.mem_of_getElem? hsk)
          have hzl : s.zs.length ≤ 100000 := by have := HSM.out i s hlt.2 hsk; omega
          obtain ⟨⟨F, G, u, hT, hF0, hG0⟩, hBr⟩ := hL
          have hbW : ∀ j v, s.cells[j]? = some v → b < W.heap.size := fun j v hv => World.block_lt_of_cell? W _ (hcell i s hsk j v hv)
          have e0 := cell_below hBr (hcell i s hsk 0 _ rfl) (hbW 0 _ rfl)
          have e1 := cell_below hBr (hcell i s hsk 1 _ rfl) (hbW 1 _ rfl)
          have e2 := cell_below hBr (hcell i s hsk 2 _ rfl) (hbW 2 _ rfl)
          have e3 := cell_below hBr (hcell i s hsk 3 _ rfl) (hbW 3 _ rfl)
          have e4 := cell_below hBr (hcell i s hsk 4 _ rfl) (hbW 4 _ rfl)
          have e5 := cell_below hBr (hcell i s hsk 5 _ rfl) (hbW 5 _ rfl)
          obtain ⟨av, cv, hsv, _⟩ := hso.bs.len
          have f1 : (0 : Int) ≤ (i : Int) := by omega
          have f2 : (i : Int) < (ss.length : Int) := by omega
          have f3 : (i : Int) < 120 := by omega
          simp only [Nat.add_zero] at e0
          by_cases hk8 : s.k = 8
          · rw [hk8] at e0
            have hg := hT.p.good
            have CP := pCopy hT.p
            have CQ := fun (W1 : World) (hW : Qd W1 G wb u) => qCopy hW hg
            clear hcell e1 e2 e3 e4 e5 hso hsv hzl
            go_wp2_with (first
              | (go_at_call 13; refine CP.mono ?_; rintro e w4 ⟨rfl, hP4, hB4⟩; have hT4 := hT.to hB4)
              | (go_at_call 14; refine (CQ _ hT4.q).mono ?_; rintro e w5 ⟨rfl, hQ5, hB5⟩; have hO5 := Oc.start hF0 hT.fl (hT4.to hB5).p (hP4.more (G := fun k => wr.heap.size ≤ k ∧ k < w4.heap.size) (fun k hk hl => ⟨hk, hl⟩) |>.to hB5) hQ5 hBr hB4 hB5; skip)
              | fail)
            have hB6 : Below w5.heap.size w5 (w5.alloc (.cells #[.int .u8 120] 5 (1, 2))) := (Below.refl _ _).alloc (Nat.le_refl _) _
            have hO6 := hO5.to hB6
            have hbx : Bs (w5.alloc (.cells #[.int .u8 120] 5 (1, 2))) (.slice (some ⟨w5.heap.size, 0, none⟩) 1 1) [120] := Bs_of_block (zs := [120]) (heap_alloc_new w5 _) (by decide)
            obtain ⟨uo, hPo⟩ := hO6.o
            have C6 := pWrite hPo [115, 112, 111, 105, 108, 116] (by decide) (some ⟨w5.heap.size, 0, none⟩) 1 [120] hbx (fun z hz => by simp at hz; omega)
            have HO6 := hid_into hO6
            clear hO5 hO6 hPo hQ5 hP4 hT4 CP CQ
            refine C6.mono ?_
            rintro e w7 ⟨rfl, hr7⟩
            obtain ⟨Fo7, hO7⟩ := HO6.out.step hr7
            obtain ⟨u7, hP7⟩ := hO7.o
            have C7 := pCrash hP7 0 1 (by decide) (by decide)
            have HO7 := hid_into hO7
            clear HO6 hr7 hO7 hP7 C6
            go_wp2_with (go_at_call 16; refine C7.mono ?_; rintro e w8 ⟨rfl, hr8⟩)
            obtain ⟨Fo8, hO8⟩ := HO7.out.step hr8
            have HL8 := hid_into hO8.lp
            clear hO8 HO7 hr8
            go_roundw
            case rel => exact ⟨i + 1, _, _, by omega, by omega, rfl, rfl, by go_num, HL8.out⟩
            case measure => simp [intOf]; omega
          · have k8 : (s.k == 8) = false := by simpa using hk8
            have hsr : s.ok wr := ⟨hso.bs.below hBr (Nat.le_refl _), hso.by8, hso.len, hso.n, hso.a, hso.t, hso.x⟩
            have hvW : s.zs ≠ [] → ∀ k, s.v.ownBlock = some k → k < W.heap.size := fun hne k hk => by
              rcases hso.bs with ⟨e, _⟩ | ⟨_, b', off', c', e, h1, _, h3⟩
              · exact absurd e hne
              · rw [e] at hk
                have hkb : b' = k := by simpa [Value.ownBlock] using hk
                rw [← hkb]
                exact World.block_lt_of_cell? W _ (h3 0 (List.length_pos_iff.2 hne))
            have hsf : s.zs ≠ [] → ∀ k, s.v.ownBlock = some k → ¬ F k ∧ ¬ G k := fun hne k hk => by
              have h1 := hvW hne k hk
              exact ⟨fun e => by have := hF0 k e; omega, fun e => by have := hG0 k e; omega⟩
            have CD := does_any hT s hsr hsf hzl
            rw [hsv] at CD
            have e4' := e4
            rw [hsv] at e4'
            have HF0 := hid_into hF0
            have HG0 := hid_into hG0
            clear e4 hvW hsf hcell hso hsr hF0 hG0
            go_wp2_with (first
              | (go_at_call 17; refine CD.mono ?_; rintro e w4 ⟨rfl, F', G', u', hT4, hF4, hG4, hg4⟩)
              | (go_at_call 18; refine (stood_any hT4).mono ?_; rintro e w5 ⟨rfl, hB5⟩))
            have hL' : Lp W w5 sb wb := by
              have hb4 : Below W.heap.size W w4 := hBr.trans (hg4.below hBr.size fun k hk => by
                rcases hk with hk | hk
                · exact HF0.out k hk
                · exact HG0.out k hk)
              refine ⟨⟨F', G', u', hT4.to hB5, fun k hk => ?_, fun k hk => ?_⟩, hb4.trans (hB5.mono hb4.size)⟩
              · rcases hF4 k hk with e | e
                · exact HF0.out k e
                · exact Nat.le_trans hBr.size e
              · rcases hG4 k hk with e | e
                · exact HG0.out k e
                · exact Nat.le_trans hBr.size e
            have HL' := hid_into hL'
            clear hL' hT4 hF4 hG4 hg4 hB5 CD hT
            go_wp2_with fail
            go_roundw
            case rel => exact ⟨i + 1, sb, wb, by omega, by omega, rfl, rfl, by go_num, HL'.out⟩
            case measure => simp [intOf]; omega
        · have HB : Hid (Below W.heap.size W wr) := hL.b
          by_cases h1 : i < ss.length
          · have f2 : (i : Int) < (ss.length : Int) := by omega
            have f3 : ¬ ((i : Int) < 120) := by omega
            clear hlt hL
            go_wp2_with (go_at_call 10; refine (known_any _).mono ?_; rintro e w4 ⟨rfl, hB4⟩)
            go_ret
            exact ⟨rfl, HB.out.trans (hB4.mono HB.out.size)⟩
          · have f2 : ¬ ((i : Int) < (ss.length : Int)) := by omega
            clear hlt hL
            go_wp2_with (go_at_call 10; refine (known_any _).mono ?_; rintro e w4 ⟨rfl, hB4⟩)
            go_ret
            exact ⟨rfl, HB.out.trans (hB4.mono HB.out.size)⟩
end Go.Proofs.Ythkgmnmdojmfgaa
