/-
  The document's Put of a ring, where it takes the state.
-/
import Derived.Test.YtkchdkcdkeajkaaRgRPut
import Derived.Test.YtkchdkcdkeajkaaRgPut
namespace Go.Proofs.Ytkchdkcdkeajkaa
open Go.RowKit
/-- The document's ring behind the new row: all of X. -/
def TlP (W8 : World) (db n : Nat) (X : List Sp) (wx : World) : Prop := ∃ g cap6, Cw wx db [.int .i64 (n : Int), .slice (some ⟨g, 0, none⟩) X.length cap6] 48 ∧ Rs wx (some ⟨g, 0, none⟩) X.length cap6 X ∧ W8.heap.size ≤ g ∧ Grows (fun k => k = db) W8 wx
theorem tl_of {W8 w6 : World} {db n m cap6 : Nat} {ao6 : Option Addr} {X : List Sp} {old : Value} (hb : Below W8.heap.size W8 w6) (ho : So w6 W8.heap.size (.slice ao6 m cap6) X) (hX : 0 < X.length) (hc : Cw w6 db [.int .i64 (n : Int), old] 48) (hdb : db < W8.heap.size) : TlP W8 db n X (w6.setCell ⟨db, 1, none⟩ (.slice ao6 m cap6)) := by
  obtain ⟨hr, rfl, hg⟩ := ho.rs
  obtain ⟨g, rfl, hbg, hlt, _⟩ := ho.at 0 _ (List.getElem?_eq_getElem hX)
  have O := Only.set db 1 w6 (.slice (some ⟨g, 0, none⟩) X.length cap6)
  have hs := hc.set 1 (.slice (some ⟨g, 0, none⟩) X.length cap6)
  simp only [List.set_cons_succ, List.set_cons_zero] at hs
  refine ⟨g, cap6, hs, hr.keep (fun g' off e _ => ?_), hbg, (Grows.of_below hb (fun k => k = db) (fun k h1 h2 => by omega)).trans (Grows.of_only O (F := fun k => k = db) rfl) (fun k hk => Or.inl hk)⟩
  simp only [Option.some.injEq, Addr.mk.injEq, and_true] at e
  exact O.block g' (by omega)
set_option maxRecDepth 20000 in
set_option maxHeartbeats 16000000 in
theorem rPut_go {w : World} {db lo n a : Nat} {L : List Sp} (h : Rr w db lo n L) (hk : Rk n a L) (hem : L = [] → Cw w db [.int .i64 (n : Int), .slice none 0 0] 48) (hn1 : 1 ≤ n) (hn2 : n ≤ 256) (s : Sp) (hs : Gs s) (he : putE a L s = 0) : Calls Try.prog 10 #[.pointer (some ⟨db, 0, none⟩), .agg (stV s).toArray] w fun e w' => e = .returned (.int .i64 0) ∧ RPutP w w' db lo n a L s := by
  obtain ⟨f, k, hF⟩ := putF he
  obtain ⟨hi, hoo⟩ := putE_ok he
  have hlx := putX_len hF
  obtain ⟨ao, cap, h1, h2, h3⟩ := h.r
  have hdl := h1.lt
  have ht := hk.top
  have CI : Hid (∀ W, Calls Try.prog 21 #[.agg (stV s).toArray] W fun e w' => e = .returned (.bool true) ∧ Below W.heap.size W w') := fun W => by rw [← hi]; exact rIs_c _ s (stV_c hs.1) W
  have HN := st_size hs.1
  have HX := hid_into (stV_c hs.1).frame
  rw [hF.ff] at HX
  have HRun := hid_into fun W => run_one_st W hs.1
  have HWf : Hid s.Wf := hs.1
  have ha : L ≠ [] → a0 a L s = a := fun hl => by unfold a0; rw [if_neg hl]
  have hfk := hF.fk
  have hkl := hF.kk
  have hf6 := hF.f6
  have HC : Hid (∀ W, Below w.heap.size w W → W.cell? ⟨db, 1, none⟩ = some (.slice ao L.length cap) ∧ W.cell? ⟨db, 0, none⟩ = some (.int .i64 (n : Int))) := fun W hW => ⟨(h1.below hW h1.lt).cell 1, (h1.below hW h1.lt).cell 0⟩
  have HFz : Hid (∀ W, Below w.heap.size w W → W.frozen? ⟨db, 1, none⟩ = false) := fun W hW => (h1.below hW h1.lt).frozen 1
  have HCw : Hid (∀ W, Below w.heap.size w W → Cw W db [.int .i64 (n : Int), .slice ao L.length cap] 48) := fun W hW => h1.below hW h1.lt
  have HRs : Hid (∀ W, Below w.heap.size w W → Rs W ao L.length cap L) := fun W hW => h2.below hW (Nat.le_refl _)
  have HR : Hid (∀ W, Below w.heap.size w W → ∀ i, i < L.length → ∃ g off, ao = some ⟨g, off, none⟩ ∧ W.cell? ⟨g, off + i * 20, none⟩ = some (.int .i64 ((a + i : Nat) : Int))) := fun W hW i hi => by
    have gi : L[i]? = some L[i] := List.getElem?_eq_getElem hi
    obtain ⟨g, off, e1, d1, _⟩ := (h2.below hW (Nat.le_refl _)).frame hk.fit gi
    rw [hk.run i _ gi] at d1
    exact ⟨g, off, e1, d1⟩
  have HNo : Hid (ao = none → L.length = 0 ∧ k = 0 ∧ cap = 0) := fun e => by
    have hl : L = [] := by
      cases hL : L with
      | nil => rfl
      | cons t l =>
        obtain ⟨g, off, e2, _⟩ := h2.at' 0 t (by rw [hL]; rfl)
        rw [e] at e2; cases e2
    have hc := hem hl
    unfold Cw at hc h1
    rw [h1] at hc
    simp only [Option.some.injEq, Obj.cells.injEq] at hc
    simp at hc
    exact ⟨by rw [hl]; rfl, hF.nil hl, by first | exact hc.2.2 | exact hc.2 | exact hc | exact hc.1.2.2⟩
  have HFt : Hid (Fit (L.take k)) := fun t ht => hk.fit t (List.mem_of_mem_take ht)
  have HM6 : Hid ((L.take k).length ≤ 601) := by have hh : (L.take k).length ≤ 601 := (by rw [List.length_take]; omega); exact hh
  have HK : Hid (k ≤ L.length) := hkl
  have HAll : Hid (∀ j, 0 < L.length → j < L.length → ((f : Int) ≤ ((a + j : Nat) : Int) ↔ k ≤ j)) := fun j hp hj => by
    have hne : L ≠ [] := List.length_pos_iff.1 hp
    rw [ha hne] at hfk
    omega
  have HEnd : Hid (0 < L.length → ¬ ((a + L.length : Nat) : Int) < (f : Int) ∧ ¬ (f : Int) < (a : Int)) := fun hp => by
    have hne : L ≠ [] := List.length_pos_iff.1 hp
    rw [ha hne] at hfk
    omega
  have HT : Hid (a + L.length ≤ 601) := ht
  obtain ⟨cs, hcs⟩ : ∃ cs, stV s = cs := ⟨_, rfl⟩
  have HCS := hid_into hcs
  rw [hcs] at CI HN HX HRun ⊢
  have HDB : Hid (db < w.heap.size ∧ lo ≤ w.heap.size ∧ db < lo) := ⟨hdl, h.sz, h.lt⟩
  obtain ⟨p, hp⟩ : ∃ p, L.length = p := ⟨_, rfl⟩
  have HPL := hid_into hp
  rw [hp] at HC HCw HRs HR HNo HK HAll HEnd HT
  have HHe := hid_into he
  have HXX := hid_into hF.xx
  clear hcs h h1 h2 h3 hk hem hs he hF hi hoo hlx hdl ht ha hfk hkl hf6 hp
  go_enter Try.func10, Try.ntmps10
  go_upto_region 4 with (go_big_may; first
    | (refine wpList_box_row rfl 35 (.tmp 1) rfl cs rfl ?_; intro W1 hc1 B1 HS1)
    | (refine wpList_load_rw rfl 35 (.tmp 3) rfl w.heap.size cs 35 _ rfl ?_ Try.underlying35 rfl HN ?_; exact hc1)
    | (go_at_call 21; refine (CI.out _).mono ?_; rintro e w2 ⟨rfl, B2⟩; have hc2 := hid_into (hc1.below B2 hc1.lt); have HB := hid_into (B1.trans (B2.mono B1.size)); obtain ⟨c1, c0⟩ := HC.out _ HB.out; clear hc1 B1 B2))
  go_cut [42] (fun tb wx => tb = .bool false ∧ Hid (Sm w2 wx))
  case first =>
    by_cases hp0 : p = 0
    · subst hp0
      go_region
      go_wp2_with fail
      go_meet
      exact ⟨rfl, Sm.drewN w2 1⟩
    · obtain ⟨m, hm⟩ : ∃ m, p = m + 1 := ⟨p - 1, by omega⟩
      obtain ⟨g, off, rfl, d0⟩ := HR.out _ HB.out 0 (by omega)
      obtain ⟨g', off', e', dm⟩ := HR.out _ HB.out m (by omega)
      simp only [Option.some.injEq, Addr.mk.injEq, and_true] at e'
      obtain ⟨rfl, rfl⟩ := e'
      simp only [Nat.add_zero, Nat.zero_mul] at d0
      have d4 := (hc2.out.cell 0).trans HX.out
      obtain ⟨hb1, hb2⟩ := HEnd.out (by omega)
      have q1 : IntKind.i64.wrap ((p : Int) - 1) = (m : Int) := by have := HT.out; rw [hm]; simp [IntKind.wrap, IntKind.bits, IntKind.signed]; omega
      have q2 : (m : Int) < (p : Int) := by omega
      have q3 : (0 : Int) ≤ (m : Int) := by omega
      have q6 : (0 : Int) < (p : Int) := by omega
      have q7 : m < p := by omega
      have q8 : 0 < p := by omega
      obtain ⟨y, hy⟩ : ∃ y : Int, y = ((a + m : Nat) : Int) := ⟨_, rfl⟩
      obtain ⟨z, hz⟩ : ∃ z : Int, z = ((a + p : Nat) : Int) := ⟨_, rfl⟩
      have q9 : IntKind.i64.wrap (y + 1) = z := by have := HT.out; rw [hy, hz, hm]; simp [IntKind.wrap, IntKind.bits, IntKind.signed]; omega
      rw [← hy] at dm
      rw [← hz] at hb1
      obtain ⟨x, hx⟩ : ∃ x : Int, x = (a : Int) := ⟨_, rfl⟩
      rw [← hx] at d0 hb2
      clear hm hy hz hx
      have HFF : Hid True := trivial
      have S4 : (w2.drew.cell? ⟨db, 1, none⟩ = some (.slice (some ⟨g, off, none⟩) p cap) ∧ w2.drew.cell? ⟨g, off, none⟩ = some (.int .i64 x) ∧ w2.drew.cell? ⟨g, off + m * 20, none⟩ = some (.int .i64 y) ∧ w2.drew.cell? ⟨w.heap.size, 0, none⟩ = some (.int .i64 (f : Int))) := ⟨c1, d0, dm, d4⟩
      refine wp_region_held (S := fun V => V.cell? ⟨db, 1, none⟩ = some (.slice (some ⟨g, off, none⟩) p cap) ∧ V.cell? ⟨g, off, none⟩ = some (.int .i64 x) ∧ V.cell? ⟨g, off + m * 20, none⟩ = some (.int .i64 y) ∧ V.cell? ⟨w.heap.size, 0, none⟩ = some (.int .i64 (f : Int))) (by kernel_rfl) ?_
      change wpAnyH _ _ _ _ _ _ _ _ (World.drew _)
      refine wpAnyH_take (i := 0) (v := .int .i64 (p : Int)) rfl (by kernel_rfl) (by kernel_rfl) (by kernel_rfl) (fun _ _ _ h => h) (Or.inl ⟨by kernel_rfl, by intro V _; go_simp⟩) S4 ?_
      refine wpAnyH_take (i := 1) (v := .bool true) rfl (by kernel_rfl) (by kernel_rfl) (by kernel_rfl) (fun _ _ _ h => h) (Or.inl ⟨by kernel_rfl, by intro V _; go_simp⟩) S4 ?_
      refine wpAnyH_take (i := 2) (v := .bool true) rfl (by kernel_rfl) (by kernel_rfl) (by kernel_rfl) (fun _ _ _ h => h) (Or.inl ⟨by kernel_rfl, by intro V _; go_simp⟩) S4 ?_
      refine wpAnyH_take (i := 3) (v := .pointer (some ⟨w.heap.size, 0, none⟩)) rfl (by kernel_rfl) (by kernel_rfl) (by kernel_rfl) (fun _ _ _ h => h) (Or.inl ⟨by kernel_rfl, by intro V _; go_simp⟩) S4 ?_
      refine wpAnyH_take (i := 4) (v := .int .i64 (f : Int)) rfl (by kernel_rfl) (by kernel_rfl) (by kernel_rfl) (fun _ _ _ h => h) (Or.inl ⟨by kernel_rfl, by intro V hV; obtain ⟨y0, y1, y2, y3⟩ := hV; go_simp⟩) S4 ?_
      refine wpAnyH_take (i := 5) (v := .pointer (some ⟨db, 0, none⟩)) rfl (by kernel_rfl) (by kernel_rfl) (by kernel_rfl) (fun _ _ _ h => h) (Or.inl ⟨by kernel_rfl, by intro V _; go_simp⟩) S4 ?_
      refine wpAnyH_take (i := 6) (v := .pointer (some ⟨db, 0, none⟩)) rfl (by kernel_rfl) (by kernel_rfl) (by kernel_rfl) (fun _ _ _ h => h) (Or.inl ⟨by kernel_rfl, by intro V _; go_simp⟩) S4 ?_
      refine wpAnyH_take (i := 7) (v := .pointer (some ⟨db, 1, none⟩)) rfl (by kernel_rfl) (by kernel_rfl) (by kernel_rfl) (fun _ _ _ h => h) (Or.inl ⟨by kernel_rfl, by intro V _; go_simp⟩) S4 ?_
      refine wpAnyH_take (i := 8) (v := .slice (some ⟨g, off, none⟩) p cap) rfl (by kernel_rfl) (by kernel_rfl) (by kernel_rfl) (fun _ _ _ h => h) (Or.inl ⟨by kernel_rfl, by intro V hV; obtain ⟨y0, y1, y2, y3⟩ := hV; go_simp⟩) S4 ?_
      refine wpAnyH_take (i := 9) (v := .int .i64 (p : Int)) rfl (by kernel_rfl) (by kernel_rfl) (by kernel_rfl) (fun _ _ _ h => h) (Or.inl ⟨by kernel_rfl, by intro V _; go_simp⟩) S4 ?_
      refine wpAnyH_take (i := 10) (v := .int .i64 (m : Int)) rfl (by kernel_rfl) (by kernel_rfl) (by kernel_rfl) (fun _ _ _ h => h) (Or.inl ⟨by kernel_rfl, by intro V _; go_simp⟩) S4 ?_
      refine wpAnyH_take (i := 11) (v := .pointer (some ⟨g, off + m * 20, none⟩)) rfl (by kernel_rfl) (by kernel_rfl) (by kernel_rfl) (fun _ _ _ h => h) (Or.inl ⟨by kernel_rfl, by intro V _; go_simp⟩) S4 ?_
      refine wpAnyH_take (i := 12) (v := .pointer (some ⟨g, off + m * 20, none⟩)) rfl (by kernel_rfl) (by kernel_rfl) (by kernel_rfl) (fun _ _ _ h => h) (Or.inl ⟨by kernel_rfl, by intro V _; go_simp⟩) S4 ?_
      refine wpAnyH_take (i := 13) (v := .int .i64 y) rfl (by kernel_rfl) (by kernel_rfl) (by kernel_rfl) (fun _ _ _ h => h) (Or.inl ⟨by kernel_rfl, by intro V hV; obtain ⟨y0, y1, y2, y3⟩ := hV; go_simp⟩) S4 ?_
      refine wpAnyH_take (i := 14) (v := .int .i64 z) rfl (by kernel_rfl) (by kernel_rfl) (by kernel_rfl) (fun _ _ _ h => h) (Or.inl ⟨by kernel_rfl, by intro V _; go_simp⟩) S4 ?_
      refine wpAnyH_take (i := 15) (v := .bool false) rfl (by kernel_rfl) (by kernel_rfl) (by kernel_rfl) (fun _ _ _ h => h) (Or.inl ⟨by kernel_rfl, by intro V _; go_simp⟩) S4 ?_
      refine wpAnyH_take (i := 16) (v := .bool false) rfl (by kernel_rfl) (by kernel_rfl) (by kernel_rfl) (fun _ _ _ h => h) (Or.inl ⟨by kernel_rfl, by intro V _; go_simp⟩) S4 ?_
      refine wpAnyH_take (i := 17) (v := .pointer (some ⟨w.heap.size, 0, none⟩)) rfl (by kernel_rfl) (by kernel_rfl) (by kernel_rfl) (fun _ _ _ h => h) (Or.inl ⟨by kernel_rfl, by intro V _; go_simp⟩) S4 ?_
      refine wpAnyH_take (i := 18) (v := .int .i64 (f : Int)) rfl (by kernel_rfl) (by kernel_rfl) (by kernel_rfl) (fun _ _ _ h => h) (Or.inl ⟨by kernel_rfl, by intro V hV; obtain ⟨y0, y1, y2, y3⟩ := hV; go_simp⟩) S4 ?_
      refine wpAnyH_take (i := 19) (v := .pointer (some ⟨db, 0, none⟩)) rfl (by kernel_rfl) (by kernel_rfl) (by kernel_rfl) (fun _ _ _ h => h) (Or.inl ⟨by kernel_rfl, by intro V _; go_simp⟩) S4 ?_
      refine wpAnyH_take (i := 20) (v := .pointer (some ⟨db, 0, none⟩)) rfl (by kernel_rfl) (by kernel_rfl) (by kernel_rfl) (fun _ _ _ h => h) (Or.inl ⟨by kernel_rfl, by intro V _; go_simp⟩) S4 ?_
      refine wpAnyH_take (i := 21) (v := .pointer (some ⟨db, 1, none⟩)) rfl (by kernel_rfl) (by kernel_rfl) (by kernel_rfl) (fun _ _ _ h => h) (Or.inl ⟨by kernel_rfl, by intro V _; go_simp⟩) S4 ?_
      refine wpAnyH_take (i := 22) (v := .slice (some ⟨g, off, none⟩) p cap) rfl (by kernel_rfl) (by kernel_rfl) (by kernel_rfl) (fun _ _ _ h => h) (Or.inl ⟨by kernel_rfl, by intro V hV; obtain ⟨y0, y1, y2, y3⟩ := hV; go_simp⟩) S4 ?_
      refine wpAnyH_take (i := 23) (v := .pointer (some ⟨g, off, none⟩)) rfl (by kernel_rfl) (by kernel_rfl) (by kernel_rfl) (fun _ _ _ h => h) (Or.inl ⟨by kernel_rfl, by intro V _; go_simp⟩) S4 ?_
      refine wpAnyH_take (i := 24) (v := .pointer (some ⟨g, off, none⟩)) rfl (by kernel_rfl) (by kernel_rfl) (by kernel_rfl) (fun _ _ _ h => h) (Or.inl ⟨by kernel_rfl, by intro V _; go_simp⟩) S4 ?_
      refine wpAnyH_take (i := 25) (v := .int .i64 x) rfl (by kernel_rfl) (by kernel_rfl) (by kernel_rfl) (fun _ _ _ h => h) (Or.inl ⟨by kernel_rfl, by intro V hV; obtain ⟨y0, y1, y2, y3⟩ := hV; go_simp⟩) S4 ?_
      refine wpAnyH_take (i := 26) (v := .bool false) rfl (by kernel_rfl) (by kernel_rfl) (by kernel_rfl) (fun _ _ _ h => h) (Or.inl ⟨by kernel_rfl, by intro V _; go_simp⟩) S4 ?_
      refine wpAnyH_take (i := 27) (v := .bool false) rfl (by kernel_rfl) (by kernel_rfl) (by kernel_rfl) (fun _ _ _ h => h) (Or.inl ⟨by kernel_rfl, by intro V _; go_simp⟩) S4 ?_
      refine wpAnyH_take (i := 28) (v := .bool false) rfl (by kernel_rfl) (by kernel_rfl) (by kernel_rfl) (fun _ _ _ h => h) (Or.inl ⟨by kernel_rfl, by intro V _; go_simp⟩) S4 ?_
      simp only [List.getElem_toArray, List.getElem_cons_zero, List.getElem_cons_succ, Act.put, List.setIfInBounds_toArray, List.set_cons_zero, List.set_cons_succ]
      refine wpAnyH_done (by kernel_rfl) ?_ _
      go_wp2_with fail
      go_meet
      exact ⟨rfl, Sm.drewN w2 1⟩
  case rest =>
  rename World => W9
  obtain ⟨rfl, HS9⟩ := hcut
  go_wp2_with fail
  go_loopw [5] (fun x wr => ∃ j : Nat, k ≤ j ∧ j ≤ p ∧ x = .int .i64 (j : Int) ∧ Hid (Sm w2 wr)) (fun x _ => (intOf x).toNat)
  case atStart => exact ⟨p, HK.out, Nat.le_refl _, rfl, HS9⟩
  case round =>
    obtain ⟨j, hkj, hjp, rfl, HSr⟩ := hrel
    have HBr := hid_into (HB.out.trans (HSr.out.below _))
    obtain ⟨c1r, c0r⟩ := HC.out _ HBr.out
    have d4 := (HSr.out.cw hc2.out).cell 0 |>.trans HX.out
    clear HS9 c1 c0
    go_upto_region 6 with fail
    go_cut [58] (fun tb wx => tb = .bool (decide (k < j)) ∧ Hid (Sm w2 wx))
    case first =>
      by_cases hj0 : j = 0
      · subst hj0
        obtain rfl : k = 0 := by omega
        go_region
        go_wp2_with fail
        go_meet
        exact ⟨rfl, HSr.out.trans (Sm.drewN wr 1)⟩
      · obtain ⟨i, hij⟩ : ∃ i, j = i + 1 := ⟨j - 1, by omega⟩
        obtain ⟨g, off, rfl, di⟩ := HR.out _ HBr.out i (by omega)
        have hall := HAll.out i (by omega) (by omega)
        have q1 : IntKind.i64.wrap ((j : Int) - 1) = (i : Int) := by have := HT.out; rw [hij]; simp [IntKind.wrap, IntKind.bits, IntKind.signed]; omega
        have q2 : (i : Int) < (p : Int) := by omega
        have q3 : (0 : Int) ≤ (i : Int) := by omega
        have q6 : (0 : Int) < (j : Int) := by omega
        have q7 : i < p := by omega
        have q8 : 0 < j := by omega
        obtain ⟨y, hy⟩ : ∃ y : Int, y = ((a + i : Nat) : Int) := ⟨_, rfl⟩
        rw [← hy] at di hall
        clear hy
        have S6 : (wr.drew.cell? ⟨db, 1, none⟩ = some (.slice (some ⟨g, off, none⟩) p cap) ∧ wr.drew.cell? ⟨g, off + i * 20, none⟩ = some (.int .i64 y) ∧ wr.drew.cell? ⟨w.heap.size, 0, none⟩ = some (.int .i64 (f : Int))) := ⟨c1r, di, d4⟩
        by_cases hkj2 : k < j
        · have hb : (f : Int) ≤ y := hall.2 (by omega)
          have hdk : decide (k < j) = true := by simp [hkj2]
          clear hall hij
          refine wp_region_held (S := fun V => V.cell? ⟨db, 1, none⟩ = some (.slice (some ⟨g, off, none⟩) p cap) ∧ V.cell? ⟨g, off + i * 20, none⟩ = some (.int .i64 y) ∧ V.cell? ⟨w.heap.size, 0, none⟩ = some (.int .i64 (f : Int))) (by kernel_rfl) ?_
          change wpAnyH _ _ _ _ _ _ _ _ (World.drew _)
          refine wpAnyH_take (i := 0) (v := .int .i64 (j : Int)) rfl (by kernel_rfl) (by kernel_rfl) (by kernel_rfl) (fun _ _ _ h => h) (Or.inl ⟨by kernel_rfl, by intro V _; go_simp⟩) S6 ?_
          refine wpAnyH_take (i := 1) (v := .bool true) rfl (by kernel_rfl) (by kernel_rfl) (by kernel_rfl) (fun _ _ _ h => h) (Or.inl ⟨by kernel_rfl, by intro V _; go_simp⟩) S6 ?_
          refine wpAnyH_take (i := 2) (v := .bool true) rfl (by kernel_rfl) (by kernel_rfl) (by kernel_rfl) (fun _ _ _ h => h) (Or.inl ⟨by kernel_rfl, by intro V _; go_simp⟩) S6 ?_
          refine wpAnyH_take (i := 3) (v := .pointer (some ⟨db, 0, none⟩)) rfl (by kernel_rfl) (by kernel_rfl) (by kernel_rfl) (fun _ _ _ h => h) (Or.inl ⟨by kernel_rfl, by intro V _; go_simp⟩) S6 ?_
          refine wpAnyH_take (i := 4) (v := .pointer (some ⟨db, 0, none⟩)) rfl (by kernel_rfl) (by kernel_rfl) (by kernel_rfl) (fun _ _ _ h => h) (Or.inl ⟨by kernel_rfl, by intro V _; go_simp⟩) S6 ?_
          refine wpAnyH_take (i := 5) (v := .pointer (some ⟨db, 1, none⟩)) rfl (by kernel_rfl) (by kernel_rfl) (by kernel_rfl) (fun _ _ _ h => h) (Or.inl ⟨by kernel_rfl, by intro V _; go_simp⟩) S6 ?_
          refine wpAnyH_take (i := 6) (v := .slice (some ⟨g, off, none⟩) p cap) rfl (by kernel_rfl) (by kernel_rfl) (by kernel_rfl) (fun _ _ _ h => h) (Or.inl ⟨by kernel_rfl, by intro V hV; obtain ⟨y0, y1, y2⟩ := hV; go_simp⟩) S6 ?_
          refine wpAnyH_take (i := 7) (v := .int .i64 (j : Int)) rfl (by kernel_rfl) (by kernel_rfl) (by kernel_rfl) (fun _ _ _ h => h) (Or.inl ⟨by kernel_rfl, by intro V _; go_simp⟩) S6 ?_
          refine wpAnyH_take (i := 8) (v := .int .i64 (i : Int)) rfl (by kernel_rfl) (by kernel_rfl) (by kernel_rfl) (fun _ _ _ h => h) (Or.inl ⟨by kernel_rfl, by intro V _; go_simp⟩) S6 ?_
          refine wpAnyH_take (i := 9) (v := .pointer (some ⟨g, off + i * 20, none⟩)) rfl (by kernel_rfl) (by kernel_rfl) (by kernel_rfl) (fun _ _ _ h => h) (Or.inl ⟨by kernel_rfl, by intro V _; go_simp⟩) S6 ?_
          refine wpAnyH_take (i := 10) (v := .pointer (some ⟨g, off + i * 20, none⟩)) rfl (by kernel_rfl) (by kernel_rfl) (by kernel_rfl) (fun _ _ _ h => h) (Or.inl ⟨by kernel_rfl, by intro V _; go_simp⟩) S6 ?_
          refine wpAnyH_take (i := 11) (v := .int .i64 y) rfl (by kernel_rfl) (by kernel_rfl) (by kernel_rfl) (fun _ _ _ h => h) (Or.inl ⟨by kernel_rfl, by intro V hV; obtain ⟨y0, y1, y2⟩ := hV; go_simp⟩) S6 ?_
          refine wpAnyH_take (i := 12) (v := .pointer (some ⟨w.heap.size, 0, none⟩)) rfl (by kernel_rfl) (by kernel_rfl) (by kernel_rfl) (fun _ _ _ h => h) (Or.inl ⟨by kernel_rfl, by intro V _; go_simp⟩) S6 ?_
          refine wpAnyH_take (i := 13) (v := .int .i64 (f : Int)) rfl (by kernel_rfl) (by kernel_rfl) (by kernel_rfl) (fun _ _ _ h => h) (Or.inl ⟨by kernel_rfl, by intro V hV; obtain ⟨y0, y1, y2⟩ := hV; go_simp⟩) S6 ?_
          refine wpAnyH_take (i := 14) (v := .bool true) rfl (by kernel_rfl) (by kernel_rfl) (by kernel_rfl) (fun _ _ _ h => h) (Or.inl ⟨by kernel_rfl, by intro V _; go_simp⟩) S6 ?_
          refine wpAnyH_take (i := 15) (v := .bool true) rfl (by kernel_rfl) (by kernel_rfl) (by kernel_rfl) (fun _ _ _ h => h) (Or.inl ⟨by kernel_rfl, by intro V _; go_simp⟩) S6 ?_
          simp only [List.getElem_toArray, List.getElem_cons_zero, List.getElem_cons_succ, Act.put, List.setIfInBounds_toArray, List.set_cons_zero, List.set_cons_succ]
          refine wpAnyH_done (by kernel_rfl) ?_ _
          go_wp2_with fail
          go_meet
          exact ⟨by rw [hdk], HSr.out.trans (Sm.drewN wr 1)⟩
        · have hb : ¬ (f : Int) ≤ y := fun e => hkj2 (by have := hall.1 e; omega)
          have hdk : decide (k < j) = false := by simp [hkj2]
          clear hall hij
          refine wp_region_held (S := fun V => V.cell? ⟨db, 1, none⟩ = some (.slice (some ⟨g, off, none⟩) p cap) ∧ V.cell? ⟨g, off + i * 20, none⟩ = some (.int .i64 y) ∧ V.cell? ⟨w.heap.size, 0, none⟩ = some (.int .i64 (f : Int))) (by kernel_rfl) ?_
          change wpAnyH _ _ _ _ _ _ _ _ (World.drew _)
          refine wpAnyH_take (i := 0) (v := .int .i64 (j : Int)) rfl (by kernel_rfl) (by kernel_rfl) (by kernel_rfl) (fun _ _ _ h => h) (Or.inl ⟨by kernel_rfl, by intro V _; go_simp⟩) S6 ?_
          refine wpAnyH_take (i := 1) (v := .bool true) rfl (by kernel_rfl) (by kernel_rfl) (by kernel_rfl) (fun _ _ _ h => h) (Or.inl ⟨by kernel_rfl, by intro V _; go_simp⟩) S6 ?_
          refine wpAnyH_take (i := 2) (v := .bool true) rfl (by kernel_rfl) (by kernel_rfl) (by kernel_rfl) (fun _ _ _ h => h) (Or.inl ⟨by kernel_rfl, by intro V _; go_simp⟩) S6 ?_
          refine wpAnyH_take (i := 3) (v := .pointer (some ⟨db, 0, none⟩)) rfl (by kernel_rfl) (by kernel_rfl) (by kernel_rfl) (fun _ _ _ h => h) (Or.inl ⟨by kernel_rfl, by intro V _; go_simp⟩) S6 ?_
          refine wpAnyH_take (i := 4) (v := .pointer (some ⟨db, 0, none⟩)) rfl (by kernel_rfl) (by kernel_rfl) (by kernel_rfl) (fun _ _ _ h => h) (Or.inl ⟨by kernel_rfl, by intro V _; go_simp⟩) S6 ?_
          refine wpAnyH_take (i := 5) (v := .pointer (some ⟨db, 1, none⟩)) rfl (by kernel_rfl) (by kernel_rfl) (by kernel_rfl) (fun _ _ _ h => h) (Or.inl ⟨by kernel_rfl, by intro V _; go_simp⟩) S6 ?_
          refine wpAnyH_take (i := 6) (v := .slice (some ⟨g, off, none⟩) p cap) rfl (by kernel_rfl) (by kernel_rfl) (by kernel_rfl) (fun _ _ _ h => h) (Or.inl ⟨by kernel_rfl, by intro V hV; obtain ⟨y0, y1, y2⟩ := hV; go_simp⟩) S6 ?_
          refine wpAnyH_take (i := 7) (v := .int .i64 (j : Int)) rfl (by kernel_rfl) (by kernel_rfl) (by kernel_rfl) (fun _ _ _ h => h) (Or.inl ⟨by kernel_rfl, by intro V _; go_simp⟩) S6 ?_
          refine wpAnyH_take (i := 8) (v := .int .i64 (i : Int)) rfl (by kernel_rfl) (by kernel_rfl) (by kernel_rfl) (fun _ _ _ h => h) (Or.inl ⟨by kernel_rfl, by intro V _; go_simp⟩) S6 ?_
          refine wpAnyH_take (i := 9) (v := .pointer (some ⟨g, off + i * 20, none⟩)) rfl (by kernel_rfl) (by kernel_rfl) (by kernel_rfl) (fun _ _ _ h => h) (Or.inl ⟨by kernel_rfl, by intro V _; go_simp⟩) S6 ?_
          refine wpAnyH_take (i := 10) (v := .pointer (some ⟨g, off + i * 20, none⟩)) rfl (by kernel_rfl) (by kernel_rfl) (by kernel_rfl) (fun _ _ _ h => h) (Or.inl ⟨by kernel_rfl, by intro V _; go_simp⟩) S6 ?_
          refine wpAnyH_take (i := 11) (v := .int .i64 y) rfl (by kernel_rfl) (by kernel_rfl) (by kernel_rfl) (fun _ _ _ h => h) (Or.inl ⟨by kernel_rfl, by intro V hV; obtain ⟨y0, y1, y2⟩ := hV; go_simp⟩) S6 ?_
          refine wpAnyH_take (i := 12) (v := .pointer (some ⟨w.heap.size, 0, none⟩)) rfl (by kernel_rfl) (by kernel_rfl) (by kernel_rfl) (fun _ _ _ h => h) (Or.inl ⟨by kernel_rfl, by intro V _; go_simp⟩) S6 ?_
          refine wpAnyH_take (i := 13) (v := .int .i64 (f : Int)) rfl (by kernel_rfl) (by kernel_rfl) (by kernel_rfl) (fun _ _ _ h => h) (Or.inl ⟨by kernel_rfl, by intro V hV; obtain ⟨y0, y1, y2⟩ := hV; go_simp⟩) S6 ?_
          refine wpAnyH_take (i := 14) (v := .bool false) rfl (by kernel_rfl) (by kernel_rfl) (by kernel_rfl) (fun _ _ _ h => h) (Or.inl ⟨by kernel_rfl, by intro V _; go_simp⟩) S6 ?_
          refine wpAnyH_take (i := 15) (v := .bool false) rfl (by kernel_rfl) (by kernel_rfl) (by kernel_rfl) (fun _ _ _ h => h) (Or.inl ⟨by kernel_rfl, by intro V _; go_simp⟩) S6 ?_
          simp only [List.getElem_toArray, List.getElem_cons_zero, List.getElem_cons_succ, Act.put, List.setIfInBounds_toArray, List.set_cons_zero, List.set_cons_succ]
          refine wpAnyH_done (by kernel_rfl) ?_ _
          go_wp2_with fail
          go_meet
          exact ⟨by rw [hdk], HSr.out.trans (Sm.drewN wr 1)⟩
    case rest =>
    rename World => W8
    obtain ⟨rfl, HS8'⟩ := hcut
    clear HSr HBr c1r c0r d4
    by_cases hlt : k < j
    · have hdk : decide (k < j) = true := by simp [hlt]
      have hw1 : IntKind.i64.wrap ((j : Int) - 1) = ((j - 1 : Nat) : Int) := by have := HT.out; simp [IntKind.wrap, IntKind.bits, IntKind.signed]; omega
      rw [hdk]
      go_wp2_with fail
      go_roundw
      case rel => exact ⟨j - 1, by omega, by omega, by simp, HS8'⟩
      case measure => simp [intOf]; omega
    · obtain rfl : j = k := by omega
      have hdk : decide (j < j) = false := by simp
      rw [hdk]
      have HBr := hid_into (HB.out.trans (HS8'.out.below _))
      have HS8 : Hid (∀ V, Below W8.heap.size W8 V → V.cell? ⟨db, 1, none⟩ = some (.slice ao p cap) ∧ V.rangeAt w.heap.size 0 cs) := fun V hV => by
        have hc8 := HS8'.out.cw hc2.out
        exact ⟨(HC.out _ (HBr.out.trans (hV.mono HBr.out.size))).1, (hc8.below hV hc8.lt).range⟩
      have B3d : Hid (Below W8.heap.size W8 W8.drew) := (Below.refl _ _).drew
      have S8 := HS8.out _ B3d.out
      have HTl : Hid (∀ w6 ao6 q6 cap6, Below W8.heap.size W8 w6 → So w6 W8.heap.size (.slice ao6 q6 cap6) (L.take j ++ [s]) → TlP W8 db n (L.take j ++ [s]) (w6.setCell ⟨db, 1, none⟩ (.slice ao6 q6 cap6))) := fun w6 ao6 q6 cap6 hb ho =>
        tl_of hb ho (by simp) (HCw.out _ (HBr.out.trans (hb.mono HBr.out.size))) (Nat.lt_of_lt_of_le HDB.out.1 HBr.out.size)
      have kc : (j : Int) ≤ (cap : Int) := by have := HK.out; have := (HRs.out _ HBr.out).le; omega
      have kc2 : j ≤ cap := by omega
      have kp : (0 : Int) ≤ (j : Int) := by omega
      clear hkj hjp hlt hdk
      go_upto_region 8 with fail
      go_cut [61] (fun x wx => Hid (TlP W8 db n (L.take j ++ [s]) wx))
      case first =>
        refine wp_region_L 14 (fun V => V.cell? ⟨db, 1, none⟩ = some (.slice ao p cap) ∧ V.rangeAt w.heap.size 0 cs) (by kernel_rfl) ?_
        change wpL _ _ _ _ _ _ _ _ _ (World.drew _)
        refine wpL_takeY 0 61 (v := .pointer (some ⟨db, 0, none⟩)) rfl rfl (by kernel_rfl) (by kernel_rfl) (by kernel_rfl) (by kernel_rfl) (fun _ _ _ h => h) S8 (Or.inl ⟨by kernel_rfl, by intro V _; go_simp⟩) ?_
        refine wpL_takeY 2 63 (v := .pointer (some ⟨db, 0, none⟩)) rfl rfl (by kernel_rfl) (by kernel_rfl) (by kernel_rfl) (by kernel_rfl) (fun _ _ _ h => h) S8 (Or.inl ⟨by kernel_rfl, by intro V _; go_simp⟩) ?_
        refine wpL_takeY 3 64 (v := .pointer (some ⟨db, 0, none⟩)) rfl rfl (by kernel_rfl) (by kernel_rfl) (by kernel_rfl) (by kernel_rfl) (fun _ _ _ h => h) S8 (Or.inl ⟨by kernel_rfl, by intro V _; go_simp⟩) ?_
        refine wpL_takeY 4 65 (v := .pointer (some ⟨db, 1, none⟩)) rfl rfl (by kernel_rfl) (by kernel_rfl) (by kernel_rfl) (by kernel_rfl) (fun _ _ _ h => h) S8 (Or.inl ⟨by kernel_rfl, by intro V _; go_simp⟩) ?_
        refine wpL_takeY 5 66 (v := .slice ao p cap) rfl rfl (by kernel_rfl) (by kernel_rfl) (by kernel_rfl) (by kernel_rfl) (fun _ _ _ h => h) S8 (Or.inl ⟨by kernel_rfl, by intro V hV; obtain ⟨y0, y1⟩ := hV; go_simp⟩) ?_
        refine wpL_takeY 6 67 (v := .int .i64 (j : Int)) rfl rfl (by kernel_rfl) (by kernel_rfl) (by kernel_rfl) (by kernel_rfl) (fun _ _ _ h => h) S8 (Or.inl ⟨by kernel_rfl, by intro V _; go_simp⟩) ?_
        refine wpL_takeY 7 68 (v := .slice ao j cap) rfl rfl (by kernel_rfl) (by kernel_rfl) (by kernel_rfl) (by kernel_rfl) (fun _ _ _ h => h) S8 (Or.inl ⟨by kernel_rfl, by intro V hV; cases ao with | none => (obtain ⟨rfl, rfl, rfl⟩ := HNo.out rfl; go_simp) | some aa => go_simp⟩) ?_
        refine wpL_takeY 9 70 (v := .agg cs.toArray) rfl rfl (by kernel_rfl) (by kernel_rfl) (by kernel_rfl) (by kernel_rfl) (fun _ _ _ h => h) S8 (yieldsIf_load_mid (by kernel_rfl) 35 (.tmp 3) rfl w.heap.size 0 (by kernel_rfl) cs _ (fun V h => h.2) Try.underlying35 rfl HN.out) ?_
        simp only [Act.put, List.setIfInBounds_toArray, List.set_cons_zero, List.set_cons_succ]
        refine wpL_two (i := 1) (j := 10) (by kernel_rfl) rfl rfl (fun KK hK => ?_) (fun KK hK => ?_)
        · refine step_made_nil rfl rfl ?_
          have B3 := hid_into ((B3d.out).alloc B3d.out.size (.cells #[] 35))
          have hgn := heap_alloc_new W8.drew (.cells #[] 35)
          have hbn : Hid (W8.heap.size ≤ W8.drew.heap.size) := B3d.out.size
          have HSz : Hid (W8.drew.heap.size < (W8.drew.alloc (.cells #[] 35)).heap.size) := Nat.lt_of_lt_of_eq (Nat.lt_succ_self _) (World.size_alloc _ _).symm
          refine hK.out _ _ (fun _ => HS8.out _ B3.out) ?_
          clear hK KK
          simp only [Act.put, List.setIfInBounds_toArray]
          refine wpL_two (i := 8) (j := 10) (by kernel_rfl) rfl rfl (fun KK hK => ?_) (fun KK hK => ?_)
          · obtain ⟨v4, w4, hr4, ho4, hg4⟩ := run_front (W := (W8.drew.alloc (.cells #[] 35))) (base := W8.heap.size) hgn hbn.out B3.out.size ((HRs.out _ (HBr.out.trans (B3.out.mono HBr.out.size))).take HK.out) HFt.out HM6.out
            refine step_append_eq rfl 22 (.tmp 62) (.tmp 68) rfl _ _ v4 (by kernel_rfl) (by kernel_rfl) hr4 ?_
            have B4 := hid_into (B3.out.trans ((Grows.grownBy (F := fun k => k = W8.drew.heap.size) hg4 (fun k hk => (Option.some.inj hk).symm)).below (B := W8.heap.size) B3.out.size (fun k hk => by rw [hk]; exact hbn.out)))
            refine hK.out _ _ (fun _ => HS8.out _ B4.out) ?_
            clear hK KK
            simp only [Act.put]
            refine wpL_one (i := 10) (by kernel_rfl) rfl (fun KK hK => ?_)
            refine step_one_st rfl (.tmp 70) rfl cs HRun (by kernel_rfl) ?_
            have B5 := hid_into ((B4.out).alloc B4.out.size (.cells cs.toArray 35))
            have hcn : Cw (w4.alloc (.cells cs.toArray 35)) w4.heap.size cs 35 := Cw.new w4 cs 35
            refine hK.out _ _ (fun _ => HS8.out _ B5.out) ?_
            clear hK KK
            simp only [Act.put]
            have ho5 := ho4.below ((Below.refl w4.heap.size w4).alloc (Nat.le_refl _) (.cells cs.toArray 35))
            refine wpL_one (i := 11) (by kernel_rfl) rfl (fun KK hK => ?_)
            obtain ⟨ao6, cap6, w6, hr6, ho6, hg6, _⟩ := run_append_st (w4.alloc (.cells cs.toArray 35)) W8.heap.size 22 v4 (L.take j) ho5 w4.heap.size 1 s HWf.out (by rw [HCS.out]; exact hcn) (by have := HM6.out; omega) B5.out.size
            generalize (L.take j).length + 1 = q6 at hr6 ho6
            refine step_append_eq rfl 22 (.tmp 69) (.tmp 71) rfl _ _ (.slice ao6 q6 cap6) (by kernel_rfl) (by kernel_rfl) (fun ty => hr6) ?_
            have B6 := hid_into (B5.out.trans ((Grows.grownBy (F := fun k => W8.heap.size ≤ k) hg6 (fun k hk => (ho5.lt k hk).1)).below (B := W8.heap.size) B5.out.size (fun k hk => hk)))
            refine hK.out _ _ (fun _ => HS8.out _ B6.out) ?_
            clear hK KK
            simp only [Act.put]
            have S9 := HS8.out _ B6.out
            refine wpL_one (i := 12) (by kernel_rfl) rfl (fun KK hK => ?_)
            rw [if_pos (by rfl)]
            go_simp
            refine hK.out _ _ (fun _ => S9) ?_
            clear hK KK
            refine wpL_takeY 13 74 (v := .pointer (some ⟨db, 1, none⟩)) rfl rfl (by kernel_rfl) (by kernel_rfl) (by kernel_rfl) (by kernel_rfl) (fun _ _ _ h => h) S9 (Or.inl ⟨by kernel_rfl, by intro V _; go_simp⟩) ?_
            simp only [Act.put, List.setIfInBounds_toArray, List.set_cons_zero, List.set_cons_succ]
            refine wpL_one (i := 14) (by kernel_rfl) rfl (fun KK hK => ?_)
            have zf := HFz.out _ (HBr.out.trans (B6.out.mono HBr.out.size))
            have zc := S9.1
            rw [if_pos (by rfl)]
            go_simp
            refine hK.out _ _ (fun e => absurd rfl e) ?_
            clear hK KK
            refine wpL_done (by kernel_rfl) ?_ _
            go_wp2_with fail
            go_meet
            exact HTl.out w6 ao6 q6 cap6 B6.out ho6
          · refine step_one_st rfl (.tmp 70) rfl cs HRun (by kernel_rfl) ?_
            have B3b := hid_into ((B3.out).alloc B3.out.size (.cells cs.toArray 35))
            have hcn : Cw ((W8.drew.alloc (.cells #[] 35)).alloc (.cells cs.toArray 35)) (W8.drew.alloc (.cells #[] 35)).heap.size cs 35 := Cw.new (W8.drew.alloc (.cells #[] 35)) cs 35
            refine hK.out _ _ (fun _ => HS8.out _ B3b.out) ?_
            clear hK KK
            simp only [Act.put]
            have hgn2 : ((W8.drew.alloc (.cells #[] 35)).alloc (.cells cs.toArray 35)).heap[W8.drew.heap.size]? = some (.cells #[] 35) := (Below.heap_alloc _ _ _ HSz.out).trans hgn
            have HNE : Hid (W8.drew.heap.size ≠ (W8.drew.alloc (.cells #[] 35)).heap.size) := Nat.ne_of_lt HSz.out
            refine wpL_one (i := 8) (by kernel_rfl) rfl (fun KK hK => ?_)
            obtain ⟨v4, w4, hr4, ho4, hg4⟩ := run_front (W := ((W8.drew.alloc (.cells #[] 35)).alloc (.cells cs.toArray 35))) (base := W8.heap.size) hgn2 hbn.out B3b.out.size ((HRs.out _ (HBr.out.trans (B3b.out.mono HBr.out.size))).take HK.out) HFt.out HM6.out
            refine step_append_eq rfl 22 (.tmp 62) (.tmp 68) rfl _ _ v4 (by kernel_rfl) (by kernel_rfl) hr4 ?_
            have B4 := hid_into (B3b.out.trans ((Grows.grownBy (F := fun k => k = W8.drew.heap.size) hg4 (fun k hk => (Option.some.inj hk).symm)).below (B := W8.heap.size) B3b.out.size (fun k hk => by rw [hk]; exact hbn.out)))
            refine hK.out _ _ (fun _ => HS8.out _ B4.out) ?_
            clear hK KK
            simp only [Act.put]
            have hc5 := hcn.keep (hg4.block _ hcn.lt (fun e => HNE.out (Option.some.inj e).symm))
            refine wpL_one (i := 11) (by kernel_rfl) rfl (fun KK hK => ?_)
            obtain ⟨ao6, cap6, w6, hr6, ho6, hg6, _⟩ := run_append_st w4 W8.heap.size 22 v4 (L.take j) ho4 (W8.drew.alloc (.cells #[] 35)).heap.size 1 s HWf.out (by rw [HCS.out]; exact hc5) (by have := HM6.out; omega) B4.out.size
            generalize (L.take j).length + 1 = q6 at hr6 ho6
            refine step_append_eq rfl 22 (.tmp 69) (.tmp 71) rfl _ _ (.slice ao6 q6 cap6) (by kernel_rfl) (by kernel_rfl) (fun ty => hr6) ?_
            have B6 := hid_into (B4.out.trans ((Grows.grownBy (F := fun k => W8.heap.size ≤ k) hg6 (fun k hk => (ho4.lt k hk).1)).below (B := W8.heap.size) B4.out.size (fun k hk => hk)))
            refine hK.out _ _ (fun _ => HS8.out _ B6.out) ?_
            clear hK KK
            simp only [Act.put]
            have S9 := HS8.out _ B6.out
            refine wpL_one (i := 12) (by kernel_rfl) rfl (fun KK hK => ?_)
            rw [if_pos (by rfl)]
            go_simp
            refine hK.out _ _ (fun _ => S9) ?_
            clear hK KK
            refine wpL_takeY 13 74 (v := .pointer (some ⟨db, 1, none⟩)) rfl rfl (by kernel_rfl) (by kernel_rfl) (by kernel_rfl) (by kernel_rfl) (fun _ _ _ h => h) S9 (Or.inl ⟨by kernel_rfl, by intro V _; go_simp⟩) ?_
            simp only [Act.put, List.setIfInBounds_toArray, List.set_cons_zero, List.set_cons_succ]
            refine wpL_one (i := 14) (by kernel_rfl) rfl (fun KK hK => ?_)
            have zf := HFz.out _ (HBr.out.trans (B6.out.mono HBr.out.size))
            have zc := S9.1
            rw [if_pos (by rfl)]
            go_simp
            refine hK.out _ _ (fun e => absurd rfl e) ?_
            clear hK KK
            refine wpL_done (by kernel_rfl) ?_ _
            go_wp2_with fail
            go_meet
            exact HTl.out w6 ao6 q6 cap6 B6.out ho6
        · refine step_one_st rfl (.tmp 70) rfl cs HRun (by kernel_rfl) ?_
          have B3 := hid_into ((B3d.out).alloc B3d.out.size (.cells cs.toArray 35))
          have hcn : Cw (W8.drew.alloc (.cells cs.toArray 35)) W8.drew.heap.size cs 35 := Cw.new W8.drew cs 35
          refine hK.out _ _ (fun _ => HS8.out _ B3.out) ?_
          clear hK KK
          simp only [Act.put, List.setIfInBounds_toArray]
          refine wpL_one (i := 1) (by kernel_rfl) rfl (fun KK hK => ?_)
          have HLT : Hid (W8.drew.heap.size < (W8.drew.alloc (.cells cs.toArray 35)).heap.size) := hcn.lt
          refine step_made_nil rfl rfl ?_
          have B3b := hid_into ((B3.out).alloc B3.out.size (.cells #[] 35))
          have hgn := heap_alloc_new (W8.drew.alloc (.cells cs.toArray 35)) (.cells #[] 35)
          have hbn : Hid (W8.heap.size ≤ (W8.drew.alloc (.cells cs.toArray 35)).heap.size) := B3.out.size
          have HSz : Hid ((W8.drew.alloc (.cells cs.toArray 35)).heap.size < ((W8.drew.alloc (.cells cs.toArray 35)).alloc (.cells #[] 35)).heap.size) := Nat.lt_of_lt_of_eq (Nat.lt_succ_self _) (World.size_alloc _ _).symm
          refine hK.out _ _ (fun _ => HS8.out _ B3b.out) ?_
          clear hK KK
          simp only [Act.put]
          refine wpL_one (i := 8) (by kernel_rfl) rfl (fun KK hK => ?_)
          obtain ⟨v4, w4, hr4, ho4, hg4⟩ := run_front (W := ((W8.drew.alloc (.cells cs.toArray 35)).alloc (.cells #[] 35))) (base := W8.heap.size) hgn hbn.out B3b.out.size ((HRs.out _ (HBr.out.trans (B3b.out.mono HBr.out.size))).take HK.out) HFt.out HM6.out
          refine step_append_eq rfl 22 (.tmp 62) (.tmp 68) rfl _ _ v4 (by kernel_rfl) (by kernel_rfl) hr4 ?_
          have B4 := hid_into (B3b.out.trans ((Grows.grownBy (F := fun k => k = (W8.drew.alloc (.cells cs.toArray 35)).heap.size) hg4 (fun k hk => (Option.some.inj hk).symm)).below (B := W8.heap.size) B3b.out.size (fun k hk => by rw [hk]; exact hbn.out)))
          refine hK.out _ _ (fun _ => HS8.out _ B4.out) ?_
          clear hK KK
          simp only [Act.put]
          have hc4 := hcn.alloc (.cells #[] 35)
          have hc5 := hc4.keep (hg4.block _ hc4.lt (fun e => Nat.ne_of_lt HLT.out (Option.some.inj e)))
          refine wpL_one (i := 11) (by kernel_rfl) rfl (fun KK hK => ?_)
          obtain ⟨ao6, cap6, w6, hr6, ho6, hg6, _⟩ := run_append_st w4 W8.heap.size 22 v4 (L.take j) ho4 W8.drew.heap.size 1 s HWf.out (by rw [HCS.out]; exact hc5) (by have := HM6.out; omega) B4.out.size
          generalize (L.take j).length + 1 = q6 at hr6 ho6
          refine step_append_eq rfl 22 (.tmp 69) (.tmp 71) rfl _ _ (.slice ao6 q6 cap6) (by kernel_rfl) (by kernel_rfl) (fun ty => hr6) ?_
          have B6 := hid_into (B4.out.trans ((Grows.grownBy (F := fun k => W8.heap.size ≤ k) hg6 (fun k hk => (ho4.lt k hk).1)).below (B := W8.heap.size) B4.out.size (fun k hk => hk)))
          refine hK.out _ _ (fun _ => HS8.out _ B6.out) ?_
          clear hK KK
          simp only [Act.put]
          have S9 := HS8.out _ B6.out
          refine wpL_one (i := 12) (by kernel_rfl) rfl (fun KK hK => ?_)
          rw [if_pos (by rfl)]
          go_simp
          refine hK.out _ _ (fun _ => S9) ?_
          clear hK KK
          refine wpL_takeY 13 74 (v := .pointer (some ⟨db, 1, none⟩)) rfl rfl (by kernel_rfl) (by kernel_rfl) (by kernel_rfl) (by kernel_rfl) (fun _ _ _ h => h) S9 (Or.inl ⟨by kernel_rfl, by intro V _; go_simp⟩) ?_
          simp only [Act.put, List.setIfInBounds_toArray, List.set_cons_zero, List.set_cons_succ]
          refine wpL_one (i := 14) (by kernel_rfl) rfl (fun KK hK => ?_)
          have zf := HFz.out _ (HBr.out.trans (B6.out.mono HBr.out.size))
          have zc := S9.1
          rw [if_pos (by rfl)]
          go_simp
          refine hK.out _ _ (fun e => absurd rfl e) ?_
          clear hK KK
          refine wpL_done (by kernel_rfl) ?_ _
          go_wp2_with fail
          go_meet
          exact HTl.out w6 ao6 q6 cap6 B6.out ho6
      case rest =>
      rename World => W7
      obtain ⟨g, cap6, hc7, hr7, hg7, hG7⟩ := hcut.out
      have HXl : Hid ((L.take j ++ [s]).length = j + 1) := by
        have hh : (L.take j ++ [s]).length = j + 1 := by rw [List.length_append, List.length_take, HPL.out]; have := HK.out; simp; omega
        exact hh
      have HFX : Hid (Fit (L.take j ++ [s])) := HFt.out.snoc HWf.out
      rw [HXl.out] at hc7 hr7
      have c1 := hc7.cell 1
      have c0 := hc7.cell 0
      simp only [List.getElem?_cons_zero, List.getElem?_cons_succ] at c0 c1
      have z7 := hc7.frozen 1
      have HC7 := hid_into hc7
      have HR7 := hid_into hr7
      have HG7 := hid_into hg7
      have HGr := hid_into ((Grows.of_below HBr.out (fun k => k = db) (fun k h1 h2 => by omega)).trans hG7 (fun k hk => Or.inl hk))
      have q1 : (1 : Int) ≤ ((j + 1 : Nat) : Int) := by omega
      have q2 : 1 ≤ j + 1 := by omega
      have q3 : j + 1 ≤ cap6 := hr7.le
      have q4 : 1 ≤ cap6 := by omega
      clear hc7 hr7 hg7 hG7 HTl HS8 S8
      by_cases hn : n < j + 1
      · have hn' : (n : Int) < ((j + 1 : Nat) : Int) := by omega
        have EL : Hid (putL n a L s = (L.take j ++ [s]).drop 1) := by
          have hh : putL n a L s = (L.take j ++ [s]).drop 1 := by unfold putL; rw [if_pos HHe.out, HXX.out, HXl.out, if_pos hn]
          exact hh
        generalize hq : j + 1 = q at *
        go_upto_region 9 with fail
        go_region
        go_wp2_with fail
        go_ret
        have O9 := Only.set db 1 W7 (.slice (some ⟨g, 20, none⟩) (q - 1) (cap6 - 1))
        have hs9 := HC7.out.set 1 (.slice (some ⟨g, 20, none⟩) (q - 1) (cap6 - 1))
        simp only [List.set_cons_succ, List.set_cons_zero] at hs9
        have hX9 : ((L.take j ++ [s]).drop 1).length = q - 1 := by rw [List.length_drop, HXl.out]
        have hr9 := HR7.out
        rw [← hq] at hr9
        obtain ⟨g', off', e', hr9'⟩ := hr9.drop1 HFX.out
        simp only [Option.some.injEq, Addr.mk.injEq, and_true] at e'
        obtain ⟨rfl, rfl⟩ := e'
        have hgd : g ≠ db := by have := HG7.out; have := HDB.out; have := HBr.out.size; omega
        have G9 := HGr.out.trans (Grows.of_only O9 (F := fun k => k = db) rfl) (fun k hk => Or.inl hk)
        refine ⟨rfl, ⟨?_, HDB.out.2.2, Nat.le_trans HDB.out.2.1 G9.size⟩, ⟨G9.os, G9.tape, G9.output, G9.size, G9.block⟩⟩
        rw [EL.out, hX9]
        refine ⟨some ⟨g, 20, none⟩, cap6 - 1, hs9, ?_, fun g2 off2 e => by simp only [Option.some.injEq, Addr.mk.injEq, and_true] at e; have := HG7.out; have := HDB.out; have := HBr.out.size; omega⟩
        have e1 : q - 1 = j := by omega
        rw [e1] at O9 ⊢
        exact hr9'.keep (fun g2 off2 e _ => by simp only [Option.some.injEq, Addr.mk.injEq, and_true] at e; rw [← e.1]; exact O9.block g hgd)
      · have hn' : ¬ (n : Int) < ((j + 1 : Nat) : Int) := by omega
        have EL : Hid (putL n a L s = L.take j ++ [s]) := by
          have hh : putL n a L s = L.take j ++ [s] := by unfold putL; rw [if_pos HHe.out, HXX.out, HXl.out, if_neg hn]
          exact hh
        generalize hq : j + 1 = q at *
        go_upto_region 9 with fail
        go_region
        go_wp2_with fail
        go_ret
        refine ⟨rfl, ⟨?_, HDB.out.2.2, Nat.le_trans HDB.out.2.1 HGr.out.size⟩, ⟨HGr.out.os, HGr.out.tape, HGr.out.output, HGr.out.size, HGr.out.block⟩⟩
        rw [EL.out, HXl.out]
        exact ⟨_, _, HC7.out, HR7.out.keep (fun _ _ _ _ => rfl), fun g' off e => by simp only [Option.some.injEq, Addr.mk.injEq, and_true] at e; have := HG7.out; have := HDB.out; have := HBr.out.size; omega⟩
theorem rPut_any {w : World} {db lo n a : Nat} {L : List Sp} (h : Rr w db lo n L) (hk : Rk n a L) (hem : L = [] → Cw w db [.int .i64 (n : Int), .slice none 0 0] 48) (hn1 : 1 ≤ n) (hn2 : n ≤ 256) (s : Sp) (hs : Gs s) : Calls Try.prog 10 #[.pointer (some ⟨db, 0, none⟩), .agg (stV s).toArray] w fun e w' => e = .returned (.int .i64 (putE a L s)) ∧ RPutP w w' db lo n a L s ∧ (putL n a L s = [] → Cw w' db [.int .i64 (n : Int), .slice none 0 0] 48) := by
  by_cases he : putE a L s = 0
  · rw [he]
    refine (rPut_go h hk hem hn1 hn2 s hs he).mono ?_
    rintro e w' ⟨rfl, hp⟩
    refine ⟨rfl, hp, fun e => ?_⟩
    obtain ⟨f, k, hF⟩ := putF he
    have hlx := putX_len hF
    have := congrArg List.length e
    unfold putL at this
    rw [if_pos he] at this
    split at this
    · rw [List.length_drop, hlx] at this
      simp at this
      omega
    · rw [hlx] at this
      simp at this
  · have e1 : putE a L s = 1 := by rcases putE_cases a L s with e | e; exact absurd e he; exact e
    rw [e1]
    refine (rPut_no h hk s hs e1).mono ?_
    rintro e w' ⟨rfl, hb⟩
    have e2 : putL n a L s = L := by unfold putL; rw [if_neg he]
    refine ⟨rfl, ⟨?_, Grows.of_below hb _ (fun k h1 h2 => by omega)⟩, fun e => ?_⟩
    · rw [e2]; exact h.below hb
    · rw [e2] at e
      exact (hem e).below hb (hem e).lt
end Go.Proofs.Ytkchdkcdkeajkaa
