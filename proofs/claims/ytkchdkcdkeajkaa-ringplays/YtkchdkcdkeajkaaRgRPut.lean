/-
  The document's Put of a ring.
-/
import Derived.Test.YtkchdkcdkeajkaaRgRPutA
import Derived.Deep.CutBlock
import Derived.Test.YtkchdkcdkeajkaaHeldL
namespace Go.Proofs.Ytkchdkcdkeajkaa
open Go.RowKit
/-- What the document's Put leaves. -/
def RPutP (w w' : World) (db lo n a : Nat) (L : List Sp) (s : Sp) : Prop := Rr w' db lo n (putL n a L s) ∧ Grows (fun k => k = db) w w'
set_option maxRecDepth 20000 in
set_option maxHeartbeats 4000000 in
theorem rPut_no {w : World} {db lo n a : Nat} {L : List Sp} (h : Rr w db lo n L) (hk : Rk n a L) (s : Sp) (hs : Gs s) (he : putE a L s = 1) : Calls Try.prog 10 #[.pointer (some ⟨db, 0, none⟩), .agg (stV s).toArray] w fun e w' => e = .returned (.int .i64 1) ∧ Below w.heap.size w w' := by
  have CI : Hid (∀ W, Calls Try.prog 21 #[.agg (stV s).toArray] W fun e w' => e = .returned (.bool (isS s)) ∧ Below W.heap.size W w') := fun W => rIs_c _ s (stV_c hs.1) W
  have HN := st_size hs.1
  have HX := hid_into (stV_c hs.1).frame
  cases hi : isS s with
  | false =>
    rw [hi] at CI
    clear h hk he
    generalize stV s = cs at *
    clear hs hi
    go_enter Try.func10, Try.ntmps10
    go_wp2_with (first
      | (refine wpList_box_row rfl 35 (.tmp 1) rfl cs rfl ?_; intro W1 hc1 B1 HS1)
      | (refine wpList_load_rw rfl 35 (.tmp 3) rfl w.heap.size cs 35 _ rfl ?_ Try.underlying35 rfl HN ?_; exact hc1)
      | (go_at_call 21; refine (CI.out _).mono ?_; rintro e w2 ⟨rfl, B2⟩))
    go_ret
    exact ⟨rfl, B1.trans (B2.mono B1.size)⟩
  | true =>
    rw [hi] at CI
    have hf := isS_frame hi
    have hc : L ≠ [] ∧ (((a + L.length : Nat) : Int) < s.frame ∨ s.frame < (a : Int)) := by
      refine Classical.byContradiction fun hn => ?_
      unfold putE at he
      rw [if_neg] at he
      · cases he
      · rintro (h1 | h1)
        · rw [hi] at h1; cases h1
        · exact hn h1
    obtain ⟨hl, hor⟩ := hc
    obtain ⟨ao, cap, h1, h2, h3⟩ := h.r
    have hp : 0 < L.length := List.length_pos_iff.2 hl
    obtain ⟨m, hm⟩ : ∃ m, L.length = m + 1 := ⟨L.length - 1, by omega⟩
    have g0 : L[0]? = some L[0] := List.getElem?_eq_getElem (by omega)
    have gm : L[m]? = some L[m] := List.getElem?_eq_getElem (by omega)
    obtain ⟨g, off, rfl, d0, r0⟩ := h2.frame hk.fit g0
    have HC : Hid (∀ W, Below w.heap.size w W → W.cell? ⟨db, 1, none⟩ = some (.slice (some ⟨g, off, none⟩) L.length cap) ∧ W.cell? ⟨g, off, none⟩ = some (.int .i64 (a : Int)) ∧ W.cell? ⟨g, off + m * 20, none⟩ = some (.int .i64 ((a + m : Nat) : Int))) := fun W hW => by
      have h2' := h2.below hW (Nat.le_refl _)
      obtain ⟨g1, off1, e1, d1, _⟩ := h2'.frame hk.fit g0
      obtain ⟨g2, off2, e2, d2, _⟩ := h2'.frame hk.fit gm
      simp only [Option.some.injEq, Addr.mk.injEq, and_true] at e1 e2
      obtain ⟨rfl, rfl⟩ := e1
      obtain ⟨rfl, rfl⟩ := e2
      rw [hk.run 0 _ g0] at d1
      rw [hk.run m _ gm] at d2
      simp only [Nat.add_zero, Nat.zero_mul] at d1
      exact ⟨(h1.below hW h1.lt).cell 1, d1, d2⟩
    have ht := hk.top
    obtain ⟨f, hff⟩ : ∃ f : Int, s.frame = f := ⟨_, rfl⟩
    rw [hff] at hf hor HX
    have q1 : IntKind.i64.wrap ((L.length : Int) - 1) = (m : Int) := by rw [hm]; simp [IntKind.wrap, IntKind.bits, IntKind.signed]; omega
    have q2 : (m : Int) < (L.length : Int) := by omega
    have q3 : (0 : Int) ≤ (m : Int) := by omega
    have q4 : ¬ L.length = 0 := by omega
    have q6 : (0 : Int) < (L.length : Int) := by omega
    have q7 : m < L.length := by omega
    have q8 : 0 < L.length := by omega
    obtain ⟨y, hy⟩ : ∃ y : Int, y = ((a + m : Nat) : Int) := ⟨_, rfl⟩
    obtain ⟨z, hz⟩ : ∃ z : Int, z = ((a + L.length : Nat) : Int) := ⟨_, rfl⟩
    have q9 : IntKind.i64.wrap (y + 1) = z := by rw [hy, hz, hm]; simp [IntKind.wrap, IntKind.bits, IntKind.signed]; omega
    rw [← hy] at HC
    rw [← hz] at hor
    have hd : z < f ∨ (¬ z < f ∧ f < (a : Int)) := by omega
    have HD := hid_into hd
    clear hd
    generalize (a : Int) = x at *
    clear h h1 h2 h3 hk g0 gm d0 r0 he hl hm hp ht hy hz hff hor
    generalize stV s = cs at *
    generalize L.length = p at *
    clear hs hi hf
    rcases HD.out with hb1 | ⟨hb1, hb2⟩
    · clear HD
      go_enter Try.func10, Try.ntmps10
      go_upto_region 4 with (go_big_may; first
        | (refine wpList_box_row rfl 35 (.tmp 1) rfl cs rfl ?_; intro W1 hc1 B1 HS1)
        | (refine wpList_load_rw rfl 35 (.tmp 3) rfl w.heap.size cs 35 _ rfl ?_ Try.underlying35 rfl HN ?_; exact hc1)
        | (go_at_call 21; refine (CI.out _).mono ?_; rintro e w2 ⟨rfl, B2⟩; have hc2 := (hc1.below B2 hc1.lt); have HB := hid_into (B1.trans (B2.mono B1.size)); obtain ⟨c1, c2, c3⟩ := HC.out _ HB.out; have c4 := (hc2.cell 0).trans HX.out; clear hc1 hc2 B1 B2))
      go_region
      go_wp2_with fail
      go_ret
      exact ⟨rfl, HB.out.drew⟩
    · clear HD
      go_enter Try.func10, Try.ntmps10
      go_upto_region 4 with (go_big_may; first
        | (refine wpList_box_row rfl 35 (.tmp 1) rfl cs rfl ?_; intro W1 hc1 B1 HS1)
        | (refine wpList_load_rw rfl 35 (.tmp 3) rfl w.heap.size cs 35 _ rfl ?_ Try.underlying35 rfl HN ?_; exact hc1)
        | (go_at_call 21; refine (CI.out _).mono ?_; rintro e w2 ⟨rfl, B2⟩; have hc2 := (hc1.below B2 hc1.lt); have HB := hid_into (B1.trans (B2.mono B1.size)); obtain ⟨c1, c2, c3⟩ := HC.out _ HB.out; have c4 := (hc2.cell 0).trans HX.out; clear hc1 hc2 B1 B2))
      have S4 : (w2.drew.cell? ⟨db, 1, none⟩ = some (.slice (some ⟨g, off, none⟩) p cap) ∧ w2.drew.cell? ⟨g, off, none⟩ = some (.int .i64 x) ∧ w2.drew.cell? ⟨g, off + m * 20, none⟩ = some (.int .i64 y) ∧ w2.drew.cell? ⟨w.heap.size, 0, none⟩ = some (.int .i64 f)) := ⟨c1, c2, c3, c4⟩
      refine wp_region_held (S := fun V => V.cell? ⟨db, 1, none⟩ = some (.slice (some ⟨g, off, none⟩) p cap) ∧ V.cell? ⟨g, off, none⟩ = some (.int .i64 x) ∧ V.cell? ⟨g, off + m * 20, none⟩ = some (.int .i64 y) ∧ V.cell? ⟨w.heap.size, 0, none⟩ = some (.int .i64 f)) (by kernel_rfl) ?_
      change wpAnyH _ _ _ _ _ _ _ _ (World.drew _)
      refine wpAnyH_take (i := 0) (v := .int .i64 (p : Int)) rfl (by kernel_rfl) (by kernel_rfl) (by kernel_rfl) (fun _ _ _ h => h) (Or.inl ⟨by kernel_rfl, by intro V _; go_simp⟩) S4 ?_
      refine wpAnyH_take (i := 1) (v := .bool true) rfl (by kernel_rfl) (by kernel_rfl) (by kernel_rfl) (fun _ _ _ h => h) (Or.inl ⟨by kernel_rfl, by intro V _; go_simp⟩) S4 ?_
      refine wpAnyH_take (i := 2) (v := .bool true) rfl (by kernel_rfl) (by kernel_rfl) (by kernel_rfl) (fun _ _ _ h => h) (Or.inl ⟨by kernel_rfl, by intro V _; go_simp⟩) S4 ?_
      refine wpAnyH_take (i := 3) (v := .pointer (some ⟨w.heap.size, 0, none⟩)) rfl (by kernel_rfl) (by kernel_rfl) (by kernel_rfl) (fun _ _ _ h => h) (Or.inl ⟨by kernel_rfl, by intro V _; go_simp⟩) S4 ?_
      refine wpAnyH_take (i := 4) (v := .int .i64 f) rfl (by kernel_rfl) (by kernel_rfl) (by kernel_rfl) (fun _ _ _ h => h) (Or.inl ⟨by kernel_rfl, by intro V hV; obtain ⟨y0, y1, y2, y3⟩ := hV; go_simp⟩) S4 ?_
      refine wpAnyH_take (i := 5) (v := .pointer (some ⟨db, 0, none⟩)) rfl (by kernel_rfl) (by kernel_rfl) (by kernel_rfl) (fun _ _ _ h => h) (Or.inl ⟨by kernel_rfl, by intro V _; go_simp⟩) S4 ?_
      refine wpAnyH_take (i := 6) (v := .pointer (some ⟨db, 0, none⟩)) rfl (by kernel_rfl) (by kernel_rfl) (by kernel_rfl) (fun _ _ _ h => h) (Or.inl ⟨by kernel_rfl, by intro V _; go_simp⟩) S4 ?_
      refine wpAnyH_take (i := 7) (v := .pointer (some ⟨db, 1, none⟩)) rfl (by kernel_rfl) (by kernel_rfl) (by kernel_rfl) (fun _ _ _ h => h) (Or.inl ⟨by kernel_rfl, by intro V _; go_simp⟩) S4 ?_
      refine wpAnyH_take (i := 8) (v := .slice (some ⟨g, off, none⟩) p cap) rfl (by kernel_rfl) (by kernel_rfl) (by kernel_rfl) (fun _ _ _ h => h) (Or.inl ⟨by kernel_rfl, by intro V hV; obtain ⟨y0, y1, y2, y3⟩ := hV; go_simp⟩) S4 ?_
      refine wpAnyH_take (i := 9) (v := .int .i64 (p : Int)) rfl (by kernel_rfl) (by kernel_rfl) (by kernel_rfl) (fun _ _ _ h => h) (Or.inl ⟨by kernel_rfl, by intro V _; go_simp⟩) S4 ?_
      refine wpAnyH_take (i := 10) (v := .int .i64 (m : Int)) rfl (by kernel_rfl) (by kernel_rfl) (by kernel_rfl) (fun _ _ _ h => h) (Or.inl ⟨by kernel_rfl, by intro V _; go_simp⟩) S4 ?_
      refine wpAnyH_take (i := 11) (v := .pointer (some ⟨g, off + m * 20, none⟩)) rfl (by kernel_rfl) (by kernel_rfl) (by kernel_rfl) (fun _ _ _ h => h) (Or.inl ⟨by kernel_rfl, by intro V _; go_simp⟩) S4 ?_
      refine wpAnyH_take (i := 12) (v := .pointer (some ⟨g, off + m * 20, none⟩)) rfl (by kernel_rfl) (by kernel_rfl) (by kernel_rfl) (fun _ _ _ h => h) (Or.inl ⟨by kernel_rfl, by intro V _; go_simp⟩) S4 ?_
      refine wpAnyH_take (i := 13) (v := .int .i64 y) rfl (by kernel_rfl) (by kernel_rfl) (by kernel_rfl) (fun _ _ _ h => h) (Or.inl ⟨by kernel_rfl, by intro V hV; obtain ⟨y0, y1, y2, y3⟩ := hV; go_simp⟩) S4 ?_
      refine wpAnyH_take (i := 14) (v := .int .i64 z) rfl (by kernel_rfl) (by kernel_rfl) (by kernel_rfl) (fun _ _ _ h => h) (Or.inl ⟨by kernel_rfl, by intro V _; go_simp⟩) S4 ?_
      refine wpAnyH_take (i := 15) (v := .bool false) rfl (by kernel_rfl) (by kernel_rfl) (by kernel_rfl) (fun _ _ _ h => h) (Or.inl ⟨by kernel_rfl, by intro V _; go_simp⟩) S4 ?_
      refine wpAnyH_take (i := 16) (v := .bool false) rfl (by kernel_rfl) (by kernel_rfl) (by kernel_rfl) (fun _ _ _ h => h) (Or.inl ⟨by kernel_rfl, by intro V _; go_simp⟩) S4 ?_
      refine wpAnyH_take (i := 17) (v := .pointer (some ⟨w.heap.size, 0, none⟩)) rfl (by kernel_rfl) (by kernel_rfl) (by kernel_rfl) (fun _ _ _ h => h) (Or.inl ⟨by kernel_rfl, by intro V _; go_simp⟩) S4 ?_
      refine wpAnyH_take (i := 18) (v := .int .i64 f) rfl (by kernel_rfl) (by kernel_rfl) (by kernel_rfl) (fun _ _ _ h => h) (Or.inl ⟨by kernel_rfl, by intro V hV; obtain ⟨y0, y1, y2, y3⟩ := hV; go_simp⟩) S4 ?_
      refine wpAnyH_take (i := 19) (v := .pointer (some ⟨db, 0, none⟩)) rfl (by kernel_rfl) (by kernel_rfl) (by kernel_rfl) (fun _ _ _ h => h) (Or.inl ⟨by kernel_rfl, by intro V _; go_simp⟩) S4 ?_
      refine wpAnyH_take (i := 20) (v := .pointer (some ⟨db, 0, none⟩)) rfl (by kernel_rfl) (by kernel_rfl) (by kernel_rfl) (fun _ _ _ h => h) (Or.inl ⟨by kernel_rfl, by intro V _; go_simp⟩) S4 ?_
      refine wpAnyH_take (i := 21) (v := .pointer (some ⟨db, 1, none⟩)) rfl (by kernel_rfl) (by kernel_rfl) (by kernel_rfl) (fun _ _ _ h => h) (Or.inl ⟨by kernel_rfl, by intro V _; go_simp⟩) S4 ?_
      refine wpAnyH_take (i := 22) (v := .slice (some ⟨g, off, none⟩) p cap) rfl (by kernel_rfl) (by kernel_rfl) (by kernel_rfl) (fun _ _ _ h => h) (Or.inl ⟨by kernel_rfl, by intro V hV; obtain ⟨y0, y1, y2, y3⟩ := hV; go_simp⟩) S4 ?_
      refine wpAnyH_take (i := 23) (v := .pointer (some ⟨g, off, none⟩)) rfl (by kernel_rfl) (by kernel_rfl) (by kernel_rfl) (fun _ _ _ h => h) (Or.inl ⟨by kernel_rfl, by intro V _; go_simp⟩) S4 ?_
      refine wpAnyH_take (i := 24) (v := .pointer (some ⟨g, off, none⟩)) rfl (by kernel_rfl) (by kernel_rfl) (by kernel_rfl) (fun _ _ _ h => h) (Or.inl ⟨by kernel_rfl, by intro V _; go_simp⟩) S4 ?_
      refine wpAnyH_take (i := 25) (v := .int .i64 x) rfl (by kernel_rfl) (by kernel_rfl) (by kernel_rfl) (fun _ _ _ h => h) (Or.inl ⟨by kernel_rfl, by intro V hV; obtain ⟨y0, y1, y2, y3⟩ := hV; go_simp⟩) S4 ?_
      refine wpAnyH_take (i := 26) (v := .bool true) rfl (by kernel_rfl) (by kernel_rfl) (by kernel_rfl) (fun _ _ _ h => h) (Or.inl ⟨by kernel_rfl, by intro V _; go_simp⟩) S4 ?_
      refine wpAnyH_take (i := 27) (v := .bool true) rfl (by kernel_rfl) (by kernel_rfl) (by kernel_rfl) (fun _ _ _ h => h) (Or.inl ⟨by kernel_rfl, by intro V _; go_simp⟩) S4 ?_
      refine wpAnyH_take (i := 28) (v := .bool true) rfl (by kernel_rfl) (by kernel_rfl) (by kernel_rfl) (fun _ _ _ h => h) (Or.inl ⟨by kernel_rfl, by intro V _; go_simp⟩) S4 ?_
      simp only [List.getElem_toArray, List.getElem_cons_zero, List.getElem_cons_succ, Act.put, List.setIfInBounds_toArray, List.set_cons_zero, List.set_cons_succ]
      refine wpAnyH_done (by kernel_rfl) ?_ _
      go_wp2_with fail
      go_ret
      exact ⟨rfl, HB.out.drew⟩
end Go.Proofs.Ytkchdkcdkeajkaa
