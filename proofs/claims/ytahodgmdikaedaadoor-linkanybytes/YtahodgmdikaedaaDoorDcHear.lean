/-
  The document's Link that has Sent nothing: Hear, by contracts.
-/
import Derived.Test.YtahodgmdikaedaaDoorDcPkt
import Derived.Test.YtahodgmdikaedaaDoorM12
namespace Go.Proofs.YtahodgmdikaedaaDoor
open Go.RowKit
/-- The document's Reader behind what was there. -/
structure Fs (w : World) (rb : Nat) (W : World) (v : Value) (zs : List Int) (e : Int) : Prop where
  r : Rf W rb v zs e
  b : Below w.heap.size w W
  v : ∀ k, v.ownBlock = some k → k < W.heap.size
  n : w.heap.size ≤ rb
theorem Fs.left {w W W' : World} {rb : Nat} {v : Value} {zs zs' : List Int} {e e' : Int} (h : Fs w rb W v zs e) (hl : Fleft W rb v W' zs' e') : ∃ v', Fs w rb W' v' zs' e' := by
  obtain ⟨v', hr, hs, ho⟩ := hl
  refine ⟨v', hr, h.b.trans (hs.below h.n h.b.size), fun k hk => ?_, h.n⟩
  rcases ho with ho | ho
  · have := h.v k (by rw [← ho]; exact hk)
    have := hs.size
    omega
  · rw [ho] at hk; cases hk
section
variable {w : World} {lb : Nat} {id : Int} {s : Lk} {sv : Value} {zs : List Int}
/-- Is it no packet of this link? -/
theorem rd_parts (id : Int) (zs : List Int) : (rdP id zs = none ↔ ¬ (opE zs = 0 ∧ (prs (opP zs)).ok ∧ (prs (opP zs)).id = id)) := by
  unfold rdP
  by_cases h : oneB zs
  · have e1 : opE zs = 0 := (opE_one zs).2 h
    have e2 : opP zs = decP zs := if_pos h
    rw [e1, e2]
    split
    · next c => exact ⟨fun h => by simp at h, fun hn => absurd ⟨rfl, c.2⟩ hn⟩
    · next c => exact ⟨fun _ hn => c ⟨h, hn.2⟩, fun _ => rfl⟩
  · have e1 : ¬ opE zs = 0 := fun e => h ((opE_one zs).1 e)
    rw [if_neg fun c => h c.1]
    exact ⟨fun _ c => e1 c.1, fun _ => rfl⟩
/-- What the calls of Hear's front answer, told with letters. -/
structure Fr (w : World) (lb : Nat) (sv : Value) (P : List Int) (oe a1 : Int) (za : List Int) (ea b1 : Int) (zb : List Int) (eb c1 : Int) (zc : List Int) (ec : Int) (row zd : List Int) (ed eF : Int) : Prop where
  q0 : Calls Tryd.prog 42 #[sv] w fun e w' => ∃ ao cap, e = .returned (.tuple #[.slice ao P.length cap, .int .i64 oe]) ∧ Ow w' w.heap.size (.slice ao P.length cap) P ∧ Below w.heap.size w w'
  q1 : ∀ W b v, Rf W b v P 0 → Calls Tryd.prog 43 #[.pointer (some ⟨b, 0, none⟩)] W fun r w' => r = .returned (.int .i64 a1) ∧ Fleft W b v w' za ea
  q2 : ∀ W b v, Rf W b v za ea → Calls Tryd.prog 43 #[.pointer (some ⟨b, 0, none⟩)] W fun r w' => r = .returned (.int .i64 b1) ∧ Fleft W b v w' zb eb
  q3 : ∀ W b v, Rf W b v zb eb → Calls Tryd.prog 43 #[.pointer (some ⟨b, 0, none⟩)] W fun r w' => r = .returned (.int .i64 c1) ∧ Fleft W b v w' zc ec
  q4 : ∀ W b v, 0 < b1 → Rf W b v zc ec → (∀ k, v.ownBlock = some k → k < W.heap.size) → Calls Tryd.prog 44 #[.pointer (some ⟨b, 0, none⟩)] W fun r w' => ∃ ao cap, r = .returned (.slice ao row.length cap) ∧ Ow w' W.heap.size (.slice ao row.length cap) row ∧ Fleft W b v w' zd ed
  d4 : ¬ 0 < b1 → row = [] ∧ zd = zc ∧ ed = ec
  q5 : ∀ W b v, Rf W b v zd ed → Calls Tryd.prog 45 #[.pointer (some ⟨b, 0, none⟩)] W fun r w' => r = .returned (.int .i64 eF) ∧ W = w'
theorem fr_any (lb : Nat) (hb : Bs w sv zs) (hy : Byt zs) (hz : zs.length ≤ 1000000) :
    Fr w lb sv (opP zs) (opE zs) (ptA (opP zs)).1 (ptA (opP zs)).2.1 (ptA (opP zs)).2.2 (ptB (opP zs)).1 (ptB (opP zs)).2.1 (ptB (opP zs)).2.2 (ptC (opP zs)).1 (ptC (opP zs)).2.1 (ptC (opP zs)).2.2 (ptD (opP zs)).1 (ptD (opP zs)).2.1 (ptD (opP zs)).2.2 (endR (ptD (opP zs)).2.1 (ptD (opP zs)).2.2) := by
  have yP := opP_byt hy
  have yA : Byt (ptA (opP zs)).2.1 := (numR_byt 10 0 0 _ yP).1
  have yB : Byt (ptB (opP zs)).2.1 := numE_byt _ yA
  have yC : Byt (ptC (opP zs)).2.1 := numE_byt _ yB
  have iA : Inv (ptA (opP zs)).2.1 (ptA (opP zs)).2.2 := numR_inv 10 0 0 _
  have iB : Inv (ptB (opP zs)).2.1 (ptB (opP zs)).2.2 := numE_inv _ _ iA
  have iC : Inv (ptC (opP zs)).2.1 (ptC (opP zs)).2.2 := numE_inv _ _ iB
  refine ⟨dopen_any hb hy hz, fun W b v hr => fnum_any b v _ W hr yP, fun W b v hr => fnumE_any b v _ _ W hr iA yA, fun W b v hr => fnumE_any b v _ _ W hr iB yB, fun W b v h0 hr hv => ?_, fun h0 => ?_, fun W b v hr => fend_any b v _ _ W hr⟩
  · have e : ptD (opP zs) = bytesR (ptC (opP zs)).2.1 (ptC (opP zs)).2.2 := if_pos h0
    rw [e]
    exact fbytes_any b v _ _ W hr iC yC hv
  · have e : ptD (opP zs) = ([], (ptC (opP zs)).2.1, (ptC (opP zs)).2.2) := if_neg h0
    rw [e]
    exact ⟨rfl, rfl, rfl⟩
set_option maxHeartbeats 6400000 in
set_option maxRecDepth 20000 in
theorem dhear_no (h : Dq w lb id s) (hb : Bs w sv zs) (hy : Byt zs) (hz : zs.length ≤ 1000000) (hp : rdP id zs = none) (hv : s.vain < 100000000000000) :
    Calls Tryd.prog 22 #[.pointer (some ⟨lb, 0, none⟩), sv] w fun e w' => e = .returned (.tuple #[.slice none 0 0, .slice none 0 0]) ∧ Dq w' lb id { s with vain := s.vain + 1 } ∧ Gr (fun k => k = lb) w w' := by
  have FR := fr_any lb hb hy hz
  have hn := (rd_parts id zs).1 hp
  replace hn : ¬ (opE zs = 0 ∧ (endR (ptD (opP zs)).2.1 (ptD (opP zs)).2.2 = 0 ∧ 0 ≤ (ptB (opP zs)).1 ∧ 0 ≤ (ptC (opP zs)).1 ∧ (ptD (opP zs)).1.length ≤ 4096) ∧ (ptA (opP zs)).1 = id) := hn
  clear hp hy hz hb
  generalize endR (ptD (opP zs)).2.1 (ptD (opP zs)).2.2 = eF at *
  generalize (ptA (opP zs)).2.1 = za at *
  generalize (ptA (opP zs)).2.2 = ea at *
  generalize (ptA (opP zs)).1 = a1 at *
  generalize (ptB (opP zs)).2.1 = zb at *
  generalize (ptB (opP zs)).2.2 = eb at *
  generalize (ptB (opP zs)).1 = b1 at *
  generalize (ptC (opP zs)).2.1 = zc at *
  generalize (ptC (opP zs)).2.2 = ec at *
  generalize (ptC (opP zs)).1 = c1 at *
  generalize (ptD (opP zs)).2.1 = zd at *
  generalize (ptD (opP zs)).2.2 = ed at *
  generalize (ptD (opP zs)).1 = row at *
  generalize opE zs = oe at *
  generalize opP zs = P at *
  have HQ := hid_into h
  have hlt := hid_into h.q.lt
  have hi := h.i
  have hvn := hid_into hv
  clear h
  have hcase : (¬ oe = 0) ∨ (oe = 0 ∧ ¬ eF = 0) ∨ (oe = 0 ∧ eF = 0 ∧ b1 < 0) ∨ (oe = 0 ∧ eF = 0 ∧ ¬ b1 < 0 ∧ c1 < 0) ∨ (oe = 0 ∧ eF = 0 ∧ ¬ b1 < 0 ∧ ¬ c1 < 0 ∧ (4096 : Int) < (row.length : Int)) ∨ (oe = 0 ∧ eF = 0 ∧ ¬ b1 < 0 ∧ ¬ c1 < 0 ∧ ¬ (4096 : Int) < (row.length : Int) ∧ ¬ a1 = id) := by omega
  clear hn
  replace FR := hid_into FR
  go_enter Tryd.func22, Tryd.ntmps22
  go_wp2_with fail
  refine FR.out.q0.mono ?_
  rintro e w1 ⟨ao, cap, rfl, ho, hB⟩
  have hbP := ho.bs
  have hvP : ∀ k, (Value.slice ao P.length cap).ownBlock = some k → k < w1.heap.size := fun k hk => (World.ownsRow.lt ho k hk).2
  have R2 : Fs w w1.heap.size (w1.alloc (.cells #[.slice ao P.length cap, .int .i64 0] 90)) (.slice ao P.length cap) P 0 :=
    ⟨⟨heap_alloc_new w1 _, hbP.below ((Below.refl _ _).alloc (Nat.le_refl _) _) (Nat.le_refl _), fun e => by have := hvP _ e; omega⟩, hB.alloc hB.size _, fun k hk => by have := hvP k hk; rw [World.size_alloc]; omega, hB.size⟩
  clear ho hbP hvP
  have hB1 := hid_into hB.size
  clear hB
  go_wp2_with fail
  generalize hrb : w1.heap.size = rb at *
  replace hrb := hid_into hrb
  refine (FR.out.q1 _ _ _ R2.r).mono ?_
  rintro e w3 ⟨rfl, hl3⟩
  obtain ⟨v3, R3⟩ := R2.left hl3
  clear R2 hl3
  go_wp2_with fail
  refine (FR.out.q2 _ _ _ R3.r).mono ?_
  rintro e w4 ⟨rfl, hl4⟩
  obtain ⟨v4, R4⟩ := R3.left hl4
  clear R3 hl4
  go_wp2_with fail
  refine (FR.out.q3 _ _ _ R4.r).mono ?_
  rintro e w5 ⟨rfl, hl5⟩
  obtain ⟨v5, R5⟩ := R4.left hl5
  clear R4 hl5
  -- behind the parts
  have fin : Hid (∀ W, Below w.heap.size w W → W.cell? ⟨lb, 7, none⟩ = some (.int .i64 (s.vain : Int)) ∧ W.cell? ⟨lb, 0, none⟩ = some (.int .i64 id) ∧ W.frozen? ⟨lb, 7, none⟩ = false ∧ Hid (Dq (W.setCell ⟨lb, 7, none⟩ (.int .i64 ((s.vain : Int) + 1))) lb id { s with vain := s.vain + 1 } ∧ Gr (fun k => k = lb) w (W.setCell ⟨lb, 7, none⟩ (.int .i64 ((s.vain : Int) + 1))))) := fun W hW => by
    have Q : Dq W lb id s := HQ.out.keep (hW.block lb hlt.out)
    exact ⟨Q.cells.2.2.2.2.2.2.1, Q.cells.1, Q.q.frozen 7, ⟨Q.q.set 7 _, Q.l, Q.w0, Q.f, Q.i, Q.bc, Q.bs, hvn.out⟩, (Gr.of_below hW (fun k => k = lb) fun k hk hb => by omega).trans (Gr.setCell (F := fun k => k = lb) _ _ _ rfl) fun k hk => Or.inl hk⟩
  have hbv := HQ.out.bv
  have hai : Hid (¬ a1 = id → (a1 != id) = true) := fun h => by simp [h]
  by_cases h0 : 0 < b1
  · rcases hcase with hc | ⟨rfl, hc⟩ | ⟨rfl, rfl, hc⟩ | ⟨rfl, rfl, hc0, hc⟩ | ⟨rfl, rfl, hc0, hc1, hc⟩ | ⟨rfl, rfl, hc0, hc1, hc2, hc⟩
    all_goals first
      | (exfalso; omega)
      | (try (have hne := hai.out hc)
         go_wp2_with (first
        | (go_at_call 44; refine (FR.out.q4 _ _ _ h0 R5.r R5.v).mono ?_; rintro e w6 ⟨ao6, cap6, rfl, ho6, hl6⟩; obtain ⟨v6, R6⟩ := R5.left hl6; clear ho6 hl6; obtain ⟨f7, f0, ff, HF⟩ := fin.out w6 R6.b)
        | (go_at_call 45; refine (FR.out.q5 _ _ _ R6.r).mono ?_; rintro e w7 ⟨rfl, h7⟩; subst h7))
         go_ret2
         exact ⟨rfl, HF.out⟩)
  · obtain ⟨rfl, rfl, rfl⟩ := FR.out.d4 h0
    obtain ⟨f7, f0, ff, HF⟩ := fin.out w5 R5.b
    have h0' : ¬ (0 : Int) < b1 := h0
    rcases hcase with hc | ⟨rfl, hc⟩ | ⟨rfl, rfl, hc⟩ | ⟨rfl, rfl, hc0, hc⟩ | ⟨rfl, rfl, hc0, hc1, hc⟩ | ⟨rfl, rfl, hc0, hc1, hc2, hc⟩
    all_goals
      first
      | (exfalso; simp at hc; done)
      | (exfalso; omega)
      | (try (have hne := hai.out hc)
         go_wp2_with (first
          | (go_at_call 45; refine (FR.out.q5 _ _ _ R5.r).mono ?_; rintro e w7 ⟨rfl, h7⟩; subst h7))
         go_ret2
         exact ⟨rfl, HF.out⟩)
end
end Go.Proofs.YtahodgmdikaedaaDoor
