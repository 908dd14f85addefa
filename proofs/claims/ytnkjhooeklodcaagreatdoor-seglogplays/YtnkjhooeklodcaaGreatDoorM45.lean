/-
  Joined from: SegDo, SegDo2, SegKnow.
-/
import Derived.Test.YtnkjhooeklodcaaGreatDoorM44
import Derived.Lib.SlBytesConst
section
/-
  does: Append, Sync, a Crash and Open, in both.
-/
namespace Go.Proofs.YtnkjhooeklodcaaGreatDoor
open Go.RowKit Go.Maps Go.Sort

variable {w w' w1 w2 : World} {B N pb sb wb lb xb : Nat} {Z D F G H : Nat → Prop} {u u' : Ud} {es fs : List En} {las : Nat} {sz k : Nat} {dead : Bool} {ss : List Nat} {ps : List (List Int)}
/-- What a step leaves: the state o behind it. -/
def DoP (w : World) (B pb sb wb lb xb : Nat) (o : ApO) (k : Nat) (e : Ending) (w' : World) : Prop :=
  e = .returned (.bool true) ∧ Grows (fun j => B ≤ j) w w' ∧ Hs w' B (fun j => j < w'.heap.size) pb sb wb lb xb o.u o.ps o.las o.ss o.sz o.dead k
set_option maxHeartbeats 8000000 in
set_option maxRecDepth 100000 in
theorem does1 (h : Hs w B Z pb sb wb lb xb u ps las ss sz dead k) (hk : k ≤ 1000) (hc : Cx w B) (hZ : ∀ j, Z j → j < w.heap.size) (x1 : Int) (ao : Option Addr) (cap : Nat) (p : List Int) (hb : Bs w (.slice ao p.length cap) p) (hy : Byt p) (hpl : p.length ≤ 100000) (ho : p ≠ [] → Out B Z (.slice ao p.length cap)) (t : Int) :
    Calls Tryz.prog 12 #[.pointer (some ⟨pb, 0, none⟩), .agg #[.int .i64 1, .int .i64 x1, .slice ao p.length cap, .int .u8 t]] w (DoP w B pb sb wb lb xb (apO [97] u ps las ss sz dead p) (k + 1)) := by
  have hB1 : Below w.heap.size w (w.alloc (.cells #[.int .i64 1, .int .i64 x1, .slice ao p.length cap, .int .u8 t] 40)) := (Below.refl _ _).alloc (Nat.le_refl _) _
  have hw1 : Cw (w.alloc (.cells #[.int .i64 1, .int .i64 x1, .slice ao p.length cap, .int .u8 t] 40)) w.heap.size [.int .i64 1, .int .i64 x1, .slice ao p.length cap, .int .u8 t] 40 := Cw.new w [.int .i64 1, .int .i64 x1, .slice ao p.length cap, .int .u8 t] 40
  have hs1 : (w.alloc (.cells #[.int .i64 1, .int .i64 x1, .slice ao p.length cap, .int .u8 t] 40)).heap.size = w.heap.size + 1 := World.size_alloc _ _
  have hb1 : Bs (w.alloc (.cells #[.int .i64 1, .int .i64 x1, .slice ao p.length cap, .int .u8 t] 40)) (.slice ao p.length cap) p := hb.keep fun j _ hj => hB1.block j hj
  have CR := roomy_any (.slice ao p.length cap) p _ hb1 (by omega)
  have c0 := hw1.cell 0
  have c2 := hw1.cell 2
  simp only [List.getElem?_cons_succ, List.getElem?_cons_zero] at c0 c2
  obtain ⟨o, hoo⟩ : ∃ o, apO [97] u ps las ss sz dead p = o := ⟨_, rfl⟩
  rw [hoo]
  have HO := hid_into hoo
  have HH := hid_into h
  have HC := hid_into hc
  have HBS := hid_into hb
  have hbw := hc.bw
  have HZ := hid_into hZ
  obtain ⟨W1, hW1⟩ : ∃ W1, w.alloc (.cells #[.int .i64 1, .int .i64 x1, .slice ao p.length cap, .int .u8 t] 40) = W1 := ⟨_, rfl⟩
  rw [hW1] at hB1 hw1 hs1 hb1 CR c0 c2
  clear h hc hoo hb hZ
  go_enter Tryz.func12, Tryz.ntmps12
  go_wp2_with fail
  refine CR.mono ?_
  rintro e w2 ⟨g, cg, rfl, hO2, hB2, hg2, hcg⟩
  have hBx : Below w.heap.size w w2 := hB1.trans (hB2.mono (by omega))
  have hs2 := hB2.size
  have hG2 : Hid (g < w2.heap.size) := (World.ownsRow.lt hO2 g rfl).2
  have hP5 : Hid (pb < w.heap.size) := HH.out.pair.lt
  have hH2 : Hs w2.drew B Z pb sb wb lb xb u ps las ss sz dead k := (HH.out.below hBx).keep (Nat.le_refl _) fun _ _ _ _ => rfl
  have hC2 : Cx w2.drew B := (HC.out.below (hBx.mono hbw)).below (Below.refl _ _).drew
  have hP2 := hH2.pair
  have hcp2 : w2.drew.cell? ⟨pb, 2, none⟩ = some (.pointer (some ⟨lb, 0, none⟩)) := hP2.cell 2
  have hcb2 : w2.drew.cell? ⟨w.heap.size, 2, none⟩ = some (.slice ao p.length cap) := (hw1.below hB2 (by omega)).cell 2
  have hbs2 : Bs w2.drew (.slice (some ⟨g, 0, none⟩) p.length cg) p := by
    have := (hO2.take p.length (by simp)).bs
    rw [show (p ++ [(171 : Int)]).take p.length = p by simp] at this
    exact this
  have hout2 : Out B Z (.slice (some ⟨g, 0, none⟩) p.length cg) := fun j hj => by
    simp only [Value.ownBlock, Option.some.injEq] at hj
    exact Or.inr fun e => by have := HZ.out j e; omega
  have CA := LAp2 hH2 hk hC2 (some ⟨g, 0, none⟩) cg p hbs2 hy hout2
  rw [HO.out] at CA
  have hq1 : p.length ≤ cg := by omega
  have hqm : cg ≤ maxLen := (hO2.bounds).2.2
  unfold maxLen at hqm
  clear CR hH2 hC2 hP2 hbs2 hout2
  go_wp2_with fail
  have HX3 : Hid (∀ w3, Grows (Zn B Z pb) w2.drew w3 → w3.cell? ⟨pb, 2, none⟩ = some (.pointer (some ⟨lb, 0, none⟩)) ∧ w3.cell? ⟨w.heap.size, 2, none⟩ = some (.slice ao p.length cap)) := fun w3 hg => ⟨cell_grows hg hcp2 fun e => e.2 rfl, cell_grows hg hcb2 fun e => by have := HZ.out _ e.1.2; omega⟩
  go_region_held3 (fun x => x.cell? ⟨pb, 2, none⟩ = some (.pointer (some ⟨lb, 0, none⟩)) ∧ x.cell? ⟨w.heap.size, 2, none⟩ = some (.slice ao p.length cap)) (first | exact ⟨hcp2, hcb2⟩ | assumption)
    (first | (go_at_call 16; refine CA.mono ?_; rintro e w3 ⟨rfl, hg3, hM3⟩; have hS3 := HX3.out w3 hg3))
  have hs3 := hg3.size
  have hB2' : w2.drew.heap.size = w2.heap.size := rfl
  have hM3' : Hm w3.drew B Z w2.heap.size pb sb wb lb xb o u ps las ss sz dead k := hM3.below (Below.refl _ _).drew
  have hP3 : w3.drew.cell? ⟨pb, 3, none⟩ = some (.pointer (some ⟨xb, 0, none⟩)) := by
    obtain ⟨_, _, _, _, _, _, hT, _⟩ := hM3'
    exact hT.p.cell 3
  have hcb3 : w3.drew.cell? ⟨w.heap.size, 2, none⟩ = some (.slice ao p.length cap) := hS3.2
  have hO3 : Ow w3 W1.heap.size (.slice (some ⟨g, 0, none⟩) (p.length + 1) cg) (p ++ [171]) := hO2.keep fun j hj => by
    simp only [Value.ownBlock, Option.some.injEq] at hj
    have hlt := (World.ownsRow.lt hO2 j (by simp [Value.ownBlock, hj])).2
    exact hg3.block j hlt fun e => by have := HZ.out _ e.1.2; omega
  have hbs3 : Bs w3.drew (.slice ao p.length cap) p := by
    have h2 : Bs w2.drew (.slice ao p.length cap) p := HBS.out.keep fun j _ hj => hBx.block j hj
    refine (h2.keep0 (w' := w3) fun hne j hj hlt => hg3.block j hlt fun e => ?_).keep fun _ _ _ => rfl
    rcases ho hne j hj with e2 | e2
    · have := e.1.1; omega
    · exact e2 e.1.2
  have CX := fun (hoo : apO [97] u ps las ss sz dead p = o) => XAp2 (p := p) (by rw [hoo]; exact hM3') hk (show B ≤ w3.drew.heap.size by show B ≤ w3.heap.size; omega) (show w2.heap.size ≤ w3.heap.size from hs3) ao cap hbs3 hy ho
  replace CX := CX HO.out
  rw [HO.out] at CX
  have HO3 := hid_into hO3
  have HG3 := hid_into hg3
  clear CA HX3 hM3 hM3' hcp2 hcb2 hS3 hO2 hbs3 hg3 hO3
  go_wp2_with fail
  have HX4 : Hid (∀ w4, Grows (Zn B Z pb) w3.drew w4 → w4.cell? ⟨pb, 3, none⟩ = some (.pointer (some ⟨xb, 0, none⟩)) ∧ w4.cell? ⟨w.heap.size, 2, none⟩ = some (.slice ao p.length cap)) := fun w4 hg => ⟨cell_grows hg hP3 fun e => e.2 rfl, cell_grows hg hcb3 fun e => by have := HZ.out _ e.1.2; omega⟩
  go_region_held3 (fun x => x.cell? ⟨pb, 3, none⟩ = some (.pointer (some ⟨xb, 0, none⟩)) ∧ x.cell? ⟨w.heap.size, 2, none⟩ = some (.slice ao p.length cap)) (first | exact ⟨hP3, hcb3⟩ | assumption)
    (first | (go_at_call 17; refine CX.mono ?_; rintro e w4 ⟨rfl, hg4, hH4⟩; have hS4 := HX4.out w4 hg4))
  have hs4 : w3.heap.size ≤ w4.heap.size := hg4.size
  have hO4 : Ow w4 W1.heap.size (.slice (some ⟨g, 0, none⟩) (p.length + 1) cg) (p ++ [171]) := HO3.out.keep fun j hj => by
    simp only [Value.ownBlock, Option.some.injEq] at hj
    have hlt := (World.ownsRow.lt HO3.out j (by simp [Value.ownBlock, hj])).2
    exact hg4.block j hlt fun e => by have := HZ.out _ e.1.2; omega
  have hbs4 : Bs w4 (.slice ao p.length cap) p := by
    have h2 : Bs w2.drew (.slice ao p.length cap) p := HBS.out.keep fun j _ hj => hBx.block j hj
    refine (h2.keep0 (w' := w3) fun hne j hj hlt => HG3.out.block j hlt fun e => ?_).keep0 fun hne j hj hlt => hg4.block j hlt fun e => ?_
    · rcases ho hne j hj with e2 | e2
      · have := e.1.1; omega
      · exact e2 e.1.2
    · rcases ho hne j hj with e2 | e2
      · have := e.1.1; omega
      · exact e2 e.1.2
  have hcb4 := hS4.2
  have CS := stands_any W1.heap.size g cg (.slice ao p.length cap) p w4 hO4 hbs4 (by omega)
  have HO4 := hid_into hO4
  have HG4 := hid_into hg4
  have HH4 := hid_into hH4
  clear CX HX4 hP3 hcb3 hS4 hbs4 hg4 hH4 HO3 hO4
  go_wp2_with fail
  refine CS.mono ?_
  rintro e w5 ⟨rfl, hs5⟩
  have hO5 : Ow w5 W1.heap.size (.slice (some ⟨g, 0, none⟩) (p.length + 1) cg) (p ++ [171]) := HO4.out.keep fun j _ => by rw [hs5.heap]
  have hlp : (p ++ [(171 : Int)]).length = p.length + 1 := by simp
  have CP := spoil_any W1.heap.size (.slice (some ⟨g, 0, none⟩) (p.length + 1) cg) (p ++ [171]) w5 hO5 (by rw [hs5.size]; omega) (by rw [hlp]; omega)
  have hglt : g < w5.heap.size := (World.ownsRow.lt hO5 g rfl).2
  clear CS HO4 hO5 hcb4
  go_wp2_with fail
  refine CP.mono ?_
  rintro e w6 ⟨rfl, hg6⟩
  have HF : Hid (DoP w B pb sb wb lb xb o (k + 1) (.returned (.bool true)) w6) := by
    have hb6 : ∀ j, j < w5.heap.size → j ≠ g → w6.heap[j]? = w5.heap[j]? := fun j hj hne => hg6.block j hj fun e => hne (by simp only [Value.ownBlock, Option.some.injEq] at e; omega)
    have hz5 := hs5.size
    have hz6 := hg6.size
    refine ⟨rfl, ⟨hg6.os.trans (hs5.os.trans (HG4.out.os.trans (HG3.out.os.trans hBx.os))), hg6.tape.trans (hs5.tape.trans (HG4.out.tape.trans (HG3.out.tape.trans hBx.tape))), hg6.output.trans (hs5.output.trans (HG4.out.output.trans (HG3.out.output.trans hBx.output))), by omega, fun j hj hnj => ?_⟩, ?_⟩
    · rw [hb6 j (by omega) (by omega), hs5.heap, HG4.out.block j (by show j < w3.heap.size; omega) fun e => hnj e.1.1]
      show w3.heap[j]? = _
      rw [HG3.out.block j (by show j < w2.heap.size; omega) fun e => hnj e.1.1]
      exact hBx.block j (by omega)
    · have h5 : Hs w5 B (fun j => Z j ∨ w2.heap.size ≤ j) pb sb wb lb xb o.u o.ps o.las o.ss o.sz o.dead (k + 1) := HH4.out.keep (by omega) fun j _ _ _ => by rw [hs5.heap]
      refine (h5.keep (w' := w6) hz6 fun j _ hlt hj => hb6 j hlt fun e => ?_).tight
      have hgw := hG2.out
      rcases hj with (e2 | e2) | e2
      · have := HZ.out j e2; omega
      · omega
      · have := hP5.out; omega
  clear HH4 HG4 HG3 CP hg6
  go_wp2_with fail
  go_ret
  exact HF.out
end Go.Proofs.YtnkjhooeklodcaaGreatDoor
end

section
/-
  does: Sync; a Crash and Open; in both.
-/
namespace Go.Proofs.YtnkjhooeklodcaaGreatDoor
open Go.RowKit Go.Maps Go.Sort

variable {w w' w1 w2 : World} {B N pb sb wb lb xb : Nat} {Z D F G H : Nat → Prop} {u u' v : Ud} {es fs : List En} {las : Nat} {sz k : Nat} {dead : Bool} {ss : List Nat} {ps : List (List Int)} {l x : Value}
set_option maxHeartbeats 8000000 in
set_option maxRecDepth 100000 in
theorem does2 (h : Hs w B Z pb sb wb lb xb u ps las ss sz dead k) (hk : k ≤ 1000) (hc : Cx w B) (x1 : Int) (sv : Value) (hsv : ∃ ao m cap, sv = .slice ao m cap) (t : Int) :
    Calls Tryz.prog 12 #[.pointer (some ⟨pb, 0, none⟩), .agg #[.int .i64 2, .int .i64 x1, sv, .int .u8 t]] w (DoP w B pb sb wb lb xb (syO [97] u ps las ss sz dead) (k + 1)) := by
  obtain ⟨ao, m, cap, rfl⟩ := hsv
  have hB1 : Below w.heap.size w (w.alloc (.cells #[.int .i64 2, .int .i64 x1, .slice ao m cap, .int .u8 t] 40)) := (Below.refl _ _).alloc (Nat.le_refl _) _
  have hw1 : Cw (w.alloc (.cells #[.int .i64 2, .int .i64 x1, .slice ao m cap, .int .u8 t] 40)) w.heap.size [.int .i64 2, .int .i64 x1, .slice ao m cap, .int .u8 t] 40 := Cw.new w [.int .i64 2, .int .i64 x1, .slice ao m cap, .int .u8 t] 40
  have hs1 : (w.alloc (.cells #[.int .i64 2, .int .i64 x1, .slice ao m cap, .int .u8 t] 40)).heap.size = w.heap.size + 1 := World.size_alloc _ _
  have c0 := hw1.cell 0
  simp only [List.getElem?_cons_zero] at c0
  obtain ⟨o, hoo⟩ : ∃ o, syO [97] u ps las ss sz dead = o := ⟨_, rfl⟩
  rw [hoo]
  have HO := hid_into hoo
  have hbw := hc.bw
  obtain ⟨W1, hW1⟩ : ∃ W1, w.alloc (.cells #[.int .i64 2, .int .i64 x1, .slice ao m cap, .int .u8 t] 40) = W1 := ⟨_, rfl⟩
  rw [hW1] at hB1 hw1 hs1 c0
  have hH2 : Hs W1.drew B Z pb sb wb lb xb u ps las ss sz dead k := (h.below hB1).keep (Nat.le_refl _) fun _ _ _ _ => rfl
  have hC2 : Cx W1.drew B := (hc.below (hB1.mono hbw)).below (Below.refl _ _).drew
  have hP2 := hH2.pair
  have hcp2 : W1.drew.cell? ⟨pb, 2, none⟩ = some (.pointer (some ⟨lb, 0, none⟩)) := hP2.cell 2
  have hcp3 : W1.drew.cell? ⟨pb, 3, none⟩ = some (.pointer (some ⟨xb, 0, none⟩)) := hP2.cell 3
  have CA := LSy2 hH2 hk hC2
  rw [hoo] at CA
  have HX3 : Hid (∀ w3, Grows (Zn B Z pb) W1.drew w3 → w3.cell? ⟨pb, 2, none⟩ = some (.pointer (some ⟨lb, 0, none⟩)) ∧ w3.cell? ⟨pb, 3, none⟩ = some (.pointer (some ⟨xb, 0, none⟩))) := fun w3 hg => ⟨cell_grows hg hcp2 fun e => e.2 rfl, cell_grows hg hcp3 fun e => e.2 rfl⟩
  have HX4 : Hid (∀ w3 w4, Grows (Zn B Z pb) W1.drew w3 → Grows (Zn B Z pb) w3 w4 → w4.cell? ⟨pb, 2, none⟩ = some (.pointer (some ⟨lb, 0, none⟩)) ∧ w4.cell? ⟨pb, 3, none⟩ = some (.pointer (some ⟨xb, 0, none⟩))) := fun w3 w4 hg hg4 => ⟨cell_grows hg4 (HX3.out w3 hg).1 fun e => e.2 rfl, cell_grows hg4 (HX3.out w3 hg).2 fun e => e.2 rfl⟩
  have HCX : Hid (∀ w3, Grows (Zn B Z pb) W1.drew w3 → Hm w3 B Z W1.drew.heap.size pb sb wb lb xb o u ps las ss sz dead k → Calls Tryz.prog 19 #[.pointer (some ⟨xb, 0, none⟩)] w3 fun e w' => e = .returned (.int .i64 o.er) ∧ Grows (Zn B Z pb) w3 w' ∧ Hs w' B (fun j => Z j ∨ W1.drew.heap.size ≤ j) pb sb wb lb xb o.u o.ps o.las o.ss o.sz o.dead (k + 1)) := by
    intro w3 hg3 hM3
    have hs3 := hg3.size
    rw [← HO.out] at hM3 ⊢
    exact XSy2 hM3 (by have : W1.drew.heap.size = W1.heap.size := rfl; omega) hs3
  clear h hc hoo hw1 hH2 hC2 hP2
  go_enter Tryz.func12, Tryz.ntmps12
  go_wp2_with fail
  go_region_held3 (fun x => x.cell? ⟨pb, 2, none⟩ = some (.pointer (some ⟨lb, 0, none⟩)) ∧ x.cell? ⟨pb, 3, none⟩ = some (.pointer (some ⟨xb, 0, none⟩))) (first | exact ⟨hcp2, hcp3⟩ | assumption)
    (first
      | (go_at_call 18; refine CA.mono ?_; rintro e w3 ⟨rfl, hg3, hM3⟩; have hS3 := HX3.out w3 hg3)
      | (go_at_call 19; refine (HCX.out w3 hg3 hM3).mono ?_; rintro e w4 ⟨rfl, hg4, hH4⟩; have hS4 := HX4.out w3 w4 hg3 hg4))
  have HF : Hid (DoP w B pb sb wb lb xb o (k + 1) (.returned (.bool true)) w4) := by
    have hs3 : W1.heap.size ≤ w3.heap.size := hg3.size
    have hs4 := hg4.size
    refine ⟨rfl, ⟨hg4.os.trans (hg3.os.trans hB1.os), hg4.tape.trans (hg3.tape.trans hB1.tape), hg4.output.trans (hg3.output.trans hB1.output), by omega, fun j hj hnj => ?_⟩, hH4.tight⟩
    rw [hg4.block j (by omega) fun e => hnj e.1.1, hg3.block j (by show j < W1.heap.size; omega) fun e => hnj e.1.1]
    exact hB1.block j hj
  clear CA HX3 HX4 HCX hM3 hH4 hS3 hS4 hg3 hg4
  go_wp2_with fail
  go_ret
  exact HF.out
/-- A disk of the pair was called. -/
theorem Pa.pcall (h : Pa w B pb sb wb l x D G u v) (hB : B ≤ w.heap.size) (hr : PRes D sb u' w w') : (∃ D', Pa w' B pb sb wb l x D' G u' v) ∧ Grows (fun j => B ≤ j ∧ j ≠ pb) w w' := by
  obtain ⟨hp, hg⟩ := hr
  have hpl := h.p.lt
  have hno : ∀ k, k < w.heap.size → ¬ D k → w'.heap[k]? = w.heap[k]? := fun k hk hn => hg.block k hk hn
  refine ⟨⟨fun k => Pl D w.heap.size k ∧ k < w'.heap.size, h.p.keep (hno pb hpl fun e => (h.lo pb (Or.inl e)).2 rfl), hp.more fun k hk hl => ⟨hk, hl⟩, h.q.keep fun k hk hlt => hno k hlt fun e => h.ap k e hk, fun k hk => hk.2, fun k hk => Nat.lt_of_lt_of_le (h.gl k hk) hg.size, fun k hk => ?_, h.pB, fun k hk hgk => ?_⟩, hg.mono fun j hj => h.lo j (Or.inl hj)⟩
  · rcases hk with hk | hk
    · rcases hk.1 with e | e
      · exact h.lo k (Or.inl e)
      · exact ⟨by omega, by omega⟩
    · exact h.lo k (Or.inr hk)
  · rcases hk.1 with e | e
    · exact h.ap k e hgk
    · have := h.gl k hgk; omega
theorem Pa.qcall (h : Pa w B pb sb wb l x D G u v) (hB : B ≤ w.heap.size) (hr : QRes G wb u' w w') : (∃ G', Pa w' B pb sb wb l x D G' u u') ∧ Grows (fun j => B ≤ j ∧ j ≠ pb) w w' := by
  obtain ⟨hp, hg⟩ := hr
  have hpl := h.p.lt
  have hno : ∀ k, k < w.heap.size → ¬ G k → w'.heap[k]? = w.heap[k]? := fun k hk hn => hg.block k hk hn
  refine ⟨⟨fun k => Pl G w.heap.size k ∧ k < w'.heap.size, h.p.keep (hno pb hpl fun e => (h.lo pb (Or.inr e)).2 rfl), h.d.keep fun k hk hlt => hno k hlt fun e => h.ap k hk e, hp.more fun k hk hl => ⟨hk, hl⟩, fun k hk => Nat.lt_of_lt_of_le (h.dl k hk) hg.size, fun k hk => hk.2, fun k hk => ?_, h.pB, fun k hk hgk => ?_⟩, hg.mono fun j hj => h.lo j (Or.inr hj)⟩
  · rcases hk with hk | hk
    · exact h.lo k (Or.inl hk)
    · rcases hk.1 with e | e
      · exact h.lo k (Or.inr e)
      · exact ⟨by omega, by omega⟩
  · rcases hgk.1 with e | e
    · exact h.ap k hk e
    · have := h.dl k hk; omega
theorem Pa.below (h : Pa w B pb sb wb l x D G u v) (hb : Below w.heap.size w w') : Pa w' B pb sb wb l x D G u v :=
  ⟨h.p.below hb h.p.lt, h.d.to hb, h.q.to hb, fun k hk => Nat.lt_of_lt_of_le (h.dl k hk) hb.size, fun k hk => Nat.lt_of_lt_of_le (h.gl k hk) hb.size, h.lo, h.pB, h.ap⟩
theorem lkU_crash (keep : Nat) (t : Int) (x : Nm) : ∀ us : Us, (lkU (us.map (crA keep t)) x).isSome = (lkU us x).isSome
  | [] => rfl
  | p :: us => by
    rw [List.map_cons, lkU_cons, lkU_cons]
    have e : (crA keep t p).1 = p.1 := rfl
    rw [e]
    split
    · rfl
    · exact lkU_crash keep t x us
set_option maxHeartbeats 8000000 in
set_option maxRecDepth 100000 in
theorem does3 (h : Hs w B Z pb sb wb lb xb u ps las ss sz dead k) (hc : Cx w B) (x1 : Int) (hx1 : (Lit.int .i64 x1).wf = true) (sv : Value) (hsv : ∃ ao m cap, sv = .slice ao m cap) (t : Int) (ht : 0 ≤ t ∧ t < 256) :
    Calls Tryz.prog 12 #[.pointer (some ⟨pb, 0, none⟩), .agg #[.int .i64 3, .int .i64 x1, sv, .int .u8 t]] w fun e w' => e = .returned (.bool true) ∧ Grows (fun j => B ≤ j) w w' ∧ (openF [97] (u.crash x1 t)).1.2.left = -1 ∧
      ∃ lb xb sz, Hs w' B (fun j => j < w'.heap.size) pb sb wb lb xb (openF [97] (u.crash x1 t)).1.2 (openF [97] (u.crash x1 t)).2.1 (openF [97] (u.crash x1 t)).2.1.length (openF [97] (u.crash x1 t)).2.2 sz false 0 := by
  obtain ⟨ao, m, cap, rfl⟩ := hsv
  have hB1 : Below w.heap.size w (w.alloc (.cells #[.int .i64 3, .int .i64 x1, .slice ao m cap, .int .u8 t] 40)) := (Below.refl _ _).alloc (Nat.le_refl _) _
  have hw1 : Cw (w.alloc (.cells #[.int .i64 3, .int .i64 x1, .slice ao m cap, .int .u8 t] 40)) w.heap.size [.int .i64 3, .int .i64 x1, .slice ao m cap, .int .u8 t] 40 := Cw.new w [.int .i64 3, .int .i64 x1, .slice ao m cap, .int .u8 t] 40
  have hs1 : (w.alloc (.cells #[.int .i64 3, .int .i64 x1, .slice ao m cap, .int .u8 t] 40)).heap.size = w.heap.size + 1 := World.size_alloc _ _
  have c0 := hw1.cell 0
  simp only [List.getElem?_cons_zero] at c0
  have hx2 := (bounds_i64 hx1).2
  have hbw := hc.bw
  obtain ⟨D, G, hPa, hnl, hrm⟩ := h.pa
  have hg := hPa.d.good
  have hbx : Below B w (w.alloc (.cells #[.int .i64 3, .int .i64 x1, .slice ao m cap, .int .u8 t] 40)) := hB1.mono hbw
  obtain ⟨W1, hW1⟩ : ∃ W1, w.alloc (.cells #[.int .i64 3, .int .i64 x1, .slice ao m cap, .int .u8 t] 40) = W1 := ⟨_, rfl⟩
  rw [hW1] at hB1 hw1 hs1 c0 hbx
  have hP1 : Pa W1.drew B pb sb wb _ _ D G u u := (hPa.below hB1).below (Below.refl _ _).drew
  have hC1 : Cx W1.drew B := (hc.below hbx).below (Below.refl _ _).drew
  have hpB := hPa.pB
  have hpl := hPa.p.lt
  have hcp0 : W1.drew.cell? ⟨pb, 0, none⟩ = some (.pointer (some ⟨sb, 0, none⟩)) := hP1.p.cell 0
  have hcb1 : W1.drew.cell? ⟨w.heap.size, 1, none⟩ = some (.int .i64 x1) := hw1.cell 1
  have hcb3 : W1.drew.cell? ⟨w.heap.size, 3, none⟩ = some (.int .u8 t) := hw1.cell 3
  have C1 := pCrash hP1.d x1 t (by omega) ht
  have HB : Hid (∀ W W' : World, PRes D sb (u.crash x1 t) W W' → W.heap[w.heap.size]? = W1.heap[w.heap.size]? → w.heap.size < W.heap.size → Cw W' w.heap.size [.int .i64 3, .int .i64 x1, .slice ao m cap, .int .u8 t] 40) := fun W W' hr e hlt => (hw1.keep e).keep (hr.2.block _ hlt fun e => by have := hPa.dl _ e; omega)
  have HQB : Hid (∀ W W' : World, QRes G wb (u.crash x1 t) W W' → Cw W w.heap.size [.int .i64 3, .int .i64 x1, .slice ao m cap, .int .u8 t] 40 → Cw W' w.heap.size [.int .i64 3, .int .i64 x1, .slice ao m cap, .int .u8 t] 40) := fun W W' hr hcw => hcw.keep (hr.2.block _ hcw.lt fun e => by have := hPa.gl _ e; omega)
  have HP1 := hid_into hP1
  have HC1 := hid_into hC1
  clear h hc hPa hP1 hC1
  go_enter Tryz.func12, Tryz.ntmps12
  go_wp2_with fail
  go_region_held3 (fun x => x.cell? ⟨pb, 0, none⟩ = some (.pointer (some ⟨sb, 0, none⟩)) ∧ x.cell? ⟨w.heap.size, 1, none⟩ = some (.int .i64 x1) ∧ x.cell? ⟨w.heap.size, 3, none⟩ = some (.int .u8 t)) (first | exact ⟨hcp0, hcb1, hcb3⟩ | assumption)
    (first | (go_at_call 20; refine C1.mono ?_; rintro e w3 ⟨rfl, hr3⟩; have hcw3 := HB.out _ w3 hr3 rfl (by show w.heap.size < W1.heap.size; omega); obtain ⟨⟨D3, hP3⟩, hg3⟩ := HP1.out.pcall (by show B ≤ W1.heap.size; omega) hr3; have hS3 : w3.cell? ⟨pb, 0, none⟩ = some (.pointer (some ⟨sb, 0, none⟩)) ∧ w3.cell? ⟨w.heap.size, 1, none⟩ = some (.int .i64 x1) ∧ w3.cell? ⟨w.heap.size, 3, none⟩ = some (.int .u8 t) := ⟨hP3.p.cell 0, hcw3.cell 1, hcw3.cell 3⟩))
  have hs3 : W1.heap.size ≤ w3.heap.size := hg3.size
  have hcp1 : w3.drew.cell? ⟨pb, 1, none⟩ = some (.pointer (some ⟨wb, 0, none⟩)) := hP3.p.cell 1
  have hcb1' : w3.drew.cell? ⟨w.heap.size, 1, none⟩ = some (.int .i64 x1) := hS3.2.1
  have hcb3' : w3.drew.cell? ⟨w.heap.size, 3, none⟩ = some (.int .u8 t) := hS3.2.2
  have hP3' : Pa w3.drew B pb sb wb _ _ D3 G (u.crash x1 t) u := hP3.below (Below.refl _ _).drew
  have C2 := qCrash hP3'.q hg x1 t (by omega) ht
  have HP3 := hid_into hP3'
  have HG3 := hid_into hg3
  clear C1 HB hS3 hP3 hP3' hr3 hg3 hcp0 hcb1 hcb3
  go_wp2_with fail
  go_region_held3 (fun x => x.cell? ⟨pb, 1, none⟩ = some (.pointer (some ⟨wb, 0, none⟩)) ∧ x.cell? ⟨w.heap.size, 1, none⟩ = some (.int .i64 x1) ∧ x.cell? ⟨w.heap.size, 3, none⟩ = some (.int .u8 t)) (first | exact ⟨hcp1, hcb1', hcb3'⟩ | assumption)
    (first | (go_at_call 21; refine C2.mono ?_; rintro e w4 ⟨rfl, hr4⟩; have hcw4 := HQB.out _ w4 hr4 hcw3; obtain ⟨⟨G4, hP4⟩, hg4⟩ := HP3.out.qcall (by show B ≤ w3.heap.size; omega) hr4; have hS4 : w4.cell? ⟨pb, 1, none⟩ = some (.pointer (some ⟨wb, 0, none⟩)) ∧ w4.cell? ⟨w.heap.size, 1, none⟩ = some (.int .i64 x1) ∧ w4.cell? ⟨w.heap.size, 3, none⟩ = some (.int .u8 t) := ⟨hP4.p.cell 1, hcw4.cell 1, hcw4.cell 3⟩))
  have hs4 : w3.heap.size ≤ w4.heap.size := hg4.size
  have hC4 : Cx w4 B := ((HC1.out.grows HG3.out fun j e => e.1).below (Below.refl _ _).drew).grows hg4 fun j e => e.1
  have C3 := open_two hP4 (fun y hy => hnl y (by rw [← lkU_crash x1.toNat t]; exact hy)) hrm rfl hC4
  have HG4 := hid_into hg4
  clear C2 HQB hS4 hP4 hr4 hg4 hcp1 hcb1' hcb3' hC4
  go_wp2_with fail
  refine C3.mono ?_
  rintro e w5 ⟨rfl, hb5, hl5, lb5, xb5, sz5, hH5⟩
  have HF : Hid (Grows (fun j => B ≤ j) w w5 ∧ (openF [97] (u.crash x1 t)).1.2.left = -1 ∧ ∃ lb xb sz, Hs w5 B (fun j => j < w5.heap.size) pb sb wb lb xb (openF [97] (u.crash x1 t)).1.2 (openF [97] (u.crash x1 t)).2.1 (openF [97] (u.crash x1 t)).2.1.length (openF [97] (u.crash x1 t)).2.2 sz false 0) := by
    have hs5 := hb5.size
    refine ⟨⟨hb5.os.trans (HG4.out.os.trans (HG3.out.os.trans hB1.os)), hb5.tape.trans (HG4.out.tape.trans (HG3.out.tape.trans hB1.tape)), hb5.output.trans (HG4.out.output.trans (HG3.out.output.trans hB1.output)), by omega, fun j hj hnj => ?_⟩, hl5, lb5, xb5, sz5, hH5⟩
    rw [hb5.block j (by omega), HG4.out.block j (by show j < w3.heap.size; omega) fun e => hnj e.1]
    show w3.heap[j]? = _
    rw [HG3.out.block j (by show j < W1.heap.size; omega) fun e => hnj e.1]
    exact hB1.block j hj
  clear C3 hH5 hb5 HG4 HG3
  go_wp2_with fail
  go_ret
  exact ⟨rfl, HF.out⟩
end Go.Proofs.YtnkjhooeklodcaaGreatDoor
end

section
/-
  The law's known: what was synced, and not more. It answers true, and writes nothing that was there.
-/
namespace Go.Proofs.YtnkjhooeklodcaaGreatDoor
open Go.RowKit Go.Maps Go.Sort
open Fr (entN takeR decE)

variable {w w' : World}
theorem xq_take (m i : Nat) (t : Int) (ys : List Int) (l : Nat) (h : l ≤ m) : (xq m i t ys).take l = ys.take l := by
  apply List.ext_getElem
  · simp [xq]
  · intro j h1 h2
    have hj : j < l := by rw [List.length_take] at h1; omega
    simp only [List.getElem_take, xq, List.getElem_mapIdx]
    rw [if_neg (by omega)]
/-- What lasted is there behind a crash, and some bytes behind it. -/
theorem crB_form (zs : List Int) (l k : Nat) (t : Int) (hl : l ≤ zs.length) : ∃ tail, crB zs l k t = zs.take l ++ tail ∧ tail.length = k % (zs.length - l + 1) := by
  have hn := crN_le zs l k hl
  have hlen : (crB zs l k t).length = crN zs l k := by
    unfold crB
    rw [xq_length, List.length_take]
    omega
  have h1 : (crB zs l k t).take l = zs.take l := by
    unfold crB crM
    rw [xq_take _ _ _ _ _ (Nat.le_max_left _ _), List.take_take, Nat.min_eq_left]
    unfold crN
    omega
  refine ⟨(crB zs l k t).drop l, ?_, ?_⟩
  · rw [← h1, List.take_append_drop]
  · rw [List.length_drop, hlen]
    unfold crN
    omega
theorem takeR_short {zs : List Int} (n : Int) (h : zs.length < 8) : takeR n zs = none := by
  unfold Fr.takeR
  rw [if_neg]
  intro e
  have h1 := Fr.headE_short h
  rw [Fr.decE_head (by rw [h1]; decide), h1] at e
  exact absurd e.1 (by decide)
/-- The name of the first segment. -/
def nm1 : Nm := nameN [97] 1
theorem nm1_bad : badN nm1 = false := by
  unfold badN nm1
  rw [nameN_len [97] 1 (by decide)]
  decide
theorem full_no {us : Us} {x : Nm} {m : Nat} {room : Int} (h1 : (totU us : Int) + (m : Int) ≤ room) (h2 : us.length < 4096) : fullU us x m room = false := by
  unfold fullU
  rw [decide_eq_false (by omega), decide_eq_false (by omega)]
  simp
theorem wr_free {u : Ud} (hl : u.left = -1) {x : Nm} (hb : badN x = false) (b : List Int) (h1 : (totU u.us : Int) + (b.length : Int) ≤ u.room) (h2 : u.us.length < 4096) : u.five [x] (wrU x b u.room) = (0, ⟨u.room, ptU u.us x ((at0U u.us x).1 ++ b, (at0U u.us x).2), -1⟩) := by
  rw [five_free hl hb]
  unfold wrU
  rw [if_neg (by rw [full_no h1 h2]; decide)]
theorem ap_first (p : List Int) (sz : Nat) (hp : p.length ≤ 1000) : apO [97] ⟨10000, [], -1⟩ [] 0 [] sz false p = ⟨1, 0, ⟨10000, [(nm1, entN 1 p, 0)], -1⟩, [p], 0, [1], (entN 1 p).length, false⟩ := by
  have hb := (ent_le 0 p).2
  have e1 : (((([] : List (List Int)).length : Nat) : Int) + 1) = 1 := rfl
  rw [show (((0 : Nat) : Int) + 1) = 1 from rfl] at hb
  unfold apO
  rw [if_neg (by decide), if_neg (by omega), if_neg (fun e => e.1 rfl)]
  have e2 : syS ⟨10000, [], -1⟩ ([] : List (List Int)).length 0 (nameN [97] (lastS [])) [] = (0, ⟨10000, [], -1⟩, 0, false) := if_pos rfl
  rw [e2, if_neg (fun e => e rfl), e1]
  have e3 := wr_free (u := ⟨10000, [], -1⟩) rfl nm1_bad (entN 1 p) (by show ((0 : Nat) : Int) + ((entN 1 p).length : Int) ≤ 10000; omega) (by decide)
  have e4 : (⟨10000, [], -1⟩ : Ud).five [nm1] (wrU nm1 (entN 1 p) 10000) = (0, ⟨10000, [(nm1, entN 1 p, 0)], -1⟩) := e3
  show apW ((⟨10000, [], -1⟩ : Ud).five [nm1] (wrU nm1 (entN 1 p) 10000)) [] p 0 [] [1] sz (entN 1 p).length = _
  rw [e4]
  rfl
theorem ap_more (zs : List Int) (l : Nat) (ps : List (List Int)) (las sz : Nat) (p : List Int) (hp : p.length ≤ 1000) (hz : sz < 512) (hzs : zs.length ≤ 5000) : apO [97] ⟨10000, [(nm1, zs, l)], -1⟩ ps las [1] sz false p = ⟨(ps.length : Int) + 1, 0, ⟨10000, [(nm1, zs ++ entN ((ps.length : Int) + 1) p, l)], -1⟩, ps ++ [p], las, [1], sz + (entN ((ps.length : Int) + 1) p).length, false⟩ := by
  have hb := (ent_le ps.length p).2
  unfold apO
  rw [if_neg (by decide), if_neg (by omega), if_pos ⟨by simp, hz⟩]
  have e3 := wr_free (u := ⟨10000, [(nm1, zs, l)], -1⟩) rfl nm1_bad (entN ((ps.length : Int) + 1) p) (by show ((totU [(nm1, zs, l)] : Nat) : Int) + _ ≤ 10000; simp [totU]; omega) (by show 1 < 4096; decide)
  have e4 : ptU [(nm1, zs, l)] nm1 ((at0U [(nm1, zs, l)] nm1).1 ++ entN ((ps.length : Int) + 1) p, (at0U [(nm1, zs, l)] nm1).2) = [(nm1, zs ++ entN ((ps.length : Int) + 1) p, l)] := by
    simp [ptU, dlU, insU, at0U, lkU]
  have e5 : (⟨10000, [(nm1, zs, l)], -1⟩ : Ud).five [nm1] (wrU nm1 (entN ((ps.length : Int) + 1) p) 10000) = (0, ⟨10000, [(nm1, zs ++ entN ((ps.length : Int) + 1) p, l)], -1⟩) := by
    rw [← e4]; exact e3
  show apW ((⟨10000, [(nm1, zs, l)], -1⟩ : Ud).five [nm1] (wrU nm1 (entN ((ps.length : Int) + 1) p) 10000)) ps p las [1] [1] sz (sz + (entN ((ps.length : Int) + 1) p).length) = _
  rw [e5]
  rfl
theorem sy_one (zs : List Int) (l : Nat) (ps : List (List Int)) (las sz : Nat) (h : las ≠ ps.length) : syO [97] ⟨10000, [(nm1, zs, l)], -1⟩ ps las [1] sz false = ⟨0, 0, ⟨10000, [(nm1, zs, zs.length)], -1⟩, ps, ps.length, [1], sz, false⟩ := by
  have e1 : (⟨10000, [(nm1, zs, l)], -1⟩ : Ud).five [nm1] (syU nm1) = (0, ⟨10000, [(nm1, zs, zs.length)], -1⟩) := by
    rw [five_free rfl nm1_bad]
    simp [syU, lkU, ptU, dlU, insU]
  have e2 : syL ⟨10000, [(nm1, zs, l)], -1⟩ ps.length las nm1 false = (0, ⟨10000, [(nm1, zs, zs.length)], -1⟩, ps.length, false) := by
    unfold syL
    rw [if_neg (by decide), if_neg h, e1]
    simp
  unfold syO
  rw [show nameN [97] (lastS [1]) = nm1 from rfl, e2]
/-- What an opening reads behind the crash. -/
theorem know_read (ps : List (List Int)) (hps : ∀ q ∈ ps, Epl q) (hne : ps ≠ []) (hl : ps.length ≤ 1000) (b3 : List Int) (hb3 : 13 ≤ b3.length) (t : Int) :
    (openF [97] ((⟨10000, [(nm1, entsN 0 ps ++ b3, (entsN 0 ps).length)], -1⟩ : Ud).crash 3 t)).2.1 = ps := by
  obtain ⟨tail, e1, e2⟩ := crB_form (entsN 0 ps ++ b3) (entsN 0 ps).length 3 t (by rw [List.length_append]; omega)
  rw [List.take_left] at e1
  rw [List.length_append, Nat.add_sub_cancel_left, Nat.mod_eq_of_lt (by omega)] at e2
  have hc : (⟨10000, [(nm1, entsN 0 ps ++ b3, (entsN 0 ps).length)], -1⟩ : Ud).crash 3 t = ⟨10000, [(nm1, entsN 0 ps ++ tail, crN (entsN 0 ps ++ b3) (entsN 0 ps).length 3)], -1⟩ := by
    show (⟨10000, [crA 3 t (nm1, entsN 0 ps ++ b3, (entsN 0 ps).length)], -1⟩ : Ud) = _
    unfold crA
    simp only [e1]
  rw [hc]
  generalize crN (entsN 0 ps ++ b3) (entsN 0 ps).length 3 = l
  have hseg : isSeg nm1 [97] = true := isSeg_name [97] (by decide)
  have hL : segsN (([(nm1, entsN 0 ps ++ tail, l)] : Us).map (·.1)) [97] = [nm1] := by simp [segsN, hseg]
  have hnum : numV (nm1.drop [97].length) = 1 := (seg_name hseg (by decide)).1 rfl
  have hat : (at0U [(nm1, entsN 0 ps ++ tail, l)] nm1).1 = entsN 0 ps ++ tail := by simp [at0U, lkU]
  have hrd := rdF_ents ps 0 tail hps (by omega) (takeR_short _ (by omega))
  have hlen0 : (entsN 0 ps).length ≠ 0 := by
    cases ps with
    | nil => exact absurd rfl hne
    | cons q qs =>
      have := (ent_le 0 q).1
      simp only [entsN, List.length_append]
      omega
  have hop : (opF [97] ⟨10000, [(nm1, entsN 0 ps ++ tail, l)], -1⟩ [nm1] 1).2.1 = ps := by
    simp only [opF, hat, Nat.sub_self, hrd]
    rw [if_neg (by rw [List.length_append]; omega), if_neg (by simp [allU]), if_neg (fun e => e.elim (fun h => h hnum) hlen0)]
  unfold openF
  simp only [hL]
  split
  · exact hop
  · exact hop
theorem DoP.cx {B pb sb wb lb xb k : Nat} {o : ApO} {e : Ending} (h : DoP w B pb sb wb lb xb o k e w') (hc : Cx w B) : Cx w' B := hc.grows h.2.1 fun _ e => e
theorem byt1 (z : Int) (h : 0 ≤ z ∧ z < 256) : Byt [z] := fun y hy => by rw [List.mem_singleton.1 hy]; exact h
/-- A state that is kept on and on. -/
def Kn (w : World) (B pb : Nat) (u : Ud) (ps : List (List Int)) (las : Nat) (ss : List Nat) (k : Nat) (w' : World) : Prop :=
  Grows (fun j => B ≤ j) w w' ∧ Cx w' B ∧ ∃ sb wb lb xb sz, Hs w' B (fun j => j < w'.heap.size) pb sb wb lb xb u ps las ss sz false k ∧ (ss ≠ [] → lenU u.us (nameN [97] (lastS ss)) = sz)
theorem Kn.mk {w0 : World} {B pb sb wb lb xb las sz k : Nat} {u : Ud} {ps : List (List Int)} {ss : List Nat} (hg : Grows (fun j => B ≤ j) w0 w) (hc : Cx w B) (h : Hs w B (fun j => j < w.heap.size) pb sb wb lb xb u ps las ss sz false k) : Kn w0 B pb u ps las ss k w := by
  refine ⟨hg, hc, sb, wb, lb, xb, sz, h, ?_⟩
  obtain ⟨_, _, _, _, _, _, _, _, _, h4, _⟩ := h
  exact h4.szq
theorem kn_append {w0 w1 : World} {B pb las k : Nat} {u u' : Ud} {ps ps' : List (List Int)} {ss ss' : List Nat} {las' : Nat} (h : Kn w0 B pb u ps las ss k w1) (hk : k ≤ 1000) (z : Int) (hz : 0 ≤ z ∧ z < 256) (ho : ∀ sz, (ss ≠ [] → lenU u.us (nameN [97] (lastS ss)) = sz) → ∃ sz' n, apO [97] u ps las ss sz false [z] = ⟨n, 0, u', ps', las', ss', sz', false⟩) :
    Calls Tryz.prog 12 #[.pointer (some ⟨pb, 0, none⟩), .agg #[.int .i64 1, .int .i64 0, .slice (some ⟨w1.heap.size, 0, none⟩) 1 1, .int .u8 0]] (w1.alloc (.cells #[.int .u8 z] 5 (1, 2))) fun e w' => e = .returned (.bool true) ∧ Kn w0 B pb u' ps' las' ss' (k + 1) w' := by
  obtain ⟨hg, hc, sb, wb, lb, xb, sz, hH, hsz⟩ := h
  obtain ⟨sz', n, e⟩ := ho sz hsz
  have hA : Below w1.heap.size w1 (w1.alloc (.cells #[.int .u8 z] 5 (1, 2))) := (Below.refl _ _).alloc (Nat.le_refl _) _
  have hbs : Bs (w1.alloc (.cells #[.int .u8 z] 5 (1, 2))) (.slice (some ⟨w1.heap.size, 0, none⟩) [z].length 1) [z] := Bs_of_block (zs := [z]) (heap_alloc_new w1 _) (by simp [maxLen])
  have hcA : Cx (w1.alloc (.cells #[.int .u8 z] 5 (1, 2))) B := hc.below (hA.mono hc.bw)
  have C := does1 (hH.below hA) hk hcA (fun j hj => Nat.lt_of_lt_of_le hj hA.size) 0 (some ⟨w1.heap.size, 0, none⟩) 1 [z] hbs (byt1 z hz) (by simp) (fun _ j hj => Or.inr fun e => by
    simp only [Value.ownBlock, Option.some.injEq] at hj
    have e' : j < w1.heap.size := e
    omega) 0
  rw [e] at C
  refine C.mono fun e w' hD => ?_
  have hcx := hD.cx hcA
  obtain ⟨rfl, hg2, hH2⟩ := hD
  refine ⟨rfl, Kn.mk ⟨hg2.os.trans (hA.os.trans hg.os), hg2.tape.trans (hA.tape.trans hg.tape), hg2.output.trans (hA.output.trans hg.output), Nat.le_trans hg.size (Nat.le_trans hA.size hg2.size), fun j hj hn => ?_⟩ hcx hH2⟩
  have h1 := hg.size
  have h2 := hA.size
  rw [hg2.block j (by omega) hn, hA.block j (by omega)]
  exact hg.block j hj hn
theorem kn_sync {w0 w1 : World} {B pb las k : Nat} {u u' : Ud} {ps : List (List Int)} {ss : List Nat} {las' : Nat} (h : Kn w0 B pb u ps las ss k w1) (hk : k ≤ 1000) (ho : ∀ sz, syO [97] u ps las ss sz false = ⟨0, 0, u', ps, las', ss, sz, false⟩) :
    Calls Tryz.prog 12 #[.pointer (some ⟨pb, 0, none⟩), .agg #[.int .i64 2, .int .i64 0, .slice none 0 0, .int .u8 0]] w1 fun e w' => e = .returned (.bool true) ∧ Kn w0 B pb u' ps las' ss (k + 1) w' := by
  obtain ⟨hg, hc, sb, wb, lb, xb, sz, hH, hsz⟩ := h
  have C := does2 hH hk hc 0 (.slice none 0 0) ⟨_, _, _, rfl⟩ 0
  rw [ho] at C
  refine C.mono fun e w' hD => ?_
  have hcx := hD.cx hc
  obtain ⟨rfl, hg2, hH2⟩ := hD
  exact ⟨rfl, Kn.mk (hg.trans hg2 fun j hj => Or.inl hj) hcx hH2⟩
theorem kn_crash {w0 w1 : World} {B pb las k : Nat} {u : Ud} {ps ps' : List (List Int)} {ss : List Nat} (h : Kn w0 B pb u ps las ss k w1) (n : Int) (hn : (Lit.int .i64 n).wf = true) (ho : (openF [97] (u.crash n 0)).2.1 = ps') :
    Calls Tryz.prog 12 #[.pointer (some ⟨pb, 0, none⟩), .agg #[.int .i64 3, .int .i64 n, .slice none 0 0, .int .u8 0]] w1 fun e w' => e = .returned (.bool true) ∧ ∃ u' ss', Kn w0 B pb u' ps' ps'.length ss' 0 w' := by
  obtain ⟨hg, hc, sb, wb, lb, xb, sz, hH, hsz⟩ := h
  refine (does3 hH hc n hn (.slice none 0 0) ⟨_, _, _, rfl⟩ 0 (by decide)).mono ?_
  rintro e w' ⟨rfl, hg2, _, lb2, xb2, sz2, hH2⟩
  rw [ho] at hH2
  exact ⟨rfl, _, _, Kn.mk (hg.trans hg2 fun j hj => Or.inl hj) (hc.grows hg2 fun _ e => e) hH2⟩
set_option maxHeartbeats 8000000 in
set_option maxRecDepth 100000 in
theorem known_any (w : World) (hc : Cx w w.heap.size) : Calls Tryz.prog 10 #[] w fun e w' => e = .returned (.bool true) ∧ Below w.heap.size w w' := by
  have kc := fun (w : World) (C : Array Value) (n c : Nat) => Lib.run_convert_bytes_const (P := Tryz.prog) w 38 5 C n c Tryz.underlying38 Tryz.underlying5
  have CS := start_any 10000 (by decide) w hc
  have HC := hid_into hc
  clear hc
  go_enter Tryz.func10, Tryz.ntmps10
  go_wp2_with fail
  refine CS.mono ?_
  rintro e w1 ⟨pb, rfl, hb1, sb, wb, lb, xb, sz, hH1⟩
  have hK1 : Kn w w.heap.size pb ⟨10000, [], -1⟩ [] 0 [] 0 w1 := Kn.mk ⟨hb1.os, hb1.tape, hb1.output, hb1.size, fun j _ hn => hb1.block j (by omega)⟩ (HC.out.below hb1) hH1
  have el1 : (entN 1 [97]).length = 14 := by rw [show (1 : Int) = ((0 : Nat) : Int) + 1 from rfl, ent_len]; rfl
  have el2 : (entN 2 [98]).length = 14 := by rw [show (2 : Int) = ((1 : Nat) : Int) + 1 from rfl, ent_len]; rfl
  have el3 : (entN 3 [99]).length = 14 := by rw [show (3 : Int) = ((2 : Nat) : Int) + 1 from rfl, ent_len]; rfl
  have C1 := kn_append hK1 (by decide) 97 (by decide) fun sz _ => ⟨_, _, ap_first [97] sz (by decide)⟩
  clear CS hH1 hK1
  go_wp2_with fail
  refine C1.mono ?_
  rintro e w2 ⟨rfl, hK2⟩
  have at1 : ∀ (zs : List Int) (l : Nat), lenU [(nm1, zs, l)] (nameN [97] (lastS [1])) = zs.length := fun zs l => by
    show lenU [(nm1, zs, l)] nm1 = _
    simp [lenU, at0U, lkU]
  have C2 := kn_append (u' := ⟨10000, [(nm1, entN 1 [97] ++ entN 2 [98], 0)], -1⟩) (ps' := [[97], [98]]) (ss' := [1]) (las' := 0) hK2 (by decide) 98 (by decide) fun sz hsz => by
    have := hsz (by simp)
    rw [at1, el1] at this
    exact ⟨_, _, ap_more (entN 1 [97]) 0 [[97]] 0 sz [98] (by decide) (by omega) (by omega)⟩
  clear C1 hK2
  go_wp2_with fail
  refine C2.mono ?_
  rintro e w3 ⟨rfl, hK3⟩
  have C3 := kn_sync (u' := ⟨10000, [(nm1, entN 1 [97] ++ entN 2 [98], 28)], -1⟩) (las' := 2) hK3 (by decide) fun sz => by
    have := sy_one (entN 1 [97] ++ entN 2 [98]) 0 [[97], [98]] 0 sz (by decide)
    rw [List.length_append, el1, el2] at this
    exact this
  clear C2 hK3
  go_wp2_with fail
  refine C3.mono ?_
  rintro e w4 ⟨rfl, hK4⟩
  have C4 := kn_append (u' := ⟨10000, [(nm1, entN 1 [97] ++ entN 2 [98] ++ entN 3 [99], 28)], -1⟩) (ps' := [[97], [98], [99]]) (ss' := [1]) (las' := 2) hK4 (by decide) 99 (by decide) fun sz hsz => by
    have := hsz (by simp)
    rw [at1, List.length_append, el1, el2] at this
    exact ⟨_, _, ap_more (entN 1 [97] ++ entN 2 [98]) 28 [[97], [98]] 2 sz [99] (by decide) (by omega) (by rw [List.length_append]; omega)⟩
  clear C3 hK4
  go_wp2_with fail
  refine C4.mono ?_
  rintro e w5 ⟨rfl, hK5⟩
  have e12 : entsN 0 [[97], [98]] = entN 1 [97] ++ entN 2 [98] := by
    show entN _ _ ++ (entN _ _ ++ []) = _
    rw [List.append_nil]
    rfl
  have hE : ∀ q ∈ ([[97], [98]] : List (List Int)), Epl q := by
    intro q hq
    rcases List.mem_cons.1 hq with rfl | hq
    · exact ⟨byt1 97 (by decide), by decide⟩
    · rw [List.mem_singleton.1 hq]
      exact ⟨byt1 98 (by decide), by decide⟩
  have hkr := know_read [[97], [98]] hE (by simp) (by decide) (entN 3 [99]) (by omega) 0
  rw [e12, List.length_append, el1, el2] at hkr
  have C5 := kn_crash hK5 3 (by decide) hkr
  clear C4 hK5
  go_wp2_with fail
  refine C5.mono ?_
  rintro e w6 ⟨rfl, u6, ss6, hg6, hc6, sb6, wb6, lb6, xb6, sz6, hH6, _⟩
  have hb6 : Below w.heap.size w w6 := ⟨hg6.os, hg6.tape, hg6.output, hg6.size, fun j hj => hg6.block j hj (by omega)⟩
  have cp6 : w6.cell? ⟨pb, 2, none⟩ = some (.pointer (some ⟨lb6, 0, none⟩)) := hH6.pair.cell 2
  obtain ⟨D6, F6, G6, H6, es6, fs6, hT6, he6, _, _, _⟩ := hH6
  obtain ⟨ev6, nv6, hl6⟩ := hT6.l.l
  have hel6 : es6.length = 2 := by
    have := congrArg List.length he6
    simpa using this
  have CN := LNext_any w6 hl6
  have hpb6 := hT6.p.lt
  rw [hel6] at CN
  obtain ⟨r, hr⟩ : ∃ r, es6[1]? = some r := ⟨_, List.getElem?_eq_getElem (by omega)⟩
  have hr2 : r.2 = [98] := by
    have h1 : (es6.map (·.2))[1]? = some r.2 := by rw [List.getElem?_map, hr]; rfl
    rw [he6] at h1
    simpa using h1.symm
  have CE := fun (w7 : World) (hs : Sm w6 w7) => LEntry_any 1 r w7 (hl6.sm hs) hr
  rw [hr2] at CE
  clear C5 hT6 hl6 hr he6
  go_wp2_with fail
  refine CN.mono ?_
  rintro e w7 ⟨rfl, hs7⟩
  have cp7 : w7.cell? ⟨pb, 2, none⟩ = some (.pointer (some ⟨lb6, 0, none⟩)) := hs7.cellH cp6
  clear CN
  go_wp2_with fail
  refine (CE w7 hs7).mono ?_
  rintro e w8 ⟨ao8, cap8, rfl, ho8, hb8⟩
  have b9 : Bs (w8.alloc (.cells #[.int .u8 98] 5 (1, 2))) (.slice (some ⟨w8.heap.size, 0, none⟩) 1 1) [98] := Bs_of_block (zs := [98]) (heap_alloc_new w8 _) (by simp [maxLen])
  have b8 : Bs (w8.alloc (.cells #[.int .u8 98] 5 (1, 2))) (.slice ao8 [98].length cap8) [98] := ho8.bs.below ((Below.refl _ w8).alloc (Nat.le_refl _) _) (Nat.le_refl _)
  have CQ := same_any _ _ _ _ _ b8 b9
  have hz7 := hs7.size
  have hb89 : Below w.heap.size w w8 := (hb6.trans (hs7.below _)).trans (hb8.mono (by rw [hz7]; exact hb6.size))
  clear CE ho8 b8 b9
  go_wp2_with fail
  refine CQ.mono ?_
  rintro e w9 ⟨rfl, hs9⟩
  rw [eqB_true rfl]
  have HB9 : Hid (Below w.heap.size w w9) := (hb89.alloc hb89.size _).trans (hs9.below _)
  clear hs9 CQ hb89
  go_wp2_with fail
  go_ret
  exact ⟨rfl, HB9.out⟩
end Go.Proofs.YtnkjhooeklodcaaGreatDoor
end
