/-
  Joined from: SegStart, SegDo, SegDo2.
-/
import Derived.Test.YtnkjhooeklodcaaGreatDoorM46
section
/-
  start: both logs over empty disks.
-/
namespace Go.Proofs.YtnkjhooeklodcaaGreatDoor
open Go.RowKit Go.Maps Go.Sort

variable {w w' w1 w2 : World} {B n pb sb wb lb xb : Nat} {D F G H : Nat → Prop} {u u' : Ud} {es fs : List En} {las : Nat} {sz k : Nat} {dead : Bool} {ss : List Nat} {ps : List (List Int)}
theorem openF_empty (pre : List UInt8) (room left : Int) : openF pre ⟨room, [], left⟩ = ((0, ⟨room, [], left⟩), [], []) := by
  unfold openF
  have h : opF pre ⟨room, [], left⟩ (segsN (([] : Us).map (·.1)) pre) 1 = ((0, ⟨room, [], left⟩), [], []) := rfl
  simp only [h]
  rfl
set_option maxHeartbeats 4000000 in
set_option maxRecDepth 100000 in
theorem start_any (room : Int) (hr : 0 ≤ room ∧ room ≤ 4000000) (w : World) (hc : Cx w w.heap.size) :
    Calls Tryz.prog 11 #[.int .i64 room] w fun e w' => ∃ pb, e = .returned (.tuple #[.pointer (some ⟨pb, 0, none⟩), .bool true]) ∧ Below w.heap.size w w' ∧ ∃ sb wb lb xb sz, Hs w' w.heap.size (fun j => j < w'.heap.size) pb sb wb lb xb ⟨room, [], -1⟩ [] 0 [] sz false 0 := by
  have C1 := pNew room w (by omega)
  have C2 := fun w1 => qNew room w1 (by omega)
  have HC := hid_into hc
  have hbw := hc.bw
  clear hc
  go_enter Tryz.func11, Tryz.ntmps11
  go_wp2_with fail
  refine C1.mono ?_
  rintro e w1 ⟨rfl, hP1, hB1⟩
  go_wp2_with fail
  refine (C2 w1).mono ?_
  rintro e w2 ⟨rfl, hQ2, hB2⟩
  have hl1 : w.heap.size < w1.heap.size := by
    obtain ⟨mb, fs, lit, lf, hd, _⟩ := hP1
    exact hd.cells.lt
  have hl2 : w1.heap.size < w2.heap.size := by
    obtain ⟨v, L, hr, _⟩ := hQ2
    exact hr.lt
  have hA : Below w2.heap.size w2 (w2.alloc (.cells #[.pointer (some ⟨w.heap.size, 0, none⟩), .pointer (some ⟨w1.heap.size, 0, none⟩), .pointer none, .pointer none] 37)) := (Below.refl _ _).alloc (Nat.le_refl _) _
  have hpair : Cw (w2.alloc (.cells #[.pointer (some ⟨w.heap.size, 0, none⟩), .pointer (some ⟨w1.heap.size, 0, none⟩), .pointer none, .pointer none] 37)) w2.heap.size [.pointer (some ⟨w.heap.size, 0, none⟩), .pointer (some ⟨w1.heap.size, 0, none⟩), .pointer none, .pointer none] 37 := Cw.new w2 [.pointer (some ⟨w.heap.size, 0, none⟩), .pointer (some ⟨w1.heap.size, 0, none⟩), .pointer none, .pointer none] 37
  have hsA : (w2.alloc (.cells #[.pointer (some ⟨w.heap.size, 0, none⟩), .pointer (some ⟨w1.heap.size, 0, none⟩), .pointer none, .pointer none] 37)).heap.size = w2.heap.size + 1 := World.size_alloc _ _
  have hb3 : Below w.heap.size w (w2.alloc (.cells #[.pointer (some ⟨w.heap.size, 0, none⟩), .pointer (some ⟨w1.heap.size, 0, none⟩), .pointer none, .pointer none] 37)) := (hB1.trans (hB2.mono (by omega))).trans (hA.mono (by omega))
  have hPa : Pa (w2.alloc (.cells #[.pointer (some ⟨w.heap.size, 0, none⟩), .pointer (some ⟨w1.heap.size, 0, none⟩), .pointer none, .pointer none] 37)) w.heap.size w2.heap.size w.heap.size w1.heap.size (.pointer none) (.pointer none) (fun k => k = w.heap.size) (fun k => k = w1.heap.size) ⟨room, [], -1⟩ ⟨room, [], -1⟩ :=
    ⟨hpair, (hP1.to hB2).to hA, hQ2.to hA, fun k hk => by omega, fun k hk => by omega, fun k hk => by omega, by omega, fun k hk hg => by omega⟩
  have C3 := open_two hPa (fun x hx => by simp [lkU] at hx) (by show room ≤ 4000000; omega) rfl (HC.out.below hb3)
  rw [openF_empty] at C3
  have HB3 := hid_into hb3
  clear hPa hpair hP1 hQ2 hA C1 C2
  go_wp2_with fail
  refine C3.mono ?_
  rintro e w3 ⟨rfl, hb4, _, lb, xb, sz, hH⟩
  have HF : Hid (∃ pb, (w2.heap.size = pb) ∧ Below w.heap.size w w3 ∧ ∃ sb wb lb xb sz, Hs w3 w.heap.size (fun j => j < w3.heap.size) pb sb wb lb xb ⟨room, [], -1⟩ [] 0 [] sz false 0) := ⟨_, rfl, HB3.out.trans hb4, _, _, lb, xb, sz, hH⟩
  clear hH hb4 C3
  go_wp2_with fail
  go_ret2
  obtain ⟨pb, rfl, h1, h2⟩ := HF.out
  exact ⟨_, rfl, h1, h2⟩
end Go.Proofs.YtnkjhooeklodcaaGreatDoor
end

section
/-
  does: Append, Sync, a Crash and Open, in both.
-/
namespace Go.Proofs.YtnkjhooeklodcaaGreatDoor
open Go.RowKit Go.Maps Go.Sort

variable {w w' w1 w2 : World} {B N pb sb wb lb xb : Nat} {Z D F G H : Nat → Prop} {u u' : Ud} {es fs : List En} {las : Nat} {sz k : Nat} {dead : Bool} {ss : List Nat} {ps : List (List Int)}
def DoP (w : World) (B pb sb wb lb xb : Nat) (o : ApO) (k : Nat) (e : Ending) (w' : World) : Prop :=
  e = .returned (.bool true) ∧ Grows (fun j => B ≤ j) w w' ∧ Hs w' B (fun j => j < w'.heap.size) pb sb wb lb xb o.u o.ps o.las o.ss o.sz o.dead k
set_option maxHeartbeats 8000000 in
set_option maxRecDepth 100000 in
theorem does1 (h : Hs w B Z pb sb wb lb xb u ps las ss sz dead k) (hk : k ≤ 1000) (hc : Cx w B) (hZ : ∀ j, Z j → j < w.heap.size) (x1 : Int) (ao : Option Addr) (cap : Nat) (p : List Int) (hb : Bs w (.slice ao p.length cap) p) (hy : Byt p) (hpl : p.length ≤ 100000) (ho : p ≠ [] → Out B Z (.slice ao p.length cap)) (t : Int) :
    Calls Tryz.prog 12 #[.pointer (some ⟨pb, 0, none⟩), .agg #[.int .i64 1, .int .i64 x1, .slice ao p.length cap, .int .u8 t]] w (DoP w B pb sb wb lb xb (apO [97] u ps las ss sz dead p) (k + 1)) := by
  have hB1 : Below w.heap.size w (w.alloc (.cells #[.int .i64 1, .int .i64 x1, .slice ao p.length cap, .int .u8 t] 40)) := (Below.refl _ _).alloc (Nat.le_refl _) _
  have hw1 : Cw (w.alloc (.cells #[.int .i64 1, .int .i64 x1, .slice ao p.length cap, .int .u8 t] 40)) w.heap.size [.int .i64 1, .int .i64 x1, .slice ao p.length cap, .int .u8 t] 40 := Cw.new w [.int .i64 1, .int .i64 x1, .slice ao p.length cap, .int .u8 t] 40
  have hs1 : (w.alloc (.cells #[.int .i64 1, .int .i64 x1, .slice ao p.length cap, .int .u8 t] 40)).heap.size = w.heap.size + 1 := World.size_alloc _ _
  have hb1 : Bs (w.alloc (.cells #[.int .i64 1, .int .i64 x1, .slice ao p.length cap, .int .u8 t] 40)) (.slice ao p.length cap) p := hb.keep fun j _ hj => hB1.block j hj
  have CR := roomy_any (.slice ao p.length cap) p _ hb1 (by omega)
  have c0 := hw1.cell 0
  have c2 := hw1.cell 2
  simp only [List.getElem?_cons_succ, List.getElem?_cons_zero] at c0 c2
  obtain ⟨o, hoo⟩ : ∃ o, apO [97] u ps las ss sz dead p = o := ⟨_, rfl⟩
  rw [hoo]
  have HO := hid_into hoo
  have HH := hid_into h
  have HC := hid_into hc
  have HBS := hid_into hb
  have hbw := hc.bw
  have HZ := hid_into hZ
  obtain ⟨W1, hW1⟩ : ∃ W1, w.alloc (.cells #[.int .i64 1, .int .i64 x1, .slice ao p.length cap, .int .u8 t] 40) = W1 := ⟨_, rfl⟩
  rw [hW1] at hB1 hw1 hs1 hb1 CR c0 c2
  clear h hc hoo hb hZ
  go_enter Tryz.func12, Tryz.ntmps12
  go_wp2_with fail
  refine CR.mono ?_
  rintro e w2 ⟨g, cg, rfl, hO2, hB2, hg2, hcg⟩
  have hBx : Below w.heap.size w w2 := hB1.trans (hB2.mono (by omega))
  have hs2 := hB2.size
  have hG2 : Hid (g < w2.heap.size) := (World.ownsRow.lt hO2 g rfl).2
  have hP5 : Hid (pb < w.heap.size) := HH.out.pair.lt
  have hH2 : Hs w2.drew B Z pb sb wb lb xb u ps las ss sz dead k := (HH.out.below hBx).keep (Nat.le_refl _) fun _ _ _ _ => rfl
  have hC2 : Cx w2.drew B := (HC.out.below (hBx.mono hbw)).below (Below.refl _ _).drew
  have hP2 := hH2.pair
  have hcp2 : w2.drew.cell? ⟨pb, 2, none⟩ = some (.pointer (some ⟨lb, 0, none⟩)) := hP2.cell 2
  have hcb2 : w2.drew.cell? ⟨w.heap.size, 2, none⟩ = some (.slice ao p.length cap) := (hw1.below hB2 (by omega)).cell 2
  have hbs2 : Bs w2.drew (.slice (some ⟨g, 0, none⟩) p.length cg) p := by
    have := (hO2.take p.length (by simp)).bs
    rw [show (p ++ [(171 : Int)]).take p.length = p by simp] at this
    exact this
  have hout2 : Out B Z (.slice (some ⟨g, 0, none⟩) p.length cg) := fun j hj => by
    simp only [Value.ownBlock, Option.some.injEq] at hj
    exact Or.inr fun e => by have := HZ.out j e; omega
  have CA := LAp2 hH2 hk hC2 (some ⟨g, 0, none⟩) cg p hbs2 hy (fun _ => hout2)
  rw [HO.out] at CA
  have hq1 : p.length ≤ cg := by omega
  have hqm : cg ≤ maxLen := (hO2.bounds).2.2
  unfold maxLen at hqm
  clear CR hH2 hC2 hP2 hbs2 hout2
  go_wp2_with fail
  have HX3 : Hid (∀ w3, Grows (Zn B Z pb) w2.drew w3 → w3.cell? ⟨pb, 2, none⟩ = some (.pointer (some ⟨lb, 0, none⟩)) ∧ w3.cell? ⟨w.heap.size, 2, none⟩ = some (.slice ao p.length cap)) := fun w3 hg => ⟨cell_grows hg hcp2 fun e => e.2 rfl, cell_grows hg hcb2 fun e => by have := HZ.out _ e.1.2; omega⟩
  go_region_held3 (fun x => x.cell? ⟨pb, 2, none⟩ = some (.pointer (some ⟨lb, 0, none⟩)) ∧ x.cell? ⟨w.heap.size, 2, none⟩ = some (.slice ao p.length cap)) (first | exact ⟨hcp2, hcb2⟩ | assumption)
    (first | (go_at_call 16; refine CA.mono ?_; rintro e w3 ⟨rfl, hg3, hM3⟩; have hS3 := HX3.out w3 hg3))
  have hs3 := hg3.size
  have hB2' : w2.drew.heap.size = w2.heap.size := rfl
  have hM3' : Hm w3.drew B Z w2.heap.size pb sb wb lb xb o u ps las ss sz dead k := hM3.below (Below.refl _ _).drew
  have hP3 : w3.drew.cell? ⟨pb, 3, none⟩ = some (.pointer (some ⟨xb, 0, none⟩)) := by
    obtain ⟨_, _, _, _, _, _, hT, _⟩ := hM3'
    exact hT.p.cell 3
  have hcb3 : w3.drew.cell? ⟨w.heap.size, 2, none⟩ = some (.slice ao p.length cap) := hS3.2
  have hO3 : Ow w3 W1.heap.size (.slice (some ⟨g, 0, none⟩) (p.length + 1) cg) (p ++ [171]) := hO2.keep fun j hj => by
    simp only [Value.ownBlock, Option.some.injEq] at hj
    have hlt := (World.ownsRow.lt hO2 j (by simp [Value.ownBlock, hj])).2
    exact hg3.block j hlt fun e => by have := HZ.out _ e.1.2; omega
  have hbs3 : Bs w3.drew (.slice ao p.length cap) p := by
    have h2 : Bs w2.drew (.slice ao p.length cap) p := HBS.out.keep fun j _ hj => hBx.block j hj
    refine (h2.keep0 (w' := w3) fun hne j hj hlt => hg3.block j hlt fun e => ?_).keep fun _ _ _ => rfl
    rcases ho hne j hj with e2 | e2
    · have := e.1.1; omega
    · exact e2 e.1.2
  have CX := fun (hoo : apO [97] u ps las ss sz dead p = o) => XAp2 (p := p) (by rw [hoo]; exact hM3') hk (show B ≤ w3.drew.heap.size by show B ≤ w3.heap.size; omega) (show w2.heap.size ≤ w3.heap.size from hs3) ao cap hbs3 hy ho
  replace CX := CX HO.out
  rw [HO.out] at CX
  have HO3 := hid_into hO3
  have HG3 := hid_into hg3
  clear CA HX3 hM3 hM3' hcp2 hcb2 hS3 hO2 hbs3 hg3 hO3
  go_wp2_with fail
  have HX4 : Hid (∀ w4, Grows (Zn B Z pb) w3.drew w4 → w4.cell? ⟨pb, 3, none⟩ = some (.pointer (some ⟨xb, 0, none⟩)) ∧ w4.cell? ⟨w.heap.size, 2, none⟩ = some (.slice ao p.length cap)) := fun w4 hg => ⟨cell_grows hg hP3 fun e => e.2 rfl, cell_grows hg hcb3 fun e => by have := HZ.out _ e.1.2; omega⟩
  go_region_held3 (fun x => x.cell? ⟨pb, 3, none⟩ = some (.pointer (some ⟨xb, 0, none⟩)) ∧ x.cell? ⟨w.heap.size, 2, none⟩ = some (.slice ao p.length cap)) (first | exact ⟨hP3, hcb3⟩ | assumption)
    (first | (go_at_call 17; refine CX.mono ?_; rintro e w4 ⟨rfl, hg4, hH4⟩; have hS4 := HX4.out w4 hg4))
  have hs4 : w3.heap.size ≤ w4.heap.size := hg4.size
  have hO4 : Ow w4 W1.heap.size (.slice (some ⟨g, 0, none⟩) (p.length + 1) cg) (p ++ [171]) := HO3.out.keep fun j hj => by
    simp only [Value.ownBlock, Option.some.injEq] at hj
    have hlt := (World.ownsRow.lt HO3.out j (by simp [Value.ownBlock, hj])).2
    exact hg4.block j hlt fun e => by have := HZ.out _ e.1.2; omega
  have hbs4 : Bs w4 (.slice ao p.length cap) p := by
    have h2 : Bs w2.drew (.slice ao p.length cap) p := HBS.out.keep fun j _ hj => hBx.block j hj
    refine (h2.keep0 (w' := w3) fun hne j hj hlt => HG3.out.block j hlt fun e => ?_).keep0 fun hne j hj hlt => hg4.block j hlt fun e => ?_
    · rcases ho hne j hj with e2 | e2
      · have := e.1.1; omega
      · exact e2 e.1.2
    · rcases ho hne j hj with e2 | e2
      · have := e.1.1; omega
      · exact e2 e.1.2
  have hcb4 := hS4.2
  have CS := stands_any W1.heap.size g cg (.slice ao p.length cap) p w4 hO4 hbs4 (by omega)
  have HO4 := hid_into hO4
  have HG4 := hid_into hg4
  have HH4 := hid_into hH4
  clear CX HX4 hP3 hcb3 hS4 hbs4 hg4 hH4 HO3 hO4
  go_wp2_with fail
  refine CS.mono ?_
  rintro e w5 ⟨rfl, hs5⟩
  have hO5 : Ow w5 W1.heap.size (.slice (some ⟨g, 0, none⟩) (p.length + 1) cg) (p ++ [171]) := HO4.out.keep fun j _ => by rw [hs5.heap]
  have hlp : (p ++ [(171 : Int)]).length = p.length + 1 := by simp
  have CP := spoil_any W1.heap.size (.slice (some ⟨g, 0, none⟩) (p.length + 1) cg) (p ++ [171]) w5 hO5 (by rw [hs5.size]; omega) (by rw [hlp]; omega)
  have hglt : g < w5.heap.size := (World.ownsRow.lt hO5 g rfl).2
  clear CS HO4 hO5 hcb4
  go_wp2_with fail
  refine CP.mono ?_
  rintro e w6 ⟨rfl, hg6⟩
  have HF : Hid (DoP w B pb sb wb lb xb o (k + 1) (.returned (.bool true)) w6) := by
    have hb6 : ∀ j, j < w5.heap.size → j ≠ g → w6.heap[j]? = w5.heap[j]? := fun j hj hne => hg6.block j hj fun e => hne (by simp only [Value.ownBlock, Option.some.injEq] at e; omega)
    have hz5 := hs5.size
    have hz6 := hg6.size
    refine ⟨rfl, ⟨hg6.os.trans (hs5.os.trans (HG4.out.os.trans (HG3.out.os.trans hBx.os))), hg6.tape.trans (hs5.tape.trans (HG4.out.tape.trans (HG3.out.tape.trans hBx.tape))), hg6.output.trans (hs5.output.trans (HG4.out.output.trans (HG3.out.output.trans hBx.output))), by omega, fun j hj hnj => ?_⟩, ?_⟩
    · rw [hb6 j (by omega) (by omega), hs5.heap, HG4.out.block j (by show j < w3.heap.size; omega) fun e => hnj e.1.1]
      show w3.heap[j]? = _
      rw [HG3.out.block j (by show j < w2.heap.size; omega) fun e => hnj e.1.1]
      exact hBx.block j (by omega)
    · have h5 : Hs w5 B (fun j => Z j ∨ w2.heap.size ≤ j) pb sb wb lb xb o.u o.ps o.las o.ss o.sz o.dead (k + 1) := HH4.out.keep (by omega) fun j _ _ _ => by rw [hs5.heap]
      refine (h5.keep (w' := w6) hz6 fun j _ hlt hj => hb6 j hlt fun e => ?_).tight
      have hgw := hG2.out
      rcases hj with (e2 | e2) | e2
      · have := HZ.out j e2; omega
      · omega
      · have := hP5.out; omega
  clear HH4 HG4 HG3 CP hg6
  go_wp2_with fail
  go_ret
  exact HF.out
end Go.Proofs.YtnkjhooeklodcaaGreatDoor
end

section
/-
  does: Sync; a Crash and Open; in both.
-/
namespace Go.Proofs.YtnkjhooeklodcaaGreatDoor
open Go.RowKit Go.Maps Go.Sort

variable {w w' w1 w2 : World} {B N pb sb wb lb xb : Nat} {Z D F G H : Nat → Prop} {u u' v : Ud} {es fs : List En} {las : Nat} {sz k : Nat} {dead : Bool} {ss : List Nat} {ps : List (List Int)} {l x : Value}
set_option maxHeartbeats 8000000 in
set_option maxRecDepth 100000 in
theorem does2 (h : Hs w B Z pb sb wb lb xb u ps las ss sz dead k) (hk : k ≤ 1000) (hc : Cx w B) (x1 : Int) (sv : Value) (hsv : ∃ ao m cap, sv = .slice ao m cap) (t : Int) :
    Calls Tryz.prog 12 #[.pointer (some ⟨pb, 0, none⟩), .agg #[.int .i64 2, .int .i64 x1, sv, .int .u8 t]] w (DoP w B pb sb wb lb xb (syO [97] u ps las ss sz dead) (k + 1)) := by
  obtain ⟨ao, m, cap, rfl⟩ := hsv
  have hB1 : Below w.heap.size w (w.alloc (.cells #[.int .i64 2, .int .i64 x1, .slice ao m cap, .int .u8 t] 40)) := (Below.refl _ _).alloc (Nat.le_refl _) _
  have hw1 : Cw (w.alloc (.cells #[.int .i64 2, .int .i64 x1, .slice ao m cap, .int .u8 t] 40)) w.heap.size [.int .i64 2, .int .i64 x1, .slice ao m cap, .int .u8 t] 40 := Cw.new w [.int .i64 2, .int .i64 x1, .slice ao m cap, .int .u8 t] 40
  have hs1 : (w.alloc (.cells #[.int .i64 2, .int .i64 x1, .slice ao m cap, .int .u8 t] 40)).heap.size = w.heap.size + 1 := World.size_alloc _ _
  have c0 := hw1.cell 0
  simp only [List.getElem?_cons_zero] at c0
  obtain ⟨o, hoo⟩ : ∃ o, syO [97] u ps las ss sz dead = o := ⟨_, rfl⟩
  rw [hoo]
  have HO := hid_into hoo
  have hbw := hc.bw
  obtain ⟨W1, hW1⟩ : ∃ W1, w.alloc (.cells #[.int .i64 2, .int .i64 x1, .slice ao m cap, .int .u8 t] 40) = W1 := ⟨_, rfl⟩
  rw [hW1] at hB1 hw1 hs1 c0
  have hH2 : Hs W1.drew B Z pb sb wb lb xb u ps las ss sz dead k := (h.below hB1).keep (Nat.le_refl _) fun _ _ _ _ => rfl
  have hC2 : Cx W1.drew B := (hc.below (hB1.mono hbw)).below (Below.refl _ _).drew
  have hP2 := hH2.pair
  have hcp2 : W1.drew.cell? ⟨pb, 2, none⟩ = some (.pointer (some ⟨lb, 0, none⟩)) := hP2.cell 2
  have hcp3 : W1.drew.cell? ⟨pb, 3, none⟩ = some (.pointer (some ⟨xb, 0, none⟩)) := hP2.cell 3
  have CA := LSy2 hH2 hk hC2
  rw [hoo] at CA
  have HX3 : Hid (∀ w3, Grows (Zn B Z pb) W1.drew w3 → w3.cell? ⟨pb, 2, none⟩ = some (.pointer (some ⟨lb, 0, none⟩)) ∧ w3.cell? ⟨pb, 3, none⟩ = some (.pointer (some ⟨xb, 0, none⟩))) := fun w3 hg => ⟨cell_grows hg hcp2 fun e => e.2 rfl, cell_grows hg hcp3 fun e => e.2 rfl⟩
  have HX4 : Hid (∀ w3 w4, Grows (Zn B Z pb) W1.drew w3 → Grows (Zn B Z pb) w3 w4 → w4.cell? ⟨pb, 2, none⟩ = some (.pointer (some ⟨lb, 0, none⟩)) ∧ w4.cell? ⟨pb, 3, none⟩ = some (.pointer (some ⟨xb, 0, none⟩))) := fun w3 w4 hg hg4 => ⟨cell_grows hg4 (HX3.out w3 hg).1 fun e => e.2 rfl, cell_grows hg4 (HX3.out w3 hg).2 fun e => e.2 rfl⟩
  have HCX : Hid (∀ w3, Grows (Zn B Z pb) W1.drew w3 → Hm w3 B Z W1.drew.heap.size pb sb wb lb xb o u ps las ss sz dead k → Calls Tryz.prog 19 #[.pointer (some ⟨xb, 0, none⟩)] w3 fun e w' => e = .returned (.int .i64 o.er) ∧ Grows (Zn B Z pb) w3 w' ∧ Hs w' B (fun j => Z j ∨ W1.drew.heap.size ≤ j) pb sb wb lb xb o.u o.ps o.las o.ss o.sz o.dead (k + 1)) := by
    intro w3 hg3 hM3
    have hs3 := hg3.size
    rw [← HO.out] at hM3 ⊢
    exact XSy2 hM3 (by have : W1.drew.heap.size = W1.heap.size := rfl; omega) hs3
  clear h hc hoo hw1 hH2 hC2 hP2
  go_enter Tryz.func12, Tryz.ntmps12
  go_wp2_with fail
  go_region_held3 (fun x => x.cell? ⟨pb, 2, none⟩ = some (.pointer (some ⟨lb, 0, none⟩)) ∧ x.cell? ⟨pb, 3, none⟩ = some (.pointer (some ⟨xb, 0, none⟩))) (first | exact ⟨hcp2, hcp3⟩ | assumption)
    (first
      | (go_at_call 18; refine CA.mono ?_; rintro e w3 ⟨rfl, hg3, hM3⟩; have hS3 := HX3.out w3 hg3)
      | (go_at_call 19; refine (HCX.out w3 hg3 hM3).mono ?_; rintro e w4 ⟨rfl, hg4, hH4⟩; have hS4 := HX4.out w3 w4 hg3 hg4))
  have HF : Hid (DoP w B pb sb wb lb xb o (k + 1) (.returned (.bool true)) w4) := by
    have hs3 : W1.heap.size ≤ w3.heap.size := hg3.size
    have hs4 := hg4.size
    refine ⟨rfl, ⟨hg4.os.trans (hg3.os.trans hB1.os), hg4.tape.trans (hg3.tape.trans hB1.tape), hg4.output.trans (hg3.output.trans hB1.output), by omega, fun j hj hnj => ?_⟩, hH4.tight⟩
    rw [hg4.block j (by omega) fun e => hnj e.1.1, hg3.block j (by show j < W1.heap.size; omega) fun e => hnj e.1.1]
    exact hB1.block j hj
  clear CA HX3 HX4 HCX hM3 hH4 hS3 hS4 hg3 hg4
  go_wp2_with fail
  go_ret
  exact HF.out
theorem Pa.pcall (h : Pa w B pb sb wb l x D G u v) (hB : B ≤ w.heap.size) (hr : PRes D sb u' w w') : (∃ D', Pa w' B pb sb wb l x D' G u' v) ∧ Grows (fun j => B ≤ j ∧ j ≠ pb) w w' := by
  obtain ⟨hp, hg⟩ := hr
  have hpl := h.p.lt
  have hno : ∀ k, k < w.heap.size → ¬ D k → w'.heap[k]? = w.heap[k]? := fun k hk hn => hg.block k hk hn
  refine ⟨⟨fun k => Pl D w.heap.size k ∧ k < w'.heap.size, h.p.keep (hno pb hpl fun e => (h.lo pb (Or.inl e)).2 rfl), hp.more fun k hk hl => ⟨hk, hl⟩, h.q.keep fun k hk hlt => hno k hlt fun e => h.ap k e hk, fun k hk => hk.2, fun k hk => Nat.lt_of_lt_of_le (h.gl k hk) hg.size, fun k hk => ?_, h.pB, fun k hk hgk => ?_⟩, hg.mono fun j hj => h.lo j (Or.inl hj)⟩
  · rcases hk with hk | hk
    · rcases hk.1 with e | e
      · exact h.lo k (Or.inl e)
      · exact ⟨by omega, by omega⟩
    · exact h.lo k (Or.inr hk)
  · rcases hk.1 with e | e
    · exact h.ap k e hgk
    · have := h.gl k hgk; omega
theorem Pa.qcall (h : Pa w B pb sb wb l x D G u v) (hB : B ≤ w.heap.size) (hr : QRes G wb u' w w') : (∃ G', Pa w' B pb sb wb l x D G' u u') ∧ Grows (fun j => B ≤ j ∧ j ≠ pb) w w' := by
  obtain ⟨hp, hg⟩ := hr
  have hpl := h.p.lt
  have hno : ∀ k, k < w.heap.size → ¬ G k → w'.heap[k]? = w.heap[k]? := fun k hk hn => hg.block k hk hn
  refine ⟨⟨fun k => Pl G w.heap.size k ∧ k < w'.heap.size, h.p.keep (hno pb hpl fun e => (h.lo pb (Or.inr e)).2 rfl), h.d.keep fun k hk hlt => hno k hlt fun e => h.ap k hk e, hp.more fun k hk hl => ⟨hk, hl⟩, fun k hk => Nat.lt_of_lt_of_le (h.dl k hk) hg.size, fun k hk => hk.2, fun k hk => ?_, h.pB, fun k hk hgk => ?_⟩, hg.mono fun j hj => h.lo j (Or.inr hj)⟩
  · rcases hk with hk | hk
    · exact h.lo k (Or.inl hk)
    · rcases hk.1 with e | e
      · exact h.lo k (Or.inr e)
      · exact ⟨by omega, by omega⟩
  · rcases hgk.1 with e | e
    · exact h.ap k hk e
    · have := h.dl k hk; omega
theorem Pa.below (h : Pa w B pb sb wb l x D G u v) (hb : Below w.heap.size w w') : Pa w' B pb sb wb l x D G u v :=
  ⟨h.p.below hb h.p.lt, h.d.to hb, h.q.to hb, fun k hk => Nat.lt_of_lt_of_le (h.dl k hk) hb.size, fun k hk => Nat.lt_of_lt_of_le (h.gl k hk) hb.size, h.lo, h.pB, h.ap⟩
theorem lkU_crash (keep : Nat) (t : Int) (x : Nm) : ∀ us : Us, (lkU (us.map (crA keep t)) x).isSome = (lkU us x).isSome
  | [] => rfl
  | p :: us => by
    rw [List.map_cons, lkU_cons, lkU_cons]
    have e : (crA keep t p).1 = p.1 := rfl
    rw [e]
    split
    · rfl
    · exact lkU_crash keep t x us
set_option maxHeartbeats 8000000 in
set_option maxRecDepth 100000 in
theorem does3 (h : Hs w B Z pb sb wb lb xb u ps las ss sz dead k) (hc : Cx w B) (x1 : Int) (hx1 : (Lit.int .i64 x1).wf = true) (sv : Value) (hsv : ∃ ao m cap, sv = .slice ao m cap) (t : Int) (ht : 0 ≤ t ∧ t < 256) :
    Calls Tryz.prog 12 #[.pointer (some ⟨pb, 0, none⟩), .agg #[.int .i64 3, .int .i64 x1, sv, .int .u8 t]] w fun e w' => e = .returned (.bool true) ∧ Grows (fun j => B ≤ j) w w' ∧ (openF [97] (u.crash x1 t)).1.2.left = -1 ∧
      ∃ lb xb sz, Hs w' B (fun j => j < w'.heap.size) pb sb wb lb xb (openF [97] (u.crash x1 t)).1.2 (openF [97] (u.crash x1 t)).2.1 (openF [97] (u.crash x1 t)).2.1.length (openF [97] (u.crash x1 t)).2.2 sz false 0 := by
  obtain ⟨ao, m, cap, rfl⟩ := hsv
  have hB1 : Below w.heap.size w (w.alloc (.cells #[.int .i64 3, .int .i64 x1, .slice ao m cap, .int .u8 t] 40)) := (Below.refl _ _).alloc (Nat.le_refl _) _
  have hw1 : Cw (w.alloc (.cells #[.int .i64 3, .int .i64 x1, .slice ao m cap, .int .u8 t] 40)) w.heap.size [.int .i64 3, .int .i64 x1, .slice ao m cap, .int .u8 t] 40 := Cw.new w [.int .i64 3, .int .i64 x1, .slice ao m cap, .int .u8 t] 40
  have hs1 : (w.alloc (.cells #[.int .i64 3, .int .i64 x1, .slice ao m cap, .int .u8 t] 40)).heap.size = w.heap.size + 1 := World.size_alloc _ _
  have c0 := hw1.cell 0
  simp only [List.getElem?_cons_zero] at c0
  have hx2 := (bounds_i64 hx1).2
  have hbw := hc.bw
  obtain ⟨D, G, hPa, hnl, hrm⟩ := h.pa
  have hg := hPa.d.good
  have hbx : Below B w (w.alloc (.cells #[.int .i64 3, .int .i64 x1, .slice ao m cap, .int .u8 t] 40)) := hB1.mono hbw
  obtain ⟨W1, hW1⟩ : ∃ W1, w.alloc (.cells #[.int .i64 3, .int .i64 x1, .slice ao m cap, .int .u8 t] 40) = W1 := ⟨_, rfl⟩
  rw [hW1] at hB1 hw1 hs1 c0 hbx
  have hP1 : Pa W1.drew B pb sb wb _ _ D G u u := (hPa.below hB1).below (Below.refl _ _).drew
  have hC1 : Cx W1.drew B := (hc.below hbx).below (Below.refl _ _).drew
  have hpB := hPa.pB
  have hpl := hPa.p.lt
  have hcp0 : W1.drew.cell? ⟨pb, 0, none⟩ = some (.pointer (some ⟨sb, 0, none⟩)) := hP1.p.cell 0
  have hcb1 : W1.drew.cell? ⟨w.heap.size, 1, none⟩ = some (.int .i64 x1) := hw1.cell 1
  have hcb3 : W1.drew.cell? ⟨w.heap.size, 3, none⟩ = some (.int .u8 t) := hw1.cell 3
  have C1 := pCrash hP1.d x1 t (by omega) ht
  have HB : Hid (∀ W W' : World, PRes D sb (u.crash x1 t) W W' → W.heap[w.heap.size]? = W1.heap[w.heap.size]? → w.heap.size < W.heap.size → Cw W' w.heap.size [.int .i64 3, .int .i64 x1, .slice ao m cap, .int .u8 t] 40) := fun W W' hr e hlt => (hw1.keep e).keep (hr.2.block _ hlt fun e => by have := hPa.dl _ e; omega)
  have HQB : Hid (∀ W W' : World, QRes G wb (u.crash x1 t) W W' → Cw W w.heap.size [.int .i64 3, .int .i64 x1, .slice ao m cap, .int .u8 t] 40 → Cw W' w.heap.size [.int .i64 3, .int .i64 x1, .slice ao m cap, .int .u8 t] 40) := fun W W' hr hcw => hcw.keep (hr.2.block _ hcw.lt fun e => by have := hPa.gl _ e; omega)
  have HP1 := hid_into hP1
  have HC1 := hid_into hC1
  clear h hc hPa hP1 hC1
  go_enter Tryz.func12, Tryz.ntmps12
  go_wp2_with fail
  go_region_held3 (fun x => x.cell? ⟨pb, 0, none⟩ = some (.pointer (some ⟨sb, 0, none⟩)) ∧ x.cell? ⟨w.heap.size, 1, none⟩ = some (.int .i64 x1) ∧ x.cell? ⟨w.heap.size, 3, none⟩ = some (.int .u8 t)) (first | exact ⟨hcp0, hcb1, hcb3⟩ | assumption)
    (first | (go_at_call 20; refine C1.mono ?_; rintro e w3 ⟨rfl, hr3⟩; have hcw3 := HB.out _ w3 hr3 rfl (by show w.heap.size < W1.heap.size; omega); obtain ⟨⟨D3, hP3⟩, hg3⟩ := HP1.out.pcall (by show B ≤ W1.heap.size; omega) hr3; have hS3 : w3.cell? ⟨pb, 0, none⟩ = some (.pointer (some ⟨sb, 0, none⟩)) ∧ w3.cell? ⟨w.heap.size, 1, none⟩ = some (.int .i64 x1) ∧ w3.cell? ⟨w.heap.size, 3, none⟩ = some (.int .u8 t) := ⟨hP3.p.cell 0, hcw3.cell 1, hcw3.cell 3⟩))
  have hs3 : W1.heap.size ≤ w3.heap.size := hg3.size
  have hcp1 : w3.drew.cell? ⟨pb, 1, none⟩ = some (.pointer (some ⟨wb, 0, none⟩)) := hP3.p.cell 1
  have hcb1' : w3.drew.cell? ⟨w.heap.size, 1, none⟩ = some (.int .i64 x1) := hS3.2.1
  have hcb3' : w3.drew.cell? ⟨w.heap.size, 3, none⟩ = some (.int .u8 t) := hS3.2.2
  have hP3' : Pa w3.drew B pb sb wb _ _ D3 G (u.crash x1 t) u := hP3.below (Below.refl _ _).drew
  have C2 := qCrash hP3'.q hg x1 t (by omega) ht
  have HP3 := hid_into hP3'
  have HG3 := hid_into hg3
  clear C1 HB hS3 hP3 hP3' hr3 hg3 hcp0 hcb1 hcb3
  go_wp2_with fail
  go_region_held3 (fun x => x.cell? ⟨pb, 1, none⟩ = some (.pointer (some ⟨wb, 0, none⟩)) ∧ x.cell? ⟨w.heap.size, 1, none⟩ = some (.int .i64 x1) ∧ x.cell? ⟨w.heap.size, 3, none⟩ = some (.int .u8 t)) (first | exact ⟨hcp1, hcb1', hcb3'⟩ | assumption)
    (first | (go_at_call 21; refine C2.mono ?_; rintro e w4 ⟨rfl, hr4⟩; have hcw4 := HQB.out _ w4 hr4 hcw3; obtain ⟨⟨G4, hP4⟩, hg4⟩ := HP3.out.qcall (by show B ≤ w3.heap.size; omega) hr4; have hS4 : w4.cell? ⟨pb, 1, none⟩ = some (.pointer (some ⟨wb, 0, none⟩)) ∧ w4.cell? ⟨w.heap.size, 1, none⟩ = some (.int .i64 x1) ∧ w4.cell? ⟨w.heap.size, 3, none⟩ = some (.int .u8 t) := ⟨hP4.p.cell 1, hcw4.cell 1, hcw4.cell 3⟩))
  have hs4 : w3.heap.size ≤ w4.heap.size := hg4.size
  have hC4 : Cx w4 B := ((HC1.out.grows HG3.out fun j e => e.1).below (Below.refl _ _).drew).grows hg4 fun j e => e.1
  have C3 := open_two hP4 (fun y hy => hnl y (by rw [← lkU_crash x1.toNat t]; exact hy)) hrm rfl hC4
  have HG4 := hid_into hg4
  clear C2 HQB hS4 hP4 hr4 hg4 hcp1 hcb1' hcb3' hC4
  go_wp2_with fail
  refine C3.mono ?_
  rintro e w5 ⟨rfl, hb5, hl5, lb5, xb5, sz5, hH5⟩
  have HF : Hid (Grows (fun j => B ≤ j) w w5 ∧ (openF [97] (u.crash x1 t)).1.2.left = -1 ∧ ∃ lb xb sz, Hs w5 B (fun j => j < w5.heap.size) pb sb wb lb xb (openF [97] (u.crash x1 t)).1.2 (openF [97] (u.crash x1 t)).2.1 (openF [97] (u.crash x1 t)).2.1.length (openF [97] (u.crash x1 t)).2.2 sz false 0) := by
    have hs5 := hb5.size
    refine ⟨⟨hb5.os.trans (HG4.out.os.trans (HG3.out.os.trans hB1.os)), hb5.tape.trans (HG4.out.tape.trans (HG3.out.tape.trans hB1.tape)), hb5.output.trans (HG4.out.output.trans (HG3.out.output.trans hB1.output)), by omega, fun j hj hnj => ?_⟩, hl5, lb5, xb5, sz5, hH5⟩
    rw [hb5.block j (by omega), HG4.out.block j (by show j < w3.heap.size; omega) fun e => hnj e.1]
    show w3.heap[j]? = _
    rw [HG3.out.block j (by show j < W1.heap.size; omega) fun e => hnj e.1]
    exact hB1.block j hj
  clear C3 hH5 hb5 HG4 HG3
  go_wp2_with fail
  go_ret
  exact ⟨rfl, HF.out⟩
end Go.Proofs.YtnkjhooeklodcaaGreatDoor
end
