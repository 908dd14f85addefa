/-
  Joined from: SegHu, SegDo4, SegDo6, SegPlays.
-/
import Derived.Test.YtnkjhooeklodcaaGreatDoorM47
import Derived.Test.YtnkjhooeklodcaaGreatDoorM48
import Derived.Test.YtnkjhooeklodcaaGreatDoorM28
section
/-
  Both logs, the disks perhaps not alike (Hu); Fuse and Cut of the disks below them.
-/
namespace Go.Proofs.YtnkjhooeklodcaaGreatDoor
open Go.RowKit Go.Maps Go.Sort

variable {w w' w1 w2 : World} {B N pb sb wb lb xb : Nat} {Z D F G H : Nat → Prop} {u u' v : Ud} {es fs : List En} {las : Nat} {sz k : Nat} {dead : Bool} {ss : List Nat} {ps : List (List Int)} {l x : Value}
/-- Both logs, the disks perhaps not alike. -/
def Hu (w : World) (B : Nat) (Z : Nat → Prop) (pb sb wb lb xb : Nat) (u v : Ud) (ps : List (List Int)) (las : Nat) (ss : List Nat) (sz : Nat) (dead : Bool) : Prop :=
  ∃ D F G H es fs, Tq w B pb sb wb lb xb D F G H [97] u es las (namesN [97] ss) sz dead v fs ss (las + 1) dead ∧ es.map (·.2) = ps ∧ fs.map (·.2) = ps ∧ (∀ j, (D j ∨ F j) ∨ (G j ∨ H j) → Z j)
theorem Hs.hu (h : Hs w B Z pb sb wb lb xb u ps las ss sz dead k) : Hu w B Z pb sb wb lb xb u u ps las ss sz dead := by
  obtain ⟨D, F, G, H, es, fs, h1, h2, h3, h4, h5⟩ := h
  exact ⟨D, F, G, H, es, fs, h1, h2, h3, h5⟩
theorem Hs.sl (h : Hs w B Z pb sb wb lb xb u ps las ss sz dead k) : Sl [97] u ps las ss sz k := by
  obtain ⟨D, F, G, H, es, fs, h1, h2, h3, h4, h5⟩ := h
  exact h4
theorem Hu.hs (h : Hu w B Z pb sb wb lb xb u u ps las ss sz dead) (hs : Sl [97] u ps las ss sz k) : Hs w B Z pb sb wb lb xb u ps las ss sz dead k := by
  obtain ⟨D, F, G, H, es, fs, h1, h2, h3, h5⟩ := h
  exact ⟨D, F, G, H, es, fs, h1, h2, h3, hs, h5⟩
theorem Hu.below (h : Hu w B Z pb sb wb lb xb u v ps las ss sz dead) (hb : Below w.heap.size w w') : Hu w' B Z pb sb wb lb xb u v ps las ss sz dead := by
  obtain ⟨D, F, G, H, es, fs, h1, h2⟩ := h
  exact ⟨D, F, G, H, es, fs, h1.below hb, h2⟩
theorem Hu.pair (h : Hu w B Z pb sb wb lb xb u v ps las ss sz dead) : Cw w pb [.pointer (some ⟨sb, 0, none⟩), .pointer (some ⟨wb, 0, none⟩), .pointer (some ⟨lb, 0, none⟩), .pointer (some ⟨xb, 0, none⟩)] 37 := by
  obtain ⟨D, F, G, H, es, fs, h1, _⟩ := h
  exact h1.p
theorem Sl.fuse {pre : List UInt8} (h : Sl pre u ps las ss sz k) (n : Int) : Sl pre (u.fuse n) ps las ss sz k := ⟨h.szq, h.nil, h.num, h.few, h.nl, h.rm, h.seg, h.top⟩
/-- The program's disk was called. -/
theorem tq_pcall (h1 : Tq w B pb sb wb lb xb D F G H [97] u es las (namesN [97] ss) sz dead v fs ss (las + 1) dead) (h2 : es.map (·.2) = ps) (h3 : fs.map (·.2) = ps) (h5 : ∀ j, (D j ∨ F j) ∨ (G j ∨ H j) → Z j) (hbw : B ≤ w.heap.size) (hr : PRes D sb u' w w') : Hu w' B (fun j => Z j ∨ w.heap.size ≤ j) pb sb wb lb xb u' v ps las ss sz dead ∧ Grows (Zn B Z pb) w w' := by
  have hL : LRes w D F lb sb [97] u' es las (namesN [97] ss) sz dead w' := ⟨_, F, h1.l.disk hr, fun j e => e.1, fun j e => Or.inl e, hr.2.mono fun j e => Or.inl e⟩
  obtain ⟨⟨D', F', hT, hnew⟩, _, hg⟩ := h1.lcall2 hbw hL
  refine ⟨⟨D', F', G, H, es, fs, hT, h2, h3, fun j hj => ?_⟩, hg.mono fun j hj => ⟨⟨(h1.lo j (Or.inl hj)).1, h5 j (Or.inl hj)⟩, (h1.lo j (Or.inl hj)).2⟩⟩
  rcases hj with e | e
  · exact (hnew j e).imp (fun e => h5 j (Or.inl e)) id
  · exact Or.inl (h5 j (Or.inr e))
/-- The document's disk was called. -/
theorem tq_qcall {v' : Ud} (h1 : Tq w B pb sb wb lb xb D F G H [97] u es las (namesN [97] ss) sz dead v fs ss (las + 1) dead) (h2 : es.map (·.2) = ps) (h3 : fs.map (·.2) = ps) (h5 : ∀ j, (D j ∨ F j) ∨ (G j ∨ H j) → Z j) (hbw : B ≤ w.heap.size) (hr : QRes G wb v' w w') : Hu w' B (fun j => Z j ∨ w.heap.size ≤ j) pb sb wb lb xb u v' ps las ss sz dead ∧ Grows (Zn B Z pb) w w' := by
  have hL : XRes w G H xb wb [97] v' fs ss (las + 1) dead w' := XRes.disk h1.x (Below.refl _ _) hr
  obtain ⟨⟨G', H', hT, hnew⟩, _, hg⟩ := h1.xcall2 hbw hL
  refine ⟨⟨D, F, G', H', es, fs, hT, h2, h3, fun j hj => ?_⟩, hg.mono fun j hj => ⟨⟨(h1.lo j (Or.inr hj)).1, h5 j (Or.inr hj)⟩, (h1.lo j (Or.inr hj)).2⟩⟩
  rcases hj with e | e
  · exact Or.inl (h5 j (Or.inl e))
  · exact (hnew j e).imp (fun e => h5 j (Or.inr e)) id
theorem LFu2 (h : Hu w B Z pb sb wb lb xb u v ps las ss sz dead) (hbw : B ≤ w.heap.size) (n : Int) (hn : (Lit.int .i64 n).wf = true) : Calls Tryz.prog 14 #[.pointer (some ⟨sb, 0, none⟩), .int .i64 n] w fun e w' => e = .returned (.tuple #[]) ∧ Hu w' B (fun j => Z j ∨ w.heap.size ≤ j) pb sb wb lb xb (u.fuse n) v ps las ss sz dead ∧ Grows (Zn B Z pb) w w' := by
  obtain ⟨D, F, G, H, es, fs, h1, h2, h3, h5⟩ := h
  refine (pFuse h1.l.d n hn).mono ?_
  rintro e w' ⟨rfl, hp, hg⟩
  exact ⟨rfl, tq_pcall h1 h2 h3 h5 hbw ⟨hp.more fun k hk _ => Or.inl hk, hg⟩⟩
theorem XFu2 (h : Hu w B Z pb sb wb lb xb u v ps las ss sz dead) (hbw : B ≤ w.heap.size) (n : Int) : Calls Tryz.prog 15 #[.pointer (some ⟨wb, 0, none⟩), .int .i64 n] w fun e w' => e = .returned (.tuple #[]) ∧ Hu w' B (fun j => Z j ∨ w.heap.size ≤ j) pb sb wb lb xb u (v.fuse n) ps las ss sz dead ∧ Grows (Zn B Z pb) w w' := by
  obtain ⟨D, F, G, H, es, fs, h1, h2, h3, h5⟩ := h
  refine (qFuse h1.x.d n).mono ?_
  rintro e w' ⟨rfl, hp, hg⟩
  exact ⟨rfl, tq_qcall h1 h2 h3 h5 hbw ⟨hp.more fun k hk _ => Or.inl hk, hg⟩⟩
theorem LCu2 (h : Hu w B Z pb sb wb lb xb u v ps las ss sz dead) (hbw : B ≤ w.heap.size) (x : Nm) (hx : x.length ≤ maxLen) (n : Int) (hn : (Lit.int .i64 n).wf = true) : Calls Tryz.prog 41 #[.pointer (some ⟨sb, 0, none⟩), encStr x, .int .i64 n] w fun e w' => e = .returned (.int .i64 (u.five [x] (cuU x n)).1) ∧ Hu w' B (fun j => Z j ∨ w.heap.size ≤ j) pb sb wb lb xb (u.five [x] (cuU x n)).2 v ps las ss sz dead ∧ Grows (Zn B Z pb) w w' := by
  obtain ⟨D, F, G, H, es, fs, h1, h2, h3, h5⟩ := h
  refine (pCut h1.l.d x hx n hn).mono ?_
  rintro e w' ⟨rfl, hp⟩
  exact ⟨rfl, tq_pcall h1 h2 h3 h5 hbw hp⟩
theorem XCu2 (h : Hu w B Z pb sb wb lb xb u v ps las ss sz dead) (hg : Gd v) (hbw : B ≤ w.heap.size) (x : Nm) (hx : x.length ≤ 140737488355328) (n : Int) : Calls Tryz.prog 42 #[.pointer (some ⟨wb, 0, none⟩), encStr x, .int .i64 n] w fun e w' => e = .returned (.int .i64 (v.five [x] (cuU x n)).1) ∧ Hu w' B (fun j => Z j ∨ w.heap.size ≤ j) pb sb wb lb xb u (v.five [x] (cuU x n)).2 ps las ss sz dead ∧ Grows (Zn B Z pb) w w' := by
  obtain ⟨D, F, G, H, es, fs, h1, h2, h3, h5⟩ := h
  refine (qCut h1.x.d hg x hx n).mono ?_
  rintro e w' ⟨rfl, hp⟩
  exact ⟨rfl, tq_qcall h1 h2 h3 h5 hbw hp⟩
theorem Hu.good (h : Hu w B Z pb sb wb lb xb u v ps las ss sz dead) : Gd u := by
  obtain ⟨D, F, G, H, es, fs, h1, _⟩ := h
  exact h1.l.d.good
theorem Hu.pa (h : Hu w B Z pb sb wb lb xb u v ps las ss sz dead) : ∃ D G, Pa w B pb sb wb (.pointer (some ⟨lb, 0, none⟩)) (.pointer (some ⟨xb, 0, none⟩)) D G u v := by
  obtain ⟨D, F, G, H, es, fs, h1, _⟩ := h
  exact ⟨D, G, h1.pa⟩
end Go.Proofs.YtnkjhooeklodcaaGreatDoor
end

section
/-
  does: a Fuse and an Entry, in both.
-/
namespace Go.Proofs.YtnkjhooeklodcaaGreatDoor
open Go.RowKit Go.Maps Go.Sort

variable {w w' w1 w2 : World} {B N pb sb wb lb xb : Nat} {Z D F G H : Nat → Prop} {u u' v : Ud} {es fs : List En} {las : Nat} {sz k : Nat} {dead : Bool} {ss : List Nat} {ps : List (List Int)} {l x : Value}
set_option maxHeartbeats 8000000 in
set_option maxRecDepth 100000 in
theorem does4 (h : Hs w B Z pb sb wb lb xb u ps las ss sz dead k) (hc : Cx w B) (hZ : ∀ j, Z j → j < w.heap.size) (x1 : Int) (hx1 : (Lit.int .i64 x1).wf = true) (sv : Value) (hsv : ∃ ao m cap, sv = .slice ao m cap) (t : Int) :
    Calls Tryz.prog 12 #[.pointer (some ⟨pb, 0, none⟩), .agg #[.int .i64 4, .int .i64 x1, sv, .int .u8 t]] w (DoQ w B pb sb wb lb xb (u.fuse x1) ps las ss sz dead k) := by
  obtain ⟨ao, m, cap, rfl⟩ := hsv
  have hB1 : Below w.heap.size w (w.alloc (.cells #[.int .i64 4, .int .i64 x1, .slice ao m cap, .int .u8 t] 40)) := (Below.refl _ _).alloc (Nat.le_refl _) _
  have hw1 : Cw (w.alloc (.cells #[.int .i64 4, .int .i64 x1, .slice ao m cap, .int .u8 t] 40)) w.heap.size [.int .i64 4, .int .i64 x1, .slice ao m cap, .int .u8 t] 40 := Cw.new w [.int .i64 4, .int .i64 x1, .slice ao m cap, .int .u8 t] 40
  have hs1 : (w.alloc (.cells #[.int .i64 4, .int .i64 x1, .slice ao m cap, .int .u8 t] 40)).heap.size = w.heap.size + 1 := World.size_alloc _ _
  have c0 := hw1.cell 0
  simp only [List.getElem?_cons_zero] at c0
  have hbw := hc.bw
  have hpB : B ≤ pb := by obtain ⟨D, G, hP, _⟩ := h.pa; exact hP.pB
  obtain ⟨W1, hW1⟩ : ∃ W1, w.alloc (.cells #[.int .i64 4, .int .i64 x1, .slice ao m cap, .int .u8 t] 40) = W1 := ⟨_, rfl⟩
  rw [hW1] at hB1 hw1 hs1 c0
  have hsl := h.sl.fuse x1
  have hd1 : Below W1.heap.size W1 W1.drew := (Below.refl _ _).drew
  have hU1 : Hu W1.drew B Z pb sb wb lb xb u u ps las ss sz dead := ((h.below hB1).below hd1).hu
  have hP1 := hU1.pair
  have hS1 : W1.drew.cell? ⟨pb, 0, none⟩ = some (.pointer (some ⟨sb, 0, none⟩)) ∧ W1.drew.cell? ⟨pb, 1, none⟩ = some (.pointer (some ⟨wb, 0, none⟩)) ∧ W1.drew.cell? ⟨w.heap.size, 1, none⟩ = some (.int .i64 x1) := ⟨hP1.cell 0, hP1.cell 1, hw1.cell 1⟩
  have C1 := LFu2 hU1 (by show B ≤ W1.heap.size; omega) x1 hx1
  have HZX : Hid (¬ Zn B Z pb w.heap.size) := fun e => by have := hZ _ e.1.2; omega
  have HZX2 : Hid (¬ Zn B (fun j => Z j ∨ W1.drew.heap.size ≤ j) pb w.heap.size) := fun e => by
    rcases e.1.2 with e | e
    · have := hZ _ e; omega
    · have : W1.drew.heap.size = W1.heap.size := rfl; omega
  have hel0 := enA_len h x1
  clear h hc hP1 hU1
  go_enter Tryz.func12, Tryz.ntmps12
  go_wp2_with fail
  go_region_held3 (fun y => y.cell? ⟨pb, 0, none⟩ = some (.pointer (some ⟨sb, 0, none⟩)) ∧ y.cell? ⟨pb, 1, none⟩ = some (.pointer (some ⟨wb, 0, none⟩)) ∧ y.cell? ⟨w.heap.size, 1, none⟩ = some (.int .i64 x1)) (assumption)
    (first | (go_at_call 14; refine C1.mono ?_; rintro e w2 ⟨rfl, hU2, hg2⟩; have hS2 : w2.cell? ⟨pb, 0, none⟩ = some (.pointer (some ⟨sb, 0, none⟩)) ∧ w2.cell? ⟨pb, 1, none⟩ = some (.pointer (some ⟨wb, 0, none⟩)) ∧ w2.cell? ⟨w.heap.size, 1, none⟩ = some (.int .i64 x1) := ⟨hU2.pair.cell 0, hU2.pair.cell 1, cell_grows hg2 hS1.2.2 HZX.out⟩))
  have hsz2 : W1.heap.size ≤ w2.heap.size := hg2.size
  have hS2d : w2.drew.cell? ⟨pb, 0, none⟩ = some (.pointer (some ⟨sb, 0, none⟩)) ∧ w2.drew.cell? ⟨pb, 1, none⟩ = some (.pointer (some ⟨wb, 0, none⟩)) ∧ w2.drew.cell? ⟨w.heap.size, 1, none⟩ = some (.int .i64 x1) := hS2
  have hU2d := hU2.below (Below.refl w2.heap.size w2).drew
  have C2 := XFu2 hU2d (by show B ≤ w2.heap.size; omega) x1
  clear C1 hS1 hS2 hU2 hU2d
  go_wp2_with fail
  go_region_held3 (fun y => y.cell? ⟨pb, 0, none⟩ = some (.pointer (some ⟨sb, 0, none⟩)) ∧ y.cell? ⟨pb, 1, none⟩ = some (.pointer (some ⟨wb, 0, none⟩)) ∧ y.cell? ⟨w.heap.size, 1, none⟩ = some (.int .i64 x1)) (assumption)
    (first | (go_at_call 15; refine C2.mono ?_; rintro e w3 ⟨rfl, hU3, hg3⟩; have hS3 : w3.cell? ⟨pb, 0, none⟩ = some (.pointer (some ⟨sb, 0, none⟩)) ∧ w3.cell? ⟨pb, 1, none⟩ = some (.pointer (some ⟨wb, 0, none⟩)) ∧ w3.cell? ⟨w.heap.size, 1, none⟩ = some (.int .i64 x1) := ⟨hU3.pair.cell 0, hU3.pair.cell 1, cell_grows hg3 hS2d.2.2 HZX2.out⟩))
  have hsz3 : w2.heap.size ≤ w3.heap.size := hg3.size
  have hH3 := hU3.hs hsl
  have hx3 := hS3.2.2
  have HG3 : Hid (Grows (fun j => B ≤ j) w w3) := by
    refine ⟨hg3.os.trans (hg2.os.trans hB1.os), hg3.tape.trans (hg2.tape.trans hB1.tape), hg3.output.trans (hg2.output.trans hB1.output), by omega, fun j hj hnj => ?_⟩
    rw [hg3.block j (by show j < w2.heap.size; omega) fun e => hnj e.1.1]
    show w2.heap[j]? = _
    rw [hg2.block j (by show j < W1.heap.size; omega) fun e => hnj e.1.1]
    exact hB1.block j hj
  clear C2 hS2d hS3 hU3 hg3 hg2
  generalize hV : w3 = V at *
  clear hV
  have HH : Hid (∀ W, Below V.heap.size V W → Hs W B _ pb sb wb lb xb (u.fuse x1) ps las ss sz dead k) := fun W hb => hH3.below hb
  have HS : Hid (∀ W, Below V.heap.size V W → (W.cell? ⟨pb, 2, none⟩ = some (.pointer (some ⟨lb, 0, none⟩)) ∧ W.cell? ⟨pb, 3, none⟩ = some (.pointer (some ⟨xb, 0, none⟩)) ∧ W.cell? ⟨w.heap.size, 1, none⟩ = some (.int .i64 x1))) := fun W hb => by
    have hp := (HH.out W hb).pair
    exact ⟨hp.cell 2, hp.cell 3, cell_below hb hx3 (by omega)⟩
  have hdV : Below V.heap.size V V.drew := (Below.refl _ _).drew
  have CA := LEn2 (HH.out V.drew hdV) x1
  have HX : Hid (∀ W, Below V.heap.size V W → _) := fun W hb => XEn2 (HH.out W hb) x1
  have hSt := HS.out V.drew hdV
  have hel := hel0
  clear hel0
  generalize enA ps x1 = ea at *
  obtain ⟨zs, er⟩ := ea
  have hzz : eqB zs zs = true := by simp [eqB]
  clear hH3 hx3 HZX HZX2
  go_wp2_with fail
  go_region_held3 (fun y => y.cell? ⟨pb, 2, none⟩ = some (.pointer (some ⟨lb, 0, none⟩)) ∧ y.cell? ⟨pb, 3, none⟩ = some (.pointer (some ⟨xb, 0, none⟩)) ∧ y.cell? ⟨w.heap.size, 1, none⟩ = some (.int .i64 x1)) (assumption)
    (first | (go_at_call 25; refine CA.mono ?_; rintro e w2 ⟨ao2, cap2, rfl, ho2, hb2⟩; have hB2 : Below V.heap.size V w2 := hdV.trans hb2; have hS2 := HS.out w2 hB2))
  have hB2d : Below V.heap.size V w2.drew := hB2.drew
  have hS2d := HS.out w2.drew hB2d
  have CX := HX.out w2.drew hB2d
  clear CA hS2 hSt
  go_wp2_with fail
  go_region_held3 (fun y => y.cell? ⟨pb, 2, none⟩ = some (.pointer (some ⟨lb, 0, none⟩)) ∧ y.cell? ⟨pb, 3, none⟩ = some (.pointer (some ⟨xb, 0, none⟩)) ∧ y.cell? ⟨w.heap.size, 1, none⟩ = some (.int .i64 x1)) (assumption)
    (first | (go_at_call 43; refine CX.mono ?_; rintro e w3 ⟨ao3, cap3, rfl, ho3, hb3⟩; have hB3 : Below V.heap.size V w3 := hB2d.trans (hb3.mono hB2d.size); have hS3 := HS.out w3 hB3))
  have ho2' : Ow w3 V.heap.size (.slice ao2 zs.length cap2) zs := ownsRow_below ho2 ((Below.refl w2.heap.size w2).drew.trans hb3)
  have C3 := same_any _ _ zs zs w3 (Ow.bs ho2') (Ow.bs ho3)
  rw [hzz] at C3
  clear CX hS2d hS3
  go_wp2_with fail
  refine C3.mono ?_
  rintro e w4 ⟨rfl, hs4⟩
  have hB4 : Below V.heap.size V w4 := hB3.trans (hs4.below _)
  have ho4 : Ow w4 V.heap.size (.slice ao2 zs.length cap2) zs := ownsRow_below ho2' (hs4.below _)
  have C4 := spoil_any V.heap.size _ zs w4 ho4 hB4.size (by omega)
  have HOWN : Hid (∀ q, (Value.slice ao2 zs.length cap2).ownBlock = some q → V.heap.size ≤ q) := fun q hq => (World.ownsRow.lt ho4 q hq).1
  clear C3
  go_wp2_with fail
  refine C4.mono ?_
  rintro e w5 ⟨rfl, hg5⟩
  have HF : Hid (DoQ w B pb sb wb lb xb (u.fuse x1) ps las ss sz dead k (.returned (.bool true)) w5) := by
    have hB5 : Below V.heap.size V w5 := hB4.trans ⟨hg5.os, hg5.tape, hg5.output, hg5.size, fun q hq => hg5.block q (by have := hB4.size; omega) (fun e => by have := HOWN.out q e.symm; omega)⟩
    have hs5 := hB5.size
    refine ⟨rfl, ⟨hB5.os.trans HG3.out.os, hB5.tape.trans HG3.out.tape, hB5.output.trans HG3.out.output, by omega, fun j hj hn => ?_⟩, (HH.out w5 hB5).tight⟩
    rw [hB5.block j (by omega)]
    exact HG3.out.block j hj hn
  clear C4 hg5 hB4 hs4
  go_wp2_with fail
  go_ret
  exact HF.out
end Go.Proofs.YtnkjhooeklodcaaGreatDoor
end

section
/-
  does: a Cut of the last segment and an opening, in both.
-/
namespace Go.Proofs.YtnkjhooeklodcaaGreatDoor
open Go.RowKit Go.Maps Go.Sort

variable {w w' w1 w2 : World} {B N pb sb wb lb xb : Nat} {Z D F G H : Nat → Prop} {u u' v : Ud} {es fs : List En} {las : Nat} {sz k : Nat} {dead : Bool} {ss : List Nat} {ps : List (List Int)} {l x : Value}
theorem cu_err {us : Us} {x : Nm} {n : Int} (h : (cuU x n us).1 ≠ 0) : (cuU x n us).2 = us := by
  unfold cuU at h ⊢
  split at h
  · rfl
  · split at h
    · rename_i h2; rw [if_pos h2]
    · exact absurd rfl h
theorem cu_names {us : Us} {x y : Nm} {n : Int} (h : (lkU (cuU x n us).2 y).isSome = true) : (lkU us y).isSome = true := by
  unfold cuU at h
  split at h
  · exact h
  · rename_i f e
    split at h
    · exact h
    · simp only [lkU_pt] at h
      split at h
      · rename_i e2; rw [e2, e]; rfl
      · exact h
theorem XNm2 (h : Hs w B Z pb sb wb lb xb u ps las ss sz dead k) : Calls Tryz.prog 40 #[.pointer (some ⟨xb, 0, none⟩)] w fun e w' => ∃ v', e = .returned v' ∧ Ot w' w.heap.size v' (namesN [97] ss) ∧ Below w.heap.size w w' := by
  obtain ⟨D, F, G, H, es, fs, h1, _⟩ := h
  obtain ⟨ev, sv, hl⟩ := h1.x.l
  exact XNames_any w hl
theorem Hu.more {Y : Nat → Prop} (h : Hu w B Z pb sb wb lb xb u v ps las ss sz dead) (hm : ∀ j, Z j → Y j) : Hu w B Y pb sb wb lb xb u v ps las ss sz dead := by
  obtain ⟨D, F, G, H, es, fs, h1, h2, h3, h5⟩ := h
  exact ⟨D, F, G, H, es, fs, h1, h2, h3, fun j hj => hm j (h5 j hj)⟩
/-- What the step leaves. -/
def DoR (w : World) (B pb sb wb : Nat) (k : Nat) (e : Ending) (w' : World) : Prop :=
  e = .returned (.bool true) ∧ Grows (fun j => B ≤ j) w w' ∧ ∃ lb xb u ps las ss sz dead k', k' ≤ k + 1 ∧ Hs w' B (fun j => j < w'.heap.size) pb sb wb lb xb u ps las ss sz dead k'
set_option maxHeartbeats 8000000 in
set_option maxRecDepth 100000 in
theorem does6 (h : Hs w B Z pb sb wb lb xb u ps las ss sz dead k) (hk : k ≤ 1000) (hc : Cx w B) (hZ : ∀ j, Z j → j < w.heap.size) (x1 : Int) (hx1 : (Lit.int .i64 x1).wf = true) (sv : Value) (hsv : ∃ ao m cap, sv = .slice ao m cap) (t : Int) :
    Calls Tryz.prog 12 #[.pointer (some ⟨pb, 0, none⟩), .agg #[.int .i64 6, .int .i64 x1, sv, .int .u8 t]] w (DoR w B pb sb wb k) := by
  obtain ⟨ao, m, cap, rfl⟩ := hsv
  have hB1 : Below w.heap.size w (w.alloc (.cells #[.int .i64 6, .int .i64 x1, .slice ao m cap, .int .u8 t] 40)) := (Below.refl _ _).alloc (Nat.le_refl _) _
  have hw1 : Cw (w.alloc (.cells #[.int .i64 6, .int .i64 x1, .slice ao m cap, .int .u8 t] 40)) w.heap.size [.int .i64 6, .int .i64 x1, .slice ao m cap, .int .u8 t] 40 := Cw.new w [.int .i64 6, .int .i64 x1, .slice ao m cap, .int .u8 t] 40
  have hs1 : (w.alloc (.cells #[.int .i64 6, .int .i64 x1, .slice ao m cap, .int .u8 t] 40)).heap.size = w.heap.size + 1 := World.size_alloc _ _
  have c0 := hw1.cell 0
  simp only [List.getElem?_cons_zero] at c0
  have hbw := hc.bw
  obtain ⟨W1, hW1⟩ : ∃ W1, w.alloc (.cells #[.int .i64 6, .int .i64 x1, .slice ao m cap, .int .u8 t] 40) = W1 := ⟨_, rfl⟩
  rw [hW1] at hB1 hw1 hs1 c0
  have hsl := h.sl
  have hH1 := h.below hB1
  have hC1 := hc.below (hB1.mono hbw)
  have hcp3 : W1.cell? ⟨pb, 3, none⟩ = some (.pointer (some ⟨xb, 0, none⟩)) := hH1.pair.cell 3
  have CN := XNm2 hH1
  have HH1 := hid_into hH1
  have HC1 := hid_into hC1
  have HSL := hid_into hsl
  clear h hc hH1 hC1 hsl
  go_enter Tryz.func12, Tryz.ntmps12
  go_wp2_with fail
  refine CN.mono ?_
  rintro e w2 ⟨v2, rfl, ho2, hb2⟩
  obtain ⟨an, cn, rfl⟩ := ho2.form
  have hs2 := hb2.size
  have hH2 := HH1.out.below hb2
  by_cases hss : ss = []
  · have hnn : (namesN [97] ss).length = 0 := by rw [hss]; rfl
    have HF : Hid (DoR w B pb sb wb k (.returned (.bool true)) w2) := by
      have hB : Below w.heap.size w w2 := hB1.trans (hb2.mono hB1.size)
      exact ⟨rfl, ⟨hB.os, hB.tape, hB.output, hB.size, fun j hj hn => hB.block j hj⟩, lb, xb, u, ps, las, ss, sz, dead, k, by omega, hH2.tight⟩
    rw [hnn]
    clear CN ho2 hH2
    go_wp2_with fail
    go_ret
    exact HF.out
  · obtain ⟨q, hq1, hq2⟩ := lastS_get hss
    have hlt8 := HSL.out.last_lt hk hss
    have hnl : (namesN [97] ss).length = q + 1 := by simp [namesN, hq1]
    have hnq : (namesN [97] ss)[q]? = some (nameN [97] (lastS ss)) := by simp [namesN, hq2]
    have hxl : (nameN [97] (lastS ss)).length = 9 := nameN_len [97] _ hlt8
    have hxb : badN (nameN [97] (lastS ss)) = false := badN_seg (isSeg_name [97] hlt8) (by omega)
    obtain ⟨g, hg⟩ : ∃ g, an = some ⟨g, 0, none⟩ := by
      rcases ho2.2 with ⟨e, h0⟩ | ⟨g, c', cur, e, _⟩
      · omega
      · injection e with e1 e2 e3
        exact ⟨g, e1⟩
    subst hg
    have hcn := ho2.cell hnq
    have hgl := World.ownsRow.lt ho2 g rfl
    have hqf := HSL.out.few
    generalize nameN [97] (lastS ss) = x at *
    obtain ⟨L, hL⟩ : ∃ L, (namesN [97] ss).length = L := ⟨_, rfl⟩
    rw [hL]
    have f1 : (0 : Int) ≤ (q : Int) := by omega
    have f2 : (q : Int) < (L : Int) := by omega
    have f3 : ((L : Int) == 0) = false := beq_eq_false_iff_ne.2 (by omega)
    have q1 : IntKind.i64.wrap ((L : Int) - 1) = (q : Int) := by rw [IntKind.wrap_i64]; omega
    obtain ⟨Y, hY⟩ : ∃ Y : Nat → Prop, (fun j => Z j ∨ w2.heap.size ≤ j) = Y := ⟨_, rfl⟩
    have HYb : Hid (∀ b, w.heap.size ≤ b → b < w2.heap.size → ¬ Y b) := fun b h1 h2 e => by
      rw [← hY] at e
      rcases e with e | e
      · have := hZ b e; omega
      · omega
    have HYm : Hid (∀ W : World, w2.heap.size ≤ W.heap.size → ∀ j, Y j ∨ W.heap.size ≤ j → Y j) := fun W hW j e => by
      rcases e with e | e
      · exact e
      · rw [← hY]; exact Or.inr (by omega)
    have hU2 : Hu w2 B Y pb sb wb lb xb u u ps las ss sz dead := by rw [← hY]; exact hH2.hu.more fun j e => Or.inl e
    have hX2 : w2.cell? ⟨w.heap.size, 1, none⟩ = some (.int .i64 x1) := (hw1.below hb2 hw1.lt).cell 1
    have HX : Hid (∀ W W', Grows (Zn B Y pb) W W' → W.cell? ⟨w.heap.size, 1, none⟩ = some (.int .i64 x1) ∧ W.cell? ⟨g, q, none⟩ = some (encStr x) → W'.cell? ⟨w.heap.size, 1, none⟩ = some (.int .i64 x1) ∧ W'.cell? ⟨g, q, none⟩ = some (encStr x)) := fun W W' hg e => ⟨cell_grows hg e.1 fun e => HYb.out _ (Nat.le_refl _) (by omega) e.1.2, cell_grows hg e.2 fun e => HYb.out g (by omega) hgl.2 e.1.2⟩
    have hGd := hU2.good
    have hsl2 := HSL.out.fuse (-1)
    have hl1 : (u.fuse (-1)).left = -1 := rfl
    have hfv := five_free hl1 hxb (cuU x x1)
    have hr1 : (u.fuse (-1)).room = u.room := rfl
    have hu1 : (u.fuse (-1)).us = u.us := rfl
    obtain ⟨u1, hu1e⟩ : ∃ u1, u.fuse (-1) = u1 := ⟨_, rfl⟩
    have C1 := LFu2 hU2 (by omega) (-1) (by decide)
    have cp2 : w2.cell? ⟨pb, 0, none⟩ = some (.pointer (some ⟨sb, 0, none⟩)) := hU2.pair.cell 0
    rw [hu1e] at C1 hsl2 hl1 hfv hr1 hu1
    have HXX := hid_into (And.intro hX2 hcn)
    have HB2 : Hid (Below w.heap.size w w2) := hB1.trans (hb2.mono hB1.size)
    have HC2 : Hid (Cx w2 B) := HC1.out.below (hb2.mono (by omega))
    have HSL1 := hid_into hsl2
    have HFV := hid_into hfv
    clear CN ho2 hH2 hU2 hX2 hcn HSL HH1 hb2 hY hss hq1 hq2 hnq hsl2 hfv
    go_wp2_with fail
    refine C1.mono ?_
    rintro e w3 ⟨rfl, hU3', hg3⟩
    have hs3 := hg3.size
    have hU3 := hU3'.more (HYm.out w2 (Nat.le_refl _))
    have hX3 := HX.out _ _ hg3 HXX.out
    have C2 := XFu2 hU3 (by omega) (-1)
    rw [hu1e] at C2
    have cp3 : w3.cell? ⟨pb, 1, none⟩ = some (.pointer (some ⟨wb, 0, none⟩)) := hU3.pair.cell 1
    have HX3 := hid_into hX3
    clear C1 hU3' hU3 hX3
    go_wp2_with fail
    refine C2.mono ?_
    rintro e w4 ⟨rfl, hU4', hg4⟩
    have hs4 := hg4.size
    have hU4 := (hU4'.more (HYm.out w3 hs3)).below (Below.refl w4.heap.size w4).drew
    have hX4 := HX.out _ _ hg4 HX3.out
    have C3 := LCu2 hU4 (by show B ≤ w4.heap.size; omega) x (by simp [maxLen]; omega) x1 hx1
    have hS4 : w4.drew.cell? ⟨pb, 0, none⟩ = some (.pointer (some ⟨sb, 0, none⟩)) ∧ w4.drew.cell? ⟨pb, 1, none⟩ = some (.pointer (some ⟨wb, 0, none⟩)) ∧ w4.drew.cell? ⟨w.heap.size, 1, none⟩ = some (.int .i64 x1) ∧ w4.drew.cell? ⟨g, q, none⟩ = some (encStr x) := ⟨hU4.pair.cell 0, hU4.pair.cell 1, hX4.1, hX4.2⟩
    have hGd4 := hU4.good
    obtain ⟨o, ho⟩ : ∃ o, u1.five [x] (cuU x x1) = o := ⟨_, rfl⟩
    rw [ho] at C3
    have HO := hid_into ho
    clear C2 hU4' hU4 hX4 cp2 cp3
    go_wp2_with fail
    go_region_held3 (fun y => y.cell? ⟨pb, 0, none⟩ = some (.pointer (some ⟨sb, 0, none⟩)) ∧ y.cell? ⟨pb, 1, none⟩ = some (.pointer (some ⟨wb, 0, none⟩)) ∧ y.cell? ⟨w.heap.size, 1, none⟩ = some (.int .i64 x1) ∧ y.cell? ⟨g, q, none⟩ = some (encStr x)) (assumption)
      (first | (go_at_call 41; refine C3.mono ?_; rintro e w5 ⟨rfl, hU5', hg5⟩; have hX5 := HX.out _ _ hg5 hS4.2.2; have hS5 : w5.cell? ⟨pb, 0, none⟩ = some (.pointer (some ⟨sb, 0, none⟩)) ∧ w5.cell? ⟨pb, 1, none⟩ = some (.pointer (some ⟨wb, 0, none⟩)) ∧ w5.cell? ⟨w.heap.size, 1, none⟩ = some (.int .i64 x1) ∧ w5.cell? ⟨g, q, none⟩ = some (encStr x) := ⟨hU5'.pair.cell 0, hU5'.pair.cell 1, hX5.1, hX5.2⟩))
    have hs5 : w4.heap.size ≤ w5.heap.size := hg5.size
    have hU5 := (hU5'.more (HYm.out w4.drew (by show w2.heap.size ≤ w4.heap.size; omega))).below (Below.refl w5.heap.size w5).drew
    have C4 := XCu2 hU5 hGd4 (by show B ≤ w5.heap.size; omega) x (by omega) x1
    rw [HO.out] at C4
    have hS5d : w5.drew.cell? ⟨pb, 0, none⟩ = some (.pointer (some ⟨sb, 0, none⟩)) ∧ w5.drew.cell? ⟨pb, 1, none⟩ = some (.pointer (some ⟨wb, 0, none⟩)) ∧ w5.drew.cell? ⟨w.heap.size, 1, none⟩ = some (.int .i64 x1) ∧ w5.drew.cell? ⟨g, q, none⟩ = some (encStr x) := hS5
    clear C3 hS4 hS5 hU5' hU5 hX5
    go_wp2_with fail
    go_region_held3 (fun y => y.cell? ⟨pb, 0, none⟩ = some (.pointer (some ⟨sb, 0, none⟩)) ∧ y.cell? ⟨pb, 1, none⟩ = some (.pointer (some ⟨wb, 0, none⟩)) ∧ y.cell? ⟨w.heap.size, 1, none⟩ = some (.int .i64 x1) ∧ y.cell? ⟨g, q, none⟩ = some (encStr x)) (assumption)
      (first | (go_at_call 42; refine C4.mono ?_; rintro e w6 ⟨rfl, hU6', hg6⟩; have hX6 := HX.out _ _ hg6 hS5d.2.2; have hS6 : w6.cell? ⟨pb, 0, none⟩ = some (.pointer (some ⟨sb, 0, none⟩)) ∧ w6.cell? ⟨pb, 1, none⟩ = some (.pointer (some ⟨wb, 0, none⟩)) ∧ w6.cell? ⟨w.heap.size, 1, none⟩ = some (.int .i64 x1) ∧ w6.cell? ⟨g, q, none⟩ = some (encStr x) := ⟨hU6'.pair.cell 0, hU6'.pair.cell 1, hX6.1, hX6.2⟩))
    have hs6 : w5.heap.size ≤ w6.heap.size := hg6.size
    have HG6 : Hid (Grows (fun j => B ≤ j) w w6 ∧ Grows (fun j => B ≤ j) w2 w6) := by
      have ha : Grows (fun j => B ≤ j) w2 w6 := by
        refine ⟨hg6.os.trans (hg5.os.trans (hg4.os.trans hg3.os)), hg6.tape.trans (hg5.tape.trans (hg4.tape.trans hg3.tape)), hg6.output.trans (hg5.output.trans (hg4.output.trans hg3.output)), by omega, fun j hj hnj => ?_⟩
        rw [hg6.block j (by show j < w5.heap.size; omega) fun e => hnj e.1.1]
        show w5.heap[j]? = _
        rw [hg5.block j (by show j < w4.heap.size; omega) fun e => hnj e.1.1]
        show w4.heap[j]? = _
        rw [hg4.block j (by omega) fun e => hnj e.1.1, hg3.block j hj fun e => hnj e.1.1]
      refine ⟨⟨ha.os.trans HB2.out.os, ha.tape.trans HB2.out.tape, ha.output.trans HB2.out.output, Nat.le_trans HB2.out.size ha.size, fun j hj hnj => ?_⟩, ha⟩
      rw [ha.block j (Nat.lt_of_lt_of_le hj HB2.out.size) hnj]
      exact HB2.out.block j hj
    have HU6 := hid_into hU6'
    have HS5 : Hid (w2.heap.size ≤ w5.drew.heap.size) := by show w2.heap.size ≤ w5.heap.size; omega
    clear C4 hS5d hS6 hU6' hg3 hg4 hg5 hg6 hX6
    by_cases her : o.1 = 0
    · have hP := HU6.out.pa
      obtain ⟨D6, G6, hPa⟩ := hP
      have ho2 : o.2 = ⟨u1.room, (cuU x x1 u1.us).2, -1⟩ := by rw [← HO.out, HFV.out]
      have C5 := open_two hPa (fun y hy => by rw [ho2] at hy; have := cu_names hy; rw [hu1] at this; exact HSL1.out.nl y (by rw [hu1]; exact this)) (by rw [ho2]; exact HSL1.out.rm) (by rw [ho2]) (HC2.out.grows HG6.out.2 fun j e => e)
      clear hPa
      rw [her]
      go_wp2_with fail
      refine C5.mono ?_
      rintro e w7 ⟨rfl, hb7, hl7, lb7, xb7, sz7, hH7⟩
      have HF : Hid (DoR w B pb sb wb k (.returned (.bool true)) w7) := by
        have hs7 := hb7.size
        have hs66 := HG6.out.1.size
        refine ⟨rfl, ⟨hb7.os.trans HG6.out.1.os, hb7.tape.trans HG6.out.1.tape, hb7.output.trans HG6.out.1.output, by omega, fun j hj hnj => ?_⟩, lb7, xb7, _, _, _, _, sz7, false, 0, Nat.zero_le _, hH7⟩
        rw [hb7.block j (by omega)]
        exact HG6.out.1.block j hj hnj
      clear C5 hH7 hb7
      go_wp2_with fail
      go_ret
      exact HF.out
    · have e0 : (o.1 == 0) = false := beq_eq_false_iff_ne.2 her
      have HF : Hid (DoR w B pb sb wb k (.returned (.bool true)) w6) := by
        have ho2 : o.2 = ⟨u1.room, (cuU x x1 u1.us).2, -1⟩ := by rw [← HO.out, HFV.out]
        have ho1 : o.1 = (cuU x x1 u1.us).1 := by rw [← HO.out, HFV.out]
        have hus : o.2.us = u1.us := by rw [ho2]; exact cu_err (by rw [← ho1]; exact her)
        have hsl6 : Sl [97] o.2 ps las ss sz (k + 1) := HSL1.out.same (by rw [hus]; exact Alike.refl _) (by rw [ho2]) fun _ => rfl
        exact ⟨rfl, HG6.out.1, lb, xb, o.2, ps, las, ss, sz, dead, k + 1, Nat.le_refl _, (HU6.out.hs hsl6).tight⟩
      clear HU6
      go_wp2_with fail
      go_ret
      exact HF.out
end Go.Proofs.YtnkjhooeklodcaaGreatDoor
end

section
/-
  The law SeglogPlays, walked.
-/
namespace Go.Proofs.YtnkjhooeklodcaaGreatDoor
open Go.RowKit Go.Maps Go.Sort

variable {w w' w1 w2 : World} {B N pb sb wb lb xb : Nat} {Z D F G H : Nat → Prop} {u u' v : Ud} {es fs : List En} {las : Nat} {sz k : Nat} {dead : Bool} {ss : List Nat} {ps : List (List Int)} {l x : Value}
/-- A step of whatever kind, in both. -/
theorem does_all (h : Hs w B (fun j => j < w.heap.size) pb sb wb lb xb u ps las ss sz dead k) (hk : k ≤ 1000) (hc : Cx w B) (s : Sq) (hs : s.ok w) (hl : s.zs.length ≤ 100000) (ho : s.zs ≠ [] → ∀ j, s.v.ownBlock = some j → j < B) :
    Calls Tryz.prog 12 #[.pointer (some ⟨pb, 0, none⟩), .agg #[.int .i64 s.k, .int .i64 s.n, s.v, .int .u8 s.x]] w (DoR w B pb sb wb k) := by
  obtain ⟨ao, cap, hv, _⟩ := hs.bs.len
  have hsv : ∃ ao m cap, s.v = .slice ao m cap := ⟨ao, _, cap, hv⟩
  by_cases k1 : s.k = 1
  · rw [k1, hv]
    have hb := hs.bs
    rw [hv] at hb ho
    refine (does1 h hk hc (fun j e => e) s.n ao cap s.zs hb hs.by8 hl (fun hne j hj => Or.inl (ho hne j hj)) s.x).mono ?_
    rintro e w' ⟨rfl, hg, hH⟩
    exact ⟨rfl, hg, lb, xb, _, _, _, _, _, _, k + 1, Nat.le_refl _, hH⟩
  by_cases k2 : s.k = 2
  · rw [k2]
    refine (does2 h hk hc s.n s.v hsv s.x).mono ?_
    rintro e w' ⟨rfl, hg, hH⟩
    exact ⟨rfl, hg, lb, xb, _, _, _, _, _, _, k + 1, Nat.le_refl _, hH⟩
  by_cases k3 : s.k = 3
  · rw [k3]
    refine (does3 h hc s.n hs.n s.v hsv s.x hs.x).mono ?_
    rintro e w' ⟨rfl, hg, _, lb', xb', sz', hH⟩
    exact ⟨rfl, hg, lb', xb', _, _, _, _, _, _, 0, Nat.zero_le _, hH⟩
  by_cases k4 : s.k = 4
  · rw [k4]
    refine (does4 h hc (fun j e => e) s.n hs.n s.v hsv s.x).mono ?_
    rintro e w' ⟨rfl, hg, hH⟩
    exact ⟨rfl, hg, lb, xb, _, _, _, _, _, _, k, by omega, hH⟩
  by_cases k6 : s.k = 6
  · rw [k6]
    exact does6 h hk hc (fun j e => e) s.n hs.n s.v hsv s.x
  · refine (does5 h hc s.k s.n k1 k2 k3 k4 k6 s.v hsv s.x).mono ?_
    rintro e w' ⟨rfl, hg, hH⟩
    exact ⟨rfl, hg, lb, xb, _, _, _, _, _, _, k, by omega, hH⟩
theorem Cx.to {B : Nat} {w w' : World} (h : Cx w B) (hb : Below B w w') : Cx w' w'.heap.size := by
  have h1 := h.below hb
  exact ⟨h1.tab, h1.pw, Nat.le_trans h1.b8 h1.bw, Nat.le_refl _⟩
/-- What is held between two steps. -/
def Lq (W : World) (pb sb wb : Nat) (i : Nat) (wr : World) : Prop :=
  Below W.heap.size W wr ∧ ∃ lb xb u ps las ss sz dead k, k ≤ i ∧ Hs wr W.heap.size (fun j => j < wr.heap.size) pb sb wb lb xb u ps las ss sz dead k
theorem Hs.isDead (h : Hs w B Z pb sb wb lb xb u ps las ss sz dead k) : w.cell? ⟨xb, 5, none⟩ = some (.bool dead) := by
  obtain ⟨D, F, G, H, es, fs, h1, _⟩ := h
  obtain ⟨ev, sv, hl⟩ := h1.x.l
  exact hl.blk.cell 5
set_option maxHeartbeats 8000000 in
set_option maxRecDepth 100000 in
theorem plays_walk (room : Int) (c : Value) (ss : List Sq) (W : World) (h : Stq W c ss) (hc : Cx W W.heap.size) :
    Calls Tryz.prog 3 #[.int .i64 room, c] W fun e w' => e = .returned (.bool true) ∧ Below W.heap.size W w' := by
  have CH := heavy_any c ss W h
  obtain ⟨ao, cap, rfl, hl, hok, hcc⟩ := h
  have HCX := hid_into hc
  clear hc
  go_enter Tryz.func3, Tryz.ntmps3
  go_wp2_with fail
  refine CH.mono ?_
  rintro e w1 ⟨hv, hs1⟩
  have hb1 : Below W.heap.size W w1 := hs1.below _
  have hz1 : w1.heap.size = W.heap.size := hs1.size
  have CK := known_any w1 (HCX.out.to hb1)
  have HKN : Hid (∀ w2, Below w1.heap.size w1 w2 → Below W.heap.size W w2) := fun w2 hb => hb1.trans (hb.mono (Nat.le_of_eq hz1.symm))
  rcases hv with rfl | ⟨rfl, hsm⟩
  · clear CH hok hcc
    go_wp2_with fail
    refine CK.mono ?_
    rintro e w2 ⟨rfl, hb2⟩
    have hB2 := HKN.out w2 hb2
    go_wp2_with fail
    go_ret
    exact ⟨rfl, hB2⟩
  · by_cases h0 : room < 0
    · clear CH hok hcc hsm
      go_wp2_with fail
      refine CK.mono ?_
      rintro e w2 ⟨rfl, hb2⟩
      have hB2 := HKN.out w2 hb2
      go_wp2_with fail
      go_ret
      exact ⟨rfl, hB2⟩
    · by_cases h20 : 1048576 < room
      · clear CH hok hcc hsm
        go_wp2_with fail
        refine CK.mono ?_
        rintro e w2 ⟨rfl, hb2⟩
        have hB2 := HKN.out w2 hb2
        go_wp2_with fail
        go_ret
        exact ⟨rfl, hB2⟩
      · have CS := start_any room (by omega) w1 (HCX.out.to hb1)
        rw [hz1] at CS
        have HSM := hid_into hsm
        have HOK := hid_into hok
        have HC := hid_into hcc
        clear CK CH hsm hok hcc
        go_wp2_with fail
        refine CS.mono ?_
        rintro e w2 ⟨pb, rfl, hb2, sb, wb, lb, xb, sz, hH2⟩
        have HL2 : Hid (Lq W pb sb wb 0 w2) := ⟨hb1.trans hb2, lb, xb, _, _, _, _, sz, false, 0, Nat.le_refl _, hH2⟩
        clear CS hH2 hb2 HKN hb1 hs1
        go_wp2_with fail
        go_loopw [7] (fun iv wr => ∃ i : Nat, i ≤ ss.length ∧ i ≤ 100 ∧ iv = .int .i64 (i : Int) ∧ Lq W pb sb wb i wr) (fun iv _ => ss.length - (intOf iv).toNat)
        case atStart => exact ⟨0, Nat.zero_le _, Nat.zero_le _, rfl, HL2.out⟩
        case round =>
          clear HL2
          obtain ⟨i, hi, hi2, rfl, hBr, lb, xb, u, ps, las, qs, sz, dead, k, hki, hH⟩ := hrel
          by_cases hlt : i < ss.length ∧ i < 100
          · obtain ⟨s, hsk⟩ : ∃ s, ss[i]? = some s := ⟨_, List.getElem?_eq_getElem hlt.1⟩
            have hne : ss ≠ [] := fun e => by rw [e] at hlt; simp at hlt
            obtain ⟨b, off, rfl, hcell⟩ := HC.out hne
            have hso := HOK.out s (List.mem_of_getElem? hsk)
            have hzl : s.zs.length ≤ 100000 := by have := HSM.out i s hlt.2 hsk; omega
            have hbW : ∀ j v, s.cells[j]? = some v → b < W.heap.size := fun j v hv => World.block_lt_of_cell? W _ (hcell i s hsk j v hv)
            have e0 := cell_below hBr (hcell i s hsk 0 _ rfl) (hbW 0 _ rfl)
            have e1 := cell_below hBr (hcell i s hsk 1 _ rfl) (hbW 1 _ rfl)
            have e2 := cell_below hBr (hcell i s hsk 2 _ rfl) (hbW 2 _ rfl)
            have e3 := cell_below hBr (hcell i s hsk 3 _ rfl) (hbW 3 _ rfl)
            obtain ⟨av, cv, hsv, _⟩ := hso.bs.len
            have f1 : (0 : Int) ≤ (i : Int) := by omega
            have f2 : (i : Int) < (ss.length : Int) := by omega
            have f3 : (i : Int) < 100 := by omega
            simp only [Nat.add_zero] at e0
            have cd := hH.isDead
            have c3 : wr.cell? ⟨pb, 3, none⟩ = some (.pointer (some ⟨xb, 0, none⟩)) := hH.pair.cell 3
            have hsr : s.ok wr := ⟨hso.bs.below hBr (Nat.le_refl _), hso.by8, hso.len, hso.n, hso.x⟩
            have hvW : s.zs ≠ [] → ∀ k, s.v.ownBlock = some k → k < W.heap.size := fun hne k hk => by
              rcases hso.bs with ⟨e, _⟩ | ⟨_, b', off', c', e, h1, _, h3⟩
              · exact absurd e hne
              · rw [e] at hk
                have hkb : b' = k := by simpa [Value.ownBlock] using hk
                rw [← hkb]
                exact World.block_lt_of_cell? W _ (h3 0 (List.length_pos_iff.2 hne))
            have CD := does_all hH (by omega) (HCX.out.below hBr) s hsr hzl hvW
            rw [hsv] at CD e2
            have HLK : Hid (Lq W pb sb wb (i + 1) wr) := ⟨hBr, lb, xb, u, ps, las, qs, sz, dead, k, by omega, hH⟩
            have HBR := hid_into hBr
            have HKI := hid_into hki
            clear hcell hso hsr hvW hH hBr hsk hsv hbW
            by_cases hdk : dead = true ∧ s.k ≠ 3
            · obtain ⟨rfl, hk3⟩ := hdk
              have hk3' : (s.k == 3) = false := beq_eq_false_iff_ne.2 hk3
              clear CD
              go_wp2_with fail
              go_roundw
              case rel => exact ⟨i + 1, by omega, by omega, by go_num, HLK.out⟩
              case measure => simp [intOf]; omega
            · clear HLK
              by_cases hd : dead = true
              · subst hd
                have hk3 : s.k = 3 := Classical.byContradiction fun e => hdk ⟨rfl, e⟩
                rw [hk3] at e0 CD
                clear hdk
                go_wp2_with (first
                  | (go_at_call 12; refine CD.mono ?_; rintro e w4 ⟨rfl, hg4, lb4, xb4, u4, ps4, las4, qs4, sz4, dead4, k4, hk4, hH4⟩)
                  | (go_at_call 13; refine (stood_any hH4).mono ?_; rintro e w5 ⟨rfl, hb5⟩))
                have HL' : Hid (Lq W pb sb wb (i + 1) w5) := by
                  have hb4 : Below W.heap.size W w4 := HBR.out.trans ⟨hg4.os, hg4.tape, hg4.output, hg4.size, fun j hj => hg4.block j (by have := HBR.out.size; omega) (by omega)⟩
                  exact ⟨hb4.trans (hb5.mono hb4.size), lb4, xb4, u4, ps4, las4, qs4, sz4, dead4, k4, by have := HKI.out; omega, (hH4.below hb5).tight⟩
                clear CD hH4 hg4 hb5
                go_wp2_with fail
                go_roundw
                case rel => exact ⟨i + 1, by omega, by omega, by go_num, HL'.out⟩
                case measure => simp [intOf]; omega
              · have hd' : dead = false := by simpa using hd
                subst hd'
                clear hdk hd
                go_wp2_with (first
                  | (go_at_call 12; refine CD.mono ?_; rintro e w4 ⟨rfl, hg4, lb4, xb4, u4, ps4, las4, qs4, sz4, dead4, k4, hk4, hH4⟩)
                  | (go_at_call 13; refine (stood_any hH4).mono ?_; rintro e w5 ⟨rfl, hb5⟩))
                have HL' : Hid (Lq W pb sb wb (i + 1) w5) := by
                  have hb4 : Below W.heap.size W w4 := HBR.out.trans ⟨hg4.os, hg4.tape, hg4.output, hg4.size, fun j hj => hg4.block j (by have := HBR.out.size; omega) (by omega)⟩
                  exact ⟨hb4.trans (hb5.mono hb4.size), lb4, xb4, u4, ps4, las4, qs4, sz4, dead4, k4, by have := HKI.out; omega, (hH4.below hb5).tight⟩
                clear CD hH4 hg4 hb5
                go_wp2_with fail
                go_roundw
                case rel => exact ⟨i + 1, by omega, by omega, by go_num, HL'.out⟩
                case measure => simp [intOf]; omega
          · have HB := hid_into hBr
            have CK := known_any wr (HCX.out.to hBr)
            by_cases h1 : i < ss.length
            · have f2 : (i : Int) < (ss.length : Int) := by omega
              have f3 : ¬ ((i : Int) < 100) := by omega
              clear hlt hH hBr
              go_wp2_with fail
              refine CK.mono ?_
              rintro e w4 ⟨rfl, hB4⟩
              have hB5 := HB.out.trans (hB4.mono HB.out.size)
              go_wp2_with fail
              go_ret
              exact ⟨rfl, hB5⟩
            · have f2 : ¬ ((i : Int) < (ss.length : Int)) := by omega
              clear hlt hH hBr
              go_wp2_with fail
              refine CK.mono ?_
              rintro e w4 ⟨rfl, hB4⟩
              have hB5 := HB.out.trans (hB4.mono HB.out.size)
              go_wp2_with fail
              go_ret
              exact ⟨rfl, hB5⟩
end Go.Proofs.YtnkjhooeklodcaaGreatDoor
end
