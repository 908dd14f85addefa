/-
  Joined from: SegTq, SegOk.
-/
import Derived.Test.YtnkjhooeklodcaaGreatDoorM43
import Derived.Test.YtnkjhooeklodcaaGreatDoorM44
import Derived.Test.YtnkjhooeklodcaaGreatDoorM39
section
/-
  Both logs, each over its disk, in a pair; Open of both.
-/
namespace Go.Proofs.YtnkjhooeklodcaaGreatDoor
open Go.RowKit Go.Maps Go.Sort

structure Pa (w : World) (B pb sb wb : Nat) (l x : Value) (D G : Nat → Prop) (u v : Ud) : Prop where
  p : Cw w pb [.pointer (some ⟨sb, 0, none⟩), .pointer (some ⟨wb, 0, none⟩), l, x] 37
  d : Pd w D sb u
  q : Qd w G wb v
  dl : ∀ k, D k → k < w.heap.size
  gl : ∀ k, G k → k < w.heap.size
  lo : ∀ k, D k ∨ G k → B ≤ k ∧ k ≠ pb
  pB : B ≤ pb
  ap : ∀ k, D k → ¬ G k
structure Tq (w : World) (B pb sb wb lb xb : Nat) (D F G H : Nat → Prop) (pre : List UInt8) (u : Ud) (es : List En) (las : Nat) (ns : List Nm) (sz : Nat) (dead : Bool) (v : Ud) (fs : List En) (ss : List Nat) (sure : Nat) (dead2 : Bool) : Prop where
  p : Cw w pb [.pointer (some ⟨sb, 0, none⟩), .pointer (some ⟨wb, 0, none⟩), .pointer (some ⟨lb, 0, none⟩), .pointer (some ⟨xb, 0, none⟩)] 37
  l : Ld w D F lb sb u pre es las ns sz dead
  x : Xd w G H xb wb v pre fs ss sure dead2
  lo : ∀ k, (D k ∨ F k) ∨ (G k ∨ H k) → B ≤ k ∧ k ≠ pb
  pB : B ≤ pb
  ap : ∀ k, D k ∨ F k → ¬ (G k ∨ H k)
variable {w w' w1 : World} {B pb sb wb lb xb : Nat} {l x : Value} {D F G H : Nat → Prop} {pre : List UInt8} {u u' v v' : Ud} {es es' fs fs' : List En} {las las' : Nat} {ns ns' : List Nm} {sz sz' : Nat} {dead dead' dead2 dead2' : Bool} {ss ss' : List Nat} {sure sure' : Nat}
theorem Tq.pa (h : Tq w B pb sb wb lb xb D F G H pre u es las ns sz dead v fs ss sure dead2) : Pa w B pb sb wb (.pointer (some ⟨lb, 0, none⟩)) (.pointer (some ⟨xb, 0, none⟩)) D G u v :=
  ⟨h.p, h.l.d, h.x.d, h.l.dl, h.x.dl, fun k hk => h.lo k (hk.imp Or.inl Or.inl), h.pB, fun k hk hg => h.ap k (Or.inl hk) (Or.inl hg)⟩
theorem Xd.keep (h : Xd w G H xb wb v pre fs ss sure dead2) (hs : w.heap.size ≤ w'.heap.size) (hk : ∀ k, G k ∨ H k → k < w.heap.size → w'.heap[k]? = w.heap[k]?) : Xd w' G H xb wb v pre fs ss sure dead2 := by
  obtain ⟨ev, sv, hl⟩ := h.l
  exact ⟨h.d.keep fun k hg hlt => hk k (Or.inl hg) hlt, ⟨ev, sv, hl.keep hs fun k hh hlt => hk k (Or.inr hh) hlt⟩, fun k hk => Nat.lt_of_lt_of_le (h.dl k hk) hs, fun k hk => Nat.lt_of_lt_of_le (h.fl k hk) hs, h.ap⟩
theorem Ld.keepL (h : Ld w D F lb sb u pre es las ns sz dead) (hs : w.heap.size ≤ w'.heap.size) (hk : ∀ k, D k ∨ F k → k < w.heap.size → w'.heap[k]? = w.heap[k]?) : Ld w' D F lb sb u pre es las ns sz dead := by
  obtain ⟨ev, nv, hl⟩ := h.l
  exact ⟨h.d.keep fun k hg hlt => hk k (Or.inl hg) hlt, ⟨ev, nv, hl.keep hs fun k hh hlt => hk k (Or.inr hh) hlt⟩, fun k hk => Nat.lt_of_lt_of_le (h.dl k hk) hs, fun k hk => Nat.lt_of_lt_of_le (h.fl k hk) hs, h.ap⟩
theorem Tq.keep (h : Tq w B pb sb wb lb xb D F G H pre u es las ns sz dead v fs ss sure dead2) (hs : w.heap.size ≤ w'.heap.size) (hk : ∀ k, B ≤ k → k < w.heap.size → w'.heap[k]? = w.heap[k]?) : Tq w' B pb sb wb lb xb D F G H pre u es las ns sz dead v fs ss sure dead2 :=
  ⟨h.p.keep (hk pb h.pB h.p.lt), h.l.keepL hs fun k hd hlt => hk k (h.lo k (Or.inl hd)).1 hlt, h.x.keep hs fun k hd hlt => hk k (h.lo k (Or.inr hd)).1 hlt, h.lo, h.pB, h.ap⟩
theorem Tq.below (h : Tq w B pb sb wb lb xb D F G H pre u es las ns sz dead v fs ss sure dead2) (hb : Below w.heap.size w w') : Tq w' B pb sb wb lb xb D F G H pre u es las ns sz dead v fs ss sure dead2 := h.keep hb.size fun k _ hk => hb.block k hk
theorem Tq.lcall (h : Tq w B pb sb wb lb xb D F G H pre u es las ns sz dead v fs ss sure dead2) (hB : B ≤ w.heap.size) (hr : LRes w D F lb sb pre u' es' las' ns' sz' dead' w') : (∃ D' F', Tq w' B pb sb wb lb xb D' F' G H pre u' es' las' ns' sz' dead' v fs ss sure dead2) ∧ Below B w w' := by
  obtain ⟨D', F', h1, h2, h3, h4⟩ := hr
  have hpl := h.p.lt
  have hno : ∀ k, k < w.heap.size → ¬ (D k ∨ F k) → w'.heap[k]? = w.heap[k]? := fun k hk hn => h4.block k hk hn
  have hnew : ∀ k, D' k ∨ F' k → (D k ∨ F k) ∨ w.heap.size ≤ k := fun k hk => by
    rcases hk with e | e
    · exact (h2 k e).imp Or.inl id
    · exact (h3 k e).imp Or.inr id
  refine ⟨⟨D', F', h.p.keep (hno pb hpl fun e => (h.lo pb (Or.inl e)).2 rfl), h1, h.x.keep h4.size fun k hk hlt => hno k hlt fun e => h.ap k e hk, fun k hk => ?_, h.pB, fun k hk hx => ?_⟩, ⟨h4.os, h4.tape, h4.output, h4.size, fun k hk => hno k (by omega) fun e => by have := (h.lo k (Or.inl e)).1; omega⟩⟩
  · rcases hk with e | e
    · rcases hnew k e with e | e
      · exact h.lo k (Or.inl e)
      · exact ⟨by omega, by omega⟩
    · exact h.lo k (Or.inr e)
  · rcases hnew k hk with e | e
    · exact h.ap k e hx
    · have : k < w.heap.size := hx.elim (h.x.dl k) (h.x.fl k)
      omega
theorem Tq.xcall (h : Tq w B pb sb wb lb xb D F G H pre u es las ns sz dead v fs ss sure dead2) (hB : B ≤ w.heap.size) (hr : XRes w G H xb wb pre v' fs' ss' sure' dead2' w') : (∃ G' H', Tq w' B pb sb wb lb xb D F G' H' pre u es las ns sz dead v' fs' ss' sure' dead2') ∧ Below B w w' := by
  obtain ⟨D', F', h1, h2, h3, h4⟩ := hr
  have hpl := h.p.lt
  have hno : ∀ k, k < w.heap.size → ¬ (G k ∨ H k) → w'.heap[k]? = w.heap[k]? := fun k hk hn => h4.block k hk hn
  have hnew : ∀ k, D' k ∨ F' k → (G k ∨ H k) ∨ w.heap.size ≤ k := fun k hk => by
    rcases hk with e | e
    · exact (h2 k e).imp Or.inl id
    · exact (h3 k e).imp Or.inr id
  refine ⟨⟨D', F', h.p.keep (hno pb hpl fun e => (h.lo pb (Or.inr e)).2 rfl), h.l.keepL h4.size fun k hk hlt => hno k hlt fun e => h.ap k hk e, h1, fun k hk => ?_, h.pB, fun k hk hx => ?_⟩, ⟨h4.os, h4.tape, h4.output, h4.size, fun k hk => hno k (by omega) fun e => by have := (h.lo k (Or.inr e)).1; omega⟩⟩
  · rcases hk with e | e
    · exact h.lo k (Or.inl e)
    · rcases hnew k e with e | e
      · exact h.lo k (Or.inr e)
      · exact ⟨by omega, by omega⟩
  · rcases hnew k hx with e | e
    · exact h.ap k hk e
    · have : k < w.heap.size := hk.elim (h.l.dl k) (h.l.fl k)
      omega
theorem LOpenP.ok {r : (Int × Ud) × List (List Int) × List Nat} {szr : Nat} {e : Ending} (h : LOpenP w D sb pre r szr e w') (h0 : r.1.1 = 0) : ∃ lb es D' F', e = .returned (.tuple #[.pointer (some ⟨lb, 0, none⟩), .int .i64 0]) ∧ es.map (·.2) = r.2.1 ∧ Ld w' D' F' lb sb r.1.2 pre es es.length (namesN pre r.2.2) szr false ∧ (∀ k, D' k → D k ∨ w.heap.size ≤ k) ∧ (∀ k, F' k → w.heap.size ≤ k) ∧ Grows D w w' := by
  obtain ⟨w2, lb, es, hb, h1, h2, h3⟩ := h
  have hs := hb.size
  rcases h3 with ⟨e1, _⟩ | ⟨_, he, hm, D', F', a1, a2, a3, a4⟩
  · exact absurd h0 e1
  · refine ⟨lb, es, D', F', he, hm, a1, fun k hk => (a2 k hk).imp id fun e => by omega, fun k hk => ?_, ⟨a4.os.trans hb.os, a4.tape.trans hb.tape, a4.output.trans hb.output, Nat.le_trans hs a4.size, fun k hk hn => (a4.block k (by omega) fun e => ?_).trans (hb.block k hk)⟩⟩
    · rcases a3 k hk with e | e
      · omega
      · omega
    · rcases e with e | e
      · exact hn e
      · omega
theorem OpenP.ok {r : (Int × Ud) × List (List Int) × List Nat} {e : Ending} (h : OpenP w G wb pre r e w') (h0 : r.1.1 = 0) : ∃ xb fs D' F', e = .returned (.tuple #[.pointer (some ⟨xb, 0, none⟩), .int .i64 0]) ∧ fs.map (·.2) = r.2.1 ∧ Xd w' D' F' xb wb r.1.2 pre fs r.2.2 (fs.length + 1) false ∧ (∀ k, D' k → G k ∨ w.heap.size ≤ k) ∧ (∀ k, F' k → w.heap.size ≤ k) ∧ Grows G w w' := by
  obtain ⟨w2, lb, es, hb, h1, h2, h3⟩ := h
  have hs := hb.size
  rcases h3 with ⟨e1, _⟩ | ⟨_, he, hm, D', F', a1, a2, a3, a4⟩
  · exact absurd h0 e1
  · refine ⟨lb, es, D', F', he, hm, a1, fun k hk => (a2 k hk).imp id fun e => by omega, fun k hk => ?_, ⟨a4.os.trans hb.os, a4.tape.trans hb.tape, a4.output.trans hb.output, Nat.le_trans hs a4.size, fun k hk hn => (a4.block k (by omega) fun e => ?_).trans (hb.block k hk)⟩⟩
    · rcases a3 k hk with e | e
      · omega
      · omega
    · rcases e with e | e
      · exact hn e
      · omega
structure Du (u : Ud) : Prop where
  good : Gd u
  nl : ∀ x, (lkU u.us x).isSome = true → x.length ≤ 64
  rm : u.room ≤ 4000000
theorem lkU_mem {us : Us} {x : Nm} (h : x ∈ us.map (·.1)) : (lkU us x).isSome = true := by
  cases hl : lkU us x with
  | some f => rfl
  | none =>
    obtain ⟨p, hp, rfl⟩ := List.mem_map.1 h
    exact absurd rfl (lkU_none' hl p hp)
theorem Du.names (h : Du u) : ∀ x ∈ u.us.map (·.1), x.length ≤ 64 := fun x hx => h.nl x (lkU_mem hx)
theorem Du.tot (h : Du u) : totU u.us ≤ 4000000 := by
  have := h.good.fits
  have := h.rm
  omega
theorem Du.len (h : Du u) (x : Nm) : (at0U u.us x).1.length ≤ 4000000 := by
  unfold at0U
  cases hl : lkU u.us x with
  | none => exact Nat.zero_le _
  | some f => exact Nat.le_trans (totU_mem hl) h.tot
set_option maxHeartbeats 4000000 in
set_option maxRecDepth 100000 in
theorem open_any (w : World) (h : Pa w B pb sb wb l x D G u u) (hu : Du u) (h0 : (openF [97] u).1.1 = 0) (ht : Fr.Tab w) (hp : Pw w) (hB8 : 8 ≤ B) (hBw : B ≤ w.heap.size) :
    Calls Tryz.prog 31 #[.pointer (some ⟨pb, 0, none⟩)] w fun e w' => e = .returned (.bool true) ∧ Below B w w' ∧ ∃ lb xb D' F' G' H' es fs, es.map (·.2) = (openF [97] u).2.1 ∧ fs.map (·.2) = (openF [97] u).2.1 ∧
      Tq w' B pb sb wb lb xb D' F' G' H' [97] (openF [97] u).1.2 es es.length (namesN [97] (openF [97] u).2.2) (opS [97] u (segsN (u.us.map (·.1)) [97]) 1 0) false (openF [97] u).1.2 fs (openF [97] u).2.2 (fs.length + 1) false := by
  have C1 := LOpen_any (pre := [97]) w h.d h.dl (by decide) (by decide) hu.names hu.tot ht hp (by omega) fun k hk e => by have := (h.lo k (Or.inl e)).1; omega
  have hpl := h.p.lt
  have hf := opF_few [97] u (segsN (u.us.map (·.1)) [97]) 1
  have hsl : (segsN (u.us.map (·.1)) [97]).length ≤ 4096 := by
    have h1 : (segsN (u.us.map (·.1)) [97]).length ≤ (u.us.map (·.1)).length := List.length_filter_le _ _
    have := hu.good.cnt
    rw [List.length_map] at h1
    omega
  have htt : tU u.us (segsN (u.us.map (·.1)) [97]) ≤ 4000000 := Nat.le_trans (tU_filter hu.good.ris _) hu.tot
  have hcnt := hu.good.cnt
  have HX : Hid (∀ w1, Grows D w w1 → Calls Tryz.prog 23 #[.pointer (some ⟨wb, 0, none⟩), encStr [97]] w1 (OpenP w1 G wb [97] (openF [97] u))) := fun w1 hg => by
    refine XOpen_any (pre := [97]) w1 (h.q.keep fun k hk hlt => hg.block k hlt fun e => h.ap k e hk) hu.good (fun k hk => Nat.lt_of_lt_of_le (h.gl k hk) hg.size) (by decide) (by decide) (fun y hy => by have := hu.names y hy; omega) (by omega) (fun y => ⟨by have := hu.len y; omega, hu.good.bytes y⟩) (by omega) (by omega)
  have c0 : w.cell? ⟨pb, 0, none⟩ = some (.pointer (some ⟨sb, 0, none⟩)) := h.p.cell 0
  have HP := hid_into h
  generalize openF [97] u = r at *
  generalize opS [97] u (segsN (u.us.map (·.1)) [97]) 1 0 = szr at *
  clear hf hsl htt hcnt h ht hp
  go_enter Tryz.func31, Tryz.ntmps31
  go_wp2_with fail
  refine C1.mono ?_
  intro e w1 hL
  obtain ⟨lb, es, D1, F1, rfl, hes, hld, hd1, hf1, hg1⟩ := hL.ok h0
  have hpb1 : Cw w1 pb [.pointer (some ⟨sb, 0, none⟩), .pointer (some ⟨wb, 0, none⟩), l, x] 37 := HP.out.p.keep (hg1.block pb hpl fun e => (HP.out.lo pb (Or.inl e)).2 rfl)
  have c1 : w1.cell? ⟨pb, 1, none⟩ = some (.pointer (some ⟨wb, 0, none⟩)) := hpb1.cell 1
  have C2 := HX.out w1 hg1
  have HL := hid_into hld
  have HD1 := hid_into hd1
  have HF1 := hid_into hf1
  clear hL hld C1 c0 hd1 hf1
  go_wp2_with fail
  refine C2.mono ?_
  intro e w2 hX
  obtain ⟨xb, fs, G2, H2, rfl, hfs, hxd, hg2, hh2, hgr2⟩ := hX.ok h0
  have hs1 := hg1.size
  have hs2 := hgr2.size
  have hpb2 : Cw w2 pb [.pointer (some ⟨sb, 0, none⟩), .pointer (some ⟨wb, 0, none⟩), l, x] 37 := hpb1.keep (hgr2.block pb (by omega) fun e => (HP.out.lo pb (Or.inr e)).2 rfl)
  have c2 : w2.cell? ⟨pb, 2, none⟩ = some l := hpb2.cell 2
  have f2 : w2.frozen? ⟨pb, 2, none⟩ = false := hpb2.frozen 2
  have hpb3 := hpb2.set 2 (.pointer (some ⟨lb, 0, none⟩))
  have c3 : (w2.setCell ⟨pb, 2, none⟩ (.pointer (some ⟨lb, 0, none⟩))).cell? ⟨pb, 3, none⟩ = some x := hpb3.cell 3
  have f3 : (w2.setCell ⟨pb, 2, none⟩ (.pointer (some ⟨lb, 0, none⟩))).frozen? ⟨pb, 3, none⟩ = false := hpb3.frozen 3
  have HFIN : Hid (Below B w ((w2.setCell ⟨pb, 2, none⟩ (.pointer (some ⟨lb, 0, none⟩))).setCell ⟨pb, 3, none⟩ (.pointer (some ⟨xb, 0, none⟩))) ∧ ∃ lb1 xb1 D' F' G' H' es fs, es.map (·.2) = r.2.1 ∧ fs.map (·.2) = r.2.1 ∧
      Tq ((w2.setCell ⟨pb, 2, none⟩ (.pointer (some ⟨lb, 0, none⟩))).setCell ⟨pb, 3, none⟩ (.pointer (some ⟨xb, 0, none⟩))) B pb sb wb lb1 xb1 D' F' G' H' [97] r.1.2 es es.length (namesN [97] r.2.2) szr false r.1.2 fs r.2.2 (fs.length + 1) false) := by
    have ho : ∀ k, k ≠ pb → ((w2.setCell ⟨pb, 2, none⟩ (.pointer (some ⟨lb, 0, none⟩))).setCell ⟨pb, 3, none⟩ (.pointer (some ⟨xb, 0, none⟩))).heap[k]? = w2.heap[k]? := fun k hk => by rw [set_other _ _ _ _ _ hk, set_other _ _ _ _ _ hk]
    have hsz : ((w2.setCell ⟨pb, 2, none⟩ (.pointer (some ⟨lb, 0, none⟩))).setCell ⟨pb, 3, none⟩ (.pointer (some ⟨xb, 0, none⟩))).heap.size = w2.heap.size := by rw [set_size, set_size]
    have hP := HP.out
    have hloB : ∀ k, (D1 k ∨ F1 k) → B ≤ k ∧ k ≠ pb ∧ ¬ G k ∧ k < w1.heap.size := fun k hk => by
      rcases hk with e | e
      · have hlt := HL.out.dl k e
        rcases HD1.out k e with e | e
        · exact ⟨(hP.lo k (Or.inl e)).1, (hP.lo k (Or.inl e)).2, hP.ap k e, hlt⟩
        · exact ⟨by omega, by omega, fun e2 => by have := hP.gl k e2; omega, hlt⟩
      · have hlt := HL.out.fl k e
        have := HF1.out k e
        exact ⟨by omega, by omega, fun e2 => by have := hP.gl k e2; omega, hlt⟩
    have hloX : ∀ k, (G2 k ∨ H2 k) → B ≤ k ∧ k ≠ pb ∧ ¬ (D1 k ∨ F1 k) := fun k hk => by
      rcases hk with e | e
      · rcases hg2 k e with e | e
        · exact ⟨(hP.lo k (Or.inr e)).1, (hP.lo k (Or.inr e)).2, fun e2 => (hloB k e2).2.2.1 e⟩
        · exact ⟨by omega, by omega, fun e2 => by have := (hloB k e2).2.2.2; omega⟩
      · have := hh2 k e
        exact ⟨by omega, by omega, fun e2 => by have := (hloB k e2).2.2.2; omega⟩
    refine ⟨⟨hgr2.os.trans hg1.os, hgr2.tape.trans hg1.tape, hgr2.output.trans hg1.output, by omega, fun k hk => ?_⟩, lb, xb, D1, F1, G2, H2, es, fs, hes, hfs, hpb3.set 3 _, ?_, ?_, fun k hk => ?_, hP.pB, fun k hk hx => (hloX k hx).2.2 hk⟩
    · rw [ho k (by have := hP.pB; omega), hgr2.block k (by omega) fun e => by have := (hP.lo k (Or.inr e)).1; omega]
      exact hg1.block k (by omega) fun e => by have := (hP.lo k (Or.inl e)).1; omega
    · refine HL.out.keepL (by omega) fun k hk hlt => ?_
      rw [ho k (hloB k hk).2.1]
      exact hgr2.block k hlt (hloB k hk).2.2.1
    · exact hxd.keep (by omega) fun k hk hlt => ho k (hloX k hk).2.1
    · rcases hk with e | e
      · exact ⟨(hloB k e).1, (hloB k e).2.1⟩
      · exact ⟨(hloX k e).1, (hloX k e).2.1⟩
  clear hX hxd hg2 hh2 C2 c1 hpb1 hpb2 hpb3 HL HD1 HF1 HX
  go_wp2_with fail
  go_ret
  exact ⟨rfl, HFIN.out⟩
end Go.Proofs.YtnkjhooeklodcaaGreatDoor
end

section
/-
  An opening does not err where no fuse is lit; what it leaves, in plain words. No walk.
-/
namespace Go.Proofs.YtnkjhooeklodcaaGreatDoor
open Go.RowKit Go.Maps Go.Sort

variable {u u' : Ud} {pre : List UInt8}
theorem five_free (hl : u.left = -1) {x : Nm} (hb : badN x = false) (f : Us → Int × Us) : u.five [x] f = ((f u.us).1, ⟨u.room, (f u.us).2, -1⟩) := by
  unfold Ud.five mayE
  simp [hl, hb, didL]
theorem badN_seg {x : Nm} (h : isSeg x pre = true) (h64 : x.length ≤ 64) : badN x = false := by
  obtain ⟨t, rfl, h8, _⟩ := seg_form h
  unfold badN
  rw [List.length_append] at h64 ⊢
  rw [decide_eq_false (by omega), decide_eq_false (by omega)]
  rfl
theorem rmU_some {us : Us} {x : Nm} (h : (lkU us x).isSome = true) : rmU x us = (0, dlU us x) := by
  unfold rmU
  cases hl : lkU us x with
  | none => rw [hl] at h; cases h
  | some f => rfl
theorem syU_some {us : Us} {x : Nm} (h : (lkU us x).isSome = true) : ∃ f, lkU us x = some f ∧ syU x us = (0, ptU us x (f.1, f.1.length)) := by
  unfold syU
  cases hl : lkU us x with
  | none => rw [hl] at h; cases h
  | some f => exact ⟨f, rfl, rfl⟩
structure Fre (u u' : Ud) : Prop where
  left : u'.left = -1
  room : u'.room = u.room
  sub : ∀ y, (lkU u'.us y).isSome = true → (lkU u.us y).isSome = true
theorem Fre.refl (h : u.left = -1) : Fre u u := ⟨h, rfl, fun _ e => e⟩
theorem Fre.trans {u'' : Ud} (h : Fre u u') (k : Fre u' u'') : Fre u u'' := ⟨k.left, k.room.trans h.room, fun y e => h.sub y (k.sub y e)⟩
theorem rm_free (hl : u.left = -1) {x : Nm} (hb : badN x = false) (hx : (lkU u.us x).isSome = true) : (u.five [x] (rmU x)).1 = 0 ∧ Fre u (u.five [x] (rmU x)).2 ∧ ∀ y, y ≠ x → lkU (u.five [x] (rmU x)).2.us y = lkU u.us y := by
  rw [five_free hl hb, rmU_some hx]
  refine ⟨rfl, ⟨rfl, rfl, fun y e => ?_⟩, fun y hy => ?_⟩
  · change (lkU (dlU u.us x) y).isSome = true at e
    rw [lkU_dl] at e
    split at e
    · cases e
    · exact e
  · show lkU (dlU u.us x) y = _
    rw [lkU_dl, if_neg hy]
theorem sy_free (hl : u.left = -1) {x : Nm} (hb : badN x = false) (hx : (lkU u.us x).isSome = true) : (u.five [x] (syU x)).1 = 0 ∧ Fre u (u.five [x] (syU x)).2 ∧ ∀ y, (lkU (u.five [x] (syU x)).2.us y).isSome = (lkU u.us y).isSome := by
  obtain ⟨f, hf, hs⟩ := syU_some hx
  rw [five_free hl hb, hs]
  have key : ∀ y, (lkU (ptU u.us x (f.1, f.1.length)) y).isSome = (lkU u.us y).isSome := fun y => by
    rw [lkU_pt]
    by_cases hy : y = x
    · rw [if_pos hy, hy, hf]; rfl
    · rw [if_neg hy]
  exact ⟨rfl, ⟨rfl, rfl, fun y e => by rw [← key y]; exact e⟩, key⟩
theorem cu_free (hl : u.left = -1) {x : Nm} (hb : badN x = false) (hx : (lkU u.us x).isSome = true) {m : Nat} (hm : m ≤ lenU u.us x) : (u.five [x] (cuU x (m : Int))).1 = 0 ∧ Fre u (u.five [x] (cuU x (m : Int))).2 ∧ ∀ y, (lkU (u.five [x] (cuU x (m : Int))).2.us y).isSome = (lkU u.us y).isSome := by
  cases hf : lkU u.us x with
  | none => rw [hf] at hx; cases hx
  | some f =>
    have hlen : lenU u.us x = f.1.length := by unfold lenU at0U; rw [hf]; rfl
    have hc : ¬ ((m : Int) < 0 ∨ (f.1.length : Int) < (m : Int)) := by omega
    have hs : cuU x (m : Int) u.us = (0, ptU u.us x (f.1.take m, min f.2 m)) := by
      unfold cuU
      rw [hf]
      simp only [if_neg hc, Int.toNat_natCast]
    rw [five_free hl hb, hs]
    have key : ∀ y, (lkU (ptU u.us x (f.1.take m, min f.2 m)) y).isSome = (lkU u.us y).isSome := fun y => by
      rw [lkU_pt]
      by_cases hy : y = x
      · rw [if_pos hy, hy, hf]; rfl
      · rw [if_neg hy]
    exact ⟨rfl, ⟨rfl, rfl, fun y e => by rw [← key y]; exact e⟩, key⟩
theorem allU_rm_free : ∀ (xs : List Nm) (u : Ud), u.left = -1 → xs.Nodup → (∀ x ∈ xs, badN x = false ∧ (lkU u.us x).isSome = true) → (allU rmU u xs).1 = 0 ∧ Fre u (allU rmU u xs).2 ∧ ∀ y, y ∉ xs → lkU (allU rmU u xs).2.us y = lkU u.us y
  | [], u, h, _, _ => ⟨rfl, Fre.refl h, fun _ _ => rfl⟩
  | x :: xs, u, h, hd, hx => by
    obtain ⟨d1, d2⟩ := List.nodup_cons.1 hd
    obtain ⟨e1, e2, e3⟩ := rm_free h (hx x (by simp)).1 (hx x (by simp)).2
    rw [allU_ok e1]
    obtain ⟨i1, i2, i3⟩ := allU_rm_free xs _ e2.left d2 fun y hy => ⟨(hx y (List.mem_cons_of_mem _ hy)).1, by rw [e3 y fun e => d1 (e ▸ hy)]; exact (hx y (List.mem_cons_of_mem _ hy)).2⟩
    exact ⟨i1, e2.trans i2, fun y hy => by rw [i3 y fun e => hy (List.mem_cons_of_mem _ e), e3 y fun e => hy (by rw [e]; simp)]⟩
theorem allU_sy_free : ∀ (xs : List Nm) (u : Ud), u.left = -1 → (∀ x ∈ xs, badN x = false ∧ (lkU u.us x).isSome = true) → (allU syU u xs).1 = 0 ∧ Fre u (allU syU u xs).2 ∧ ∀ y, (lkU (allU syU u xs).2.us y).isSome = (lkU u.us y).isSome
  | [], u, h, _ => ⟨rfl, Fre.refl h, fun _ => rfl⟩
  | x :: xs, u, h, hx => by
    obtain ⟨e1, e2, e3⟩ := sy_free h (hx x (by simp)).1 (hx x (by simp)).2
    rw [allU_ok e1]
    obtain ⟨i1, i2, i3⟩ := allU_sy_free xs _ e2.left fun y hy => ⟨(hx y (List.mem_cons_of_mem _ hy)).1, by rw [e3]; exact (hx y (List.mem_cons_of_mem _ hy)).2⟩
    exact ⟨i1, e2.trans i2, fun y => by rw [i3, e3]⟩
theorem opF_free (pre : List UInt8) (u : Ud) (hl : u.left = -1) : ∀ (xs : List Nm) (next : Nat), xs.Nodup → (∀ x ∈ xs, isSeg x pre = true ∧ badN x = false ∧ (lkU u.us x).isSome = true) → next + tU u.us xs < 100000000 →
    (opF pre u xs next).1.1 = 0 ∧ Fre u (opF pre u xs next).1.2 ∧ (∀ y, y ∉ xs → lkU (opF pre u xs next).1.2.us y = lkU u.us y) ∧ (∀ n ∈ (opF pre u xs next).2.2, badN (nameN pre n) = false ∧ (lkU (opF pre u xs next).1.2.us (nameN pre n)).isSome = true)
  | [], next, _, _, _ => ⟨rfl, Fre.refl hl, fun _ _ => rfl, fun n hn => by simp [opF] at hn⟩
  | x :: xs, next, hd, hx, hn => by
    obtain ⟨d1, d2⟩ := List.nodup_cons.1 hd
    obtain ⟨x1, x2, x3⟩ := hx x (by simp)
    obtain ⟨r1, r2⟩ := rdF_le (next - 1) (at0U u.us x).1
    have hlen : (at0U u.us x).1.length = lenU u.us x := rfl
    rw [tU_cons] at hn
    have hrev := allU_rm_free xs.reverse u hl (List.pairwise_reverse.2 (d2.imp fun h => Ne.symm h)) fun y hy => (hx y (List.mem_cons_of_mem _ (List.mem_reverse.1 hy))).2
    simp only [opF]
    by_cases hA : numV (x.drop pre.length) = next ∧ (rdF (next - 1) (at0U u.us x).1).2 = (at0U u.us x).1.length
    · rw [if_pos hA]
      obtain ⟨i1, i2, i3, i4⟩ := opF_free pre u hl xs (next + (rdF (next - 1) (at0U u.us x).1).1.length) d2 (fun y hy => hx y (List.mem_cons_of_mem _ hy)) (by omega)
      refine ⟨i1, i2, fun y hy => i3 y fun e => hy (List.mem_cons_of_mem _ e), fun n hm => ?_⟩
      rcases List.mem_cons.1 hm with rfl | hm
      · have ex : nameN pre n = x := ((seg_name x1 (by omega)).2 hA.1).symm
        rw [ex]
        exact ⟨x2, by rw [i3 x d1]; exact x3⟩
      · exact i4 n hm
    · rw [if_neg hA, if_neg (fun e => e hrev.1)]
      have hxr : x ∉ xs.reverse := fun e => d1 (List.mem_reverse.1 e)
      have x3' : (lkU (allU rmU u xs.reverse).2.us x).isSome = true := by rw [hrev.2.2 x hxr]; exact x3
      by_cases hm : numV (x.drop pre.length) ≠ next ∨ (rdF (next - 1) (at0U u.us x).1).2 = 0
      · rw [if_pos hm]
        obtain ⟨e1, e2, e3⟩ := rm_free hrev.2.1.left x2 x3'
        refine ⟨e1, hrev.2.1.trans e2, fun y hy => ?_, fun n hn => by cases hn⟩
        rw [e3 y fun e => hy (by rw [e]; simp), hrev.2.2 y fun e => hy (List.mem_cons_of_mem _ (List.mem_reverse.1 e))]
      · rw [if_neg hm]
        have hnn : numV (x.drop pre.length) = next := Classical.byContradiction fun e => hm (Or.inl e)
        have hll : lenU (allU rmU u xs.reverse).2.us x = lenU u.us x := by unfold lenU at0U; rw [hrev.2.2 x hxr]
        obtain ⟨e1, e2, e3⟩ := cu_free hrev.2.1.left x2 x3' (m := (rdF (next - 1) (at0U u.us x).1).2) (by rw [hll]; omega)
        refine ⟨e1, hrev.2.1.trans e2, fun y hy => ?_, fun n hn => ?_⟩
        · have hyx : y ≠ x := fun e => hy (by rw [e]; simp)
          have hyr := hrev.2.2 y fun e => hy (List.mem_cons_of_mem _ (List.mem_reverse.1 e))
          rcases five_us (allU rmU u xs.reverse).2 [x] (cuU x ((rdF (next - 1) (at0U u.us x).1).2 : Int)) with e | e
          · rw [e, hyr]
          · rw [e]
            unfold cuU
            cases lkU (allU rmU u xs.reverse).2.us x with
            | none => exact hyr
            | some f =>
              simp only
              split
              · exact hyr
              · rw [lkU_pt, if_neg hyx, hyr]
        · have en := List.mem_singleton.1 hn
          have ex : nameN pre n = x := by rw [en]; exact ((seg_name x1 (by omega)).2 hnn).symm
          rw [ex, e3]
          exact ⟨x2, x3'⟩
theorem opF_empty (pre : List UInt8) (u : Ud) : ∀ (xs : List Nm) (next : Nat), (opF pre u xs next).2.2 = [] → (opF pre u xs next).2.1 = []
  | [], _, _ => rfl
  | x :: xs, next, h => by
    simp only [opF] at h ⊢
    split at h
    · cases h
    · rename_i hA
      rw [if_neg hA]
      split at h
      · rename_i h1
        rw [if_pos h1]
      · rename_i h1
        rw [if_neg h1]
        split at h
        · rename_i h2
          rw [if_pos h2]
        · cases h
theorem seg_nodup {us : Us} (h : RisU us) (f : Nm → Bool) : ((us.map (·.1)).filter f).Nodup := by
  refine List.Pairwise.filter f ?_
  rw [List.pairwise_map]
  exact h.imp fun e => bef_ne e
theorem nameN_inj {pre : List UInt8} {n m : Nat} (hn : n < 100000000) (hm : m < 100000000) (h : nameN pre n = nameN pre m) : n = m := by
  obtain ⟨t, e1, _, _, e4⟩ := nameN_form pre n hn
  obtain ⟨t', f1, _, _, f4⟩ := nameN_form pre m hm
  rw [e1, f1] at h
  rw [← e4, ← f4, List.append_cancel_left h]
theorem opF_seg (pre : List UInt8) (u : Ud) (hl : u.left = -1) : ∀ (xs : List Nm) (next : Nat), xs.Nodup → (∀ x ∈ xs, isSeg x pre = true ∧ badN x = false ∧ (lkU u.us x).isSome = true) → next + tU u.us xs < 100000000 →
    ∀ y ∈ xs, (lkU (opF pre u xs next).1.2.us y).isSome = true → ∃ n ∈ (opF pre u xs next).2.2, y = nameN pre n
  | [], next, _, _, _, y, hy, _ => by cases hy
  | x :: xs, next, hd, hx, hn, y, hy, hs => by
    obtain ⟨d1, d2⟩ := List.nodup_cons.1 hd
    obtain ⟨x1, x2, x3⟩ := hx x (by simp)
    obtain ⟨r1, r2⟩ := rdF_le (next - 1) (at0U u.us x).1
    have hlen : (at0U u.us x).1.length = lenU u.us x := rfl
    rw [tU_cons] at hn
    have hgone : ∀ (zs : List Nm) (v : Ud), v.left = -1 → zs.Nodup → (∀ z ∈ zs, badN z = false ∧ (lkU v.us z).isSome = true) → ∀ z ∈ zs, lkU (allU rmU v zs).2.us z = none := by
      intro zs
      induction zs with
      | nil => intro v _ _ _ z hz; cases hz
      | cons a zs ih =>
        intro v hv hnd hz z hm
        obtain ⟨n1, n2⟩ := List.nodup_cons.1 hnd
        obtain ⟨e1, e2, e3⟩ := rm_free hv (hz a (by simp)).1 (hz a (by simp)).2
        have hz' : ∀ z ∈ zs, badN z = false ∧ (lkU (v.five [a] (rmU a)).2.us z).isSome = true := fun z h => ⟨(hz z (List.mem_cons_of_mem _ h)).1, by rw [e3 z fun e => n1 (e ▸ h)]; exact (hz z (List.mem_cons_of_mem _ h)).2⟩
        rw [allU_ok e1]
        by_cases hza : z ∈ zs
        · exact ih _ e2.left n2 hz' z hza
        · have : z = a := (List.mem_cons.1 hm).resolve_right hza
          subst this
          rw [(allU_rm_free zs _ e2.left n2 hz').2.2 z hza, five_free hv (hz z (by simp)).1, rmU_some (hz z (by simp)).2]
          show lkU (dlU v.us z) z = none
          rw [lkU_dl, if_pos rfl]
    have hxs : ∀ z ∈ xs.reverse, badN z = false ∧ (lkU u.us z).isSome = true := fun y hy => (hx y (List.mem_cons_of_mem _ (List.mem_reverse.1 hy))).2
    have hnr : xs.reverse.Nodup := List.pairwise_reverse.2 (d2.imp fun h => Ne.symm h)
    have hrev := allU_rm_free xs.reverse u hl hnr hxs
    have hxr : x ∉ xs.reverse := fun e => d1 (List.mem_reverse.1 e)
    have hno : y ∈ xs → lkU (allU rmU u xs.reverse).2.us y = none := fun h => hgone _ u hl hnr hxs y (List.mem_reverse.2 h)
    simp only [opF] at hs ⊢
    by_cases hA : numV (x.drop pre.length) = next ∧ (rdF (next - 1) (at0U u.us x).1).2 = (at0U u.us x).1.length
    · rw [if_pos hA] at hs ⊢
      rcases List.mem_cons.1 hy with rfl | hy
      · exact ⟨next, by simp, (seg_name x1 (by omega)).2 hA.1⟩
      · obtain ⟨n, h1, h2⟩ := opF_seg pre u hl xs _ d2 (fun y hy => hx y (List.mem_cons_of_mem _ hy)) (by omega) y hy hs
        exact ⟨n, List.mem_cons_of_mem _ h1, h2⟩
    · rw [if_neg hA, if_neg (fun e => e hrev.1)] at hs ⊢
      by_cases hm : numV (x.drop pre.length) ≠ next ∨ (rdF (next - 1) (at0U u.us x).1).2 = 0
      · rw [if_pos hm] at hs
        have x3' : (lkU (allU rmU u xs.reverse).2.us x).isSome = true := by rw [hrev.2.2 x hxr]; exact x3
        rw [five_free hrev.2.1.left x2, rmU_some x3'] at hs
        change (lkU (dlU (allU rmU u xs.reverse).2.us x) y).isSome = true at hs
        rw [lkU_dl] at hs
        split at hs
        · cases hs
        · rename_i hyx
          rw [hno ((List.mem_cons.1 hy).resolve_left hyx)] at hs
          cases hs
      · rw [if_neg hm] at hs ⊢
        have hnn : numV (x.drop pre.length) = next := Classical.byContradiction fun e => hm (Or.inl e)
        by_cases hyx : y = x
        · exact ⟨next, by simp, by rw [hyx]; exact (seg_name x1 (by omega)).2 hnn⟩
        · have hyn := hno ((List.mem_cons.1 hy).resolve_left hyx)
          have x3' : (lkU (allU rmU u xs.reverse).2.us x).isSome = true := by rw [hrev.2.2 x hxr]; exact x3
          have hll : lenU (allU rmU u xs.reverse).2.us x = lenU u.us x := by unfold lenU at0U; rw [hrev.2.2 x hxr]
          have := (cu_free hrev.2.1.left x2 x3' (m := (rdF (next - 1) (at0U u.us x).1).2) (by rw [hll]; omega)).2.2 y
          rw [this, hyn] at hs
          cases hs
theorem opF_top (pre : List UInt8) (u : Ud) : ∀ (xs : List Nm) (next sz : Nat), (opF pre u xs next).1.1 = 0 → (∀ n ∈ (opF pre u xs next).2.2, next ≤ n ∧ n ≤ next + (opF pre u xs next).2.1.length) ∧ ((opF pre u xs next).2.2 ≠ [] → 0 < opS pre u xs next sz → ∀ n ∈ (opF pre u xs next).2.2, n < next + (opF pre u xs next).2.1.length)
  | [], next, sz, _ => ⟨fun n hn => by simp [opF] at hn, fun h => absurd rfl h⟩
  | x :: xs, next, sz, h0 => by
    obtain ⟨k1, _⟩ := rdF_spec (next - 1) (at0U u.us x).1
    have hpos : (rdF (next - 1) (at0U u.us x).1).2 ≠ 0 → 0 < (rdF (next - 1) (at0U u.us x).1).1.length := fun h => by
      cases hc : (rdF (next - 1) (at0U u.us x).1).1 with
      | nil => rw [hc] at k1; exact absurd k1 h
      | cons a l => simp
    simp only [opF] at h0 ⊢
    simp only [opS]
    by_cases hA : numV (x.drop pre.length) = next ∧ (rdF (next - 1) (at0U u.us x).1).2 = (at0U u.us x).1.length
    · rw [if_pos hA] at h0 ⊢
      rw [if_pos hA]
      simp only at h0 ⊢
      obtain ⟨i1, i2⟩ := opF_top pre u xs (next + (rdF (next - 1) (at0U u.us x).1).1.length) (rdF (next - 1) (at0U u.us x).1).2 h0
      rw [List.length_append]
      refine ⟨fun n hn => ?_, fun _ hs n hn => ?_⟩
      · rcases List.mem_cons.1 hn with rfl | hn
        · omega
        · have := i1 n hn
          omega
      · cases hss : (opF pre u xs (next + (rdF (next - 1) (at0U u.us x).1).1.length)).2.2 with
        | nil =>
          rw [opS_nil pre u xs _ _ h0 hss] at hs
          have hp := hpos (by omega)
          rw [hss] at hn
          have := List.mem_singleton.1 hn
          omega
        | cons a bs =>
          have i3 := i2 (by rw [hss]; simp) hs
          rcases List.mem_cons.1 hn with rfl | hn
          · have ha := i3 a (by rw [hss]; simp)
            have hb := i1 a (by rw [hss]; simp)
            omega
          · have := i3 n hn
            omega
    · rw [if_neg hA] at h0 ⊢
      rw [if_neg hA]
      by_cases h1 : (allU rmU u xs.reverse).1 ≠ 0
      · rw [if_pos h1] at h0 ⊢
        exact ⟨fun n hn => (by cases hn), fun h => absurd rfl h⟩
      · rw [if_neg h1] at h0 ⊢
        by_cases hm : numV (x.drop pre.length) ≠ next ∨ (rdF (next - 1) (at0U u.us x).1).2 = 0
        · rw [if_pos hm]
          exact ⟨fun n hn => (by cases hn), fun h => absurd rfl h⟩
        · rw [if_neg hm, if_neg hm]
          have hp := hpos fun e => hm (Or.inr e)
          refine ⟨fun n hn => ?_, fun _ _ n hn => ?_⟩
          · have := List.mem_singleton.1 hn
            omega
          · have := List.mem_singleton.1 hn
            show n < next + (rdF (next - 1) (at0U u.us x).1).1.length
            omega
structure Sl (pre : List UInt8) (u : Ud) (ps : List (List Int)) (las : Nat) (ss : List Nat) (sz k : Nat) : Prop where
  szq : ss ≠ [] → lenU u.us (nameN pre (lastS ss)) = sz
  nil : ss = [] → ps = [] ∧ las = 0
  num : ∀ n ∈ ss, n ≤ 4000001 + k
  few : ps.length ≤ 4000000 + k ∧ ss.length ≤ 4096 + k
  nl : ∀ x, (lkU u.us x).isSome = true → x.length ≤ 64
  rm : u.room ≤ 4000000
  seg : ∀ x, isSeg x pre = true → (lkU u.us x).isSome = true → ∃ n ∈ ss, x = nameN pre n
  top : ∀ n ∈ ss, n ≤ ps.length + 1 ∧ (0 < sz → n ≤ ps.length)
theorem openF_free (hu : Du u) (hl : u.left = -1) : (openF pre u).1.1 = 0 ∧ Fre u (openF pre u).1.2 ∧ Sl pre (openF pre u).1.2 (openF pre u).2.1 (openF pre u).2.1.length (openF pre u).2.2 (opS pre u (segsN (u.us.map (·.1)) pre) 1 0) 0 := by
  obtain ⟨L, hL⟩ : ∃ L, segsN (u.us.map (·.1)) pre = L := ⟨_, rfl⟩
  have hnd : L.Nodup := by rw [← hL]; exact seg_nodup hu.good.ris _
  have hLs : ∀ x ∈ L, isSeg x pre = true ∧ badN x = false ∧ (lkU u.us x).isSome = true := fun x hx => by
    rw [← hL] at hx
    obtain ⟨m1, m2⟩ := List.mem_filter.1 hx
    exact ⟨m2, badN_seg m2 (hu.names x m1), lkU_mem m1⟩
  have htt : tU u.us L ≤ 4000000 := by rw [← hL]; exact Nat.le_trans (tU_filter hu.good.ris _) hu.tot
  have hll : L.length ≤ 4096 := by
    rw [← hL]
    have h1 : (segsN (u.us.map (·.1)) pre).length ≤ (u.us.map (·.1)).length := List.length_filter_le _ _
    have := hu.good.cnt
    rw [List.length_map] at h1
    omega
  have HO : openF pre u = if (opF pre u L 1).1.1 ≠ 0 then opF pre u L 1 else (allU syU (opF pre u L 1).1.2 (namesN pre (opF pre u L 1).2.2), (opF pre u L 1).2) := by rw [← hL]; rfl
  obtain ⟨i1, i2, i3, i4⟩ := opF_free pre u hl L 1 hnd hLs (by omega)
  have hf := opF_few pre u L 1
  have hn := opF_nums pre u L 1
  have hlast := opF_last pre u L 1 0 hnd (fun x hx => (hLs x hx).1) i1
  have hemp := opF_empty pre u L 1
  have hseg := opF_seg pre u hl L 1 hnd hLs (by omega)
  have htop := opF_top pre u L 1 0 i1
  have hLm : ∀ x, isSeg x pre = true → (lkU u.us x).isSome = true → x ∈ L := fun x h1 h2 => by
    rw [← hL]
    refine List.mem_filter.2 ⟨?_, h1⟩
    cases hlk : lkU u.us x with
    | none => rw [hlk] at h2; cases h2
    | some f =>
      obtain ⟨k1, _, _⟩ := spot_some_of hu.good.ris hlk
      exact List.mem_map.2 ⟨_, List.mem_of_getElem? k1, rfl⟩
  rw [if_neg (fun e => e i1)] at HO
  rw [hL, HO]
  generalize opF pre u L 1 = r at *
  obtain ⟨s1, s2, s3⟩ := allU_sy_free (namesN pre r.2.2) r.1.2 i2.left fun x hx => by
    obtain ⟨n, hm, rfl⟩ := List.mem_map.1 hx
    exact i4 n hm
  refine ⟨s1, i2.trans s2, fun hne => ?_, fun he => ⟨hemp he, by rw [hemp he]; rfl⟩, fun n hm => by have := hn n hm; omega, ⟨by show r.2.1.length ≤ _; omega, by show r.2.2.length ≤ _; omega⟩, fun x hx => hu.nl x ((i2.trans s2).sub x hx), by rw [(i2.trans s2).room]; exact hu.rm, fun x h1 h2 => ?_, fun n hm => ?_⟩
  · have := hlast hne (by omega)
    unfold lenU at this ⊢
    rw [allU_sync_bytes]
    exact this
  · have h3 : (lkU r.1.2.us x).isSome = true := by rw [← s3]; exact h2
    exact hseg x (hLm x h1 (i2.sub x h3)) h3
  · have h1 := htop.1 n hm
    refine ⟨by show n ≤ r.2.1.length + 1; omega, fun hz => ?_⟩
    have h2 := htop.2 (List.ne_nil_of_mem hm) hz n hm
    show n ≤ r.2.1.length
    omega
end Go.Proofs.YtnkjhooeklodcaaGreatDoor
end
