/-
  Joined from: SegRest.
-/
import Derived.Test.YtnkjhooeklodcaaGreatDoorM41
import Derived.Test.YtnkjhooeklodcaaGreatDoorM39
section
/-
  restore: the log takes in what is right, and has the disk forget the rest.
-/
namespace Go.Proofs.YtnkjhooeklodcaaGreatDoor
open Go.RowKit Go.Maps Go.Sort

variable {w w' wr w4 w5 : World} {D F F' : Nat → Prop} {lb sb : Nat} {u : Ud} {pre : List UInt8} {es : List En} {las : Nat} {ns : List (List UInt8)} {sz : Nat} {dead : Bool}
theorem enters108 : ∀ args w, (callFunc 108 args).run Tryz.prog w = .ok (.enter 108 args) w := enters_of Tryz.func108 (by kernel_rfl) rfl
theorem tab_keep (h : Fr.Tab w) (hk : w'.heap[0]? = w.heap[0]?) : Fr.Tab w' := fun i hi => by
  rw [World.cell?_of_block hk]
  exact h i hi
theorem run_slice_nm (w : World) (g n cap k : Nat) (hk : k < n) (hn : n ≤ cap) : (Instr.slice 69 (.slice (some ⟨g, 0, none⟩) n cap) (some (.int .i64 (k : Int))) none none).run Tryz.prog w = .ok (.slice (some ⟨g, k, none⟩) (n - k) (cap - k)) w := by
  obtain ⟨i0, hi, hz0, hz1, hz2⟩ := info_parts Tryz.info9p
  have hsz : ∀ W : World, (sizeOf 9).run Tryz.prog W = .ok 1 W := fun W => by simp [sizeOf, typeInfo, hi, hz1]
  have h4 : k ≤ n := by omega
  have h5 : ¬ cap = k := by omega
  simp [Instr.slice, run_underlying Tryz.underlying69, Instr.sliceBounds, Instr.sliceBound, asIntOf, hsz, h4, h5, Addr.add_lit]
theorem wpList_slice_nm (w : World) {ops : Array Oper} {rest : List Oper} {o : Oper} {a : Act} {Q : Exit → Act → World → Prop} (hgd : o.guard = none) (x lo : Operand) (ho : o.op = .slice 69 x (some lo) none none)
    (g n cap k : Nat) (hx : a.eval x = .slice (some ⟨g, 0, none⟩) n cap) (hh : a.eval lo = .int .i64 (k : Int)) (hk : k < n) (hn : n ≤ cap)
    (h : wpList Tryz.prog ops Q rest (a.put o.dst (.slice (some ⟨g, k, none⟩) (n - k) (cap - k))) w) : wpList Tryz.prog ops Q (o :: rest) a w := by
  have hr := run_slice_nm w g n cap k hk hn
  refine wpList_plain hgd fun _ hK => ?_
  unfold Oper.wp execOp
  simp only [ho, Option.map_some, Option.map_none, Sem.run_bind, Instr.sliceAt, run_underlying Tryz.underlying69, hx, hh, hr, Result.andThen_ok, Sem.run_pure]
  exact hK _ _ h
def RestP (w : World) (D F : Nat → Prop) (lb sb : Nat) (pre : List UInt8) (r : (Int × Ud) × List (List Int) × List Nat) (szr : Nat) (e : Ending) (w' : World) : Prop :=
  e = .returned (.int .i64 r.1.1) ∧ ∃ es ss sz dd, LRes w D F lb sb pre r.1.2 es 0 (namesN pre ss) sz dd w' ∧ (r.1.1 = 0 → es.map (·.2) = r.2.1 ∧ ss = r.2.2 ∧ sz = szr ∧ dd = false)
structure RsM (w : World) (D F : Nat → Prop) (lb sb : Nat) (u : Ud) (pre : List UInt8) (tv : Value) (L : List Nm) (es : List En) (ns : List Nm) (sz : Nat) (F' : Nat → Prop) (wr : World) : Prop where
  ld : Ld wr D F' lb sb u pre es 0 ns sz false
  f : ∀ j, F' j → F j ∨ w.heap.size ≤ j
  g : Grows (fun k => D k ∨ F k) w wr
  tb : Cw wr w.heap.size [tv] 69
  row : Ot wr 0 tv L
  tF : ¬ F' w.heap.size
  own : ∀ j, tv.ownBlock = some j → ¬ D j ∧ ¬ F' j ∧ w.heap.size ≤ j
theorem RsM.taken {tv : Value} {L : List Nm} {es2 : List En} {ns2 : List Nm} {sz2 : Nat} (h : RsM w D F lb sb u pre tv L es ns sz F' wr) (hb : Below wr.heap.size wr w4) (hg5 : Grows F' w4 w5) (hl : ∃ ev nv, Lg w5 (Pl F' w4.heap.size) lb sb pre ev nv es2 0 ns2 sz2 false) :
    ∃ F2, RsM w D F lb sb u pre tv L es2 ns2 sz2 F2 w5 := by
  obtain ⟨ev, nv, hl⟩ := hl
  have hs := hb.size
  have h4 := h.ld.below hb
  have hgw := h.g.size
  have hk4 : ∀ k, k < wr.heap.size → ¬ F' k → w5.heap[k]? = wr.heap[k]? := fun k hk hn => (hg5.block k (by omega) hn).trans (hb.block k hk)
  refine ⟨fun k => Pl F' w4.heap.size k ∧ k < w5.heap.size, ⟨⟨h.ld.d.keep fun k hk hlt => hk4 k hlt (h.ld.ap k hk), ⟨ev, nv, hl.tight⟩, fun k hk => Nat.lt_of_lt_of_le (h4.dl k hk) hg5.size, fun k hk => hk.2, fun k hk hf => ?_⟩, fun j hj => ?_, ?_, h.tb.keep (hk4 _ h.tb.lt h.tF), Fr.ownsRow_keep h.row fun k hk hlt => hk4 k hlt (h.own k hk).2.1, fun hf => ?_, fun j hj => ?_⟩⟩
  · rcases hf.1 with e | e
    · exact h.ld.ap k hk e
    · have := h4.dl k hk; omega
  · rcases hj.1 with e | e
    · exact h.f j e
    · exact Or.inr (by omega)
  · have g4 : Grows (fun k => D k ∨ F k) w w4 := ⟨hb.os.trans h.g.os, hb.tape.trans h.g.tape, hb.output.trans h.g.output, by omega, fun k hk hn => (hb.block k (by omega)).trans (h.g.block k hk hn)⟩
    exact g4.trans hg5 fun k hk => (h.f k hk).imp (fun e => Or.inr e) id
  · rcases hf.1 with e | e
    · exact h.tF e
    · have := h.tb.lt; omega
  · obtain ⟨a, b, c⟩ := h.own j hj
    refine ⟨a, fun hf => ?_, c⟩
    rcases hf.1 with e | e
    · exact b e
    · have := (World.ownsRow.lt h.row j hj).2; omega
structure RsP (u : Ud) (pre : List UInt8) (L : List Nm) (k : Nat) (es : List En) (ss : List Nat) (sz : Nat) : Prop where
  op : opF pre u L 1 = ((opF pre u (L.drop k) (es.length + 1)).1, es.map (·.2) ++ (opF pre u (L.drop k) (es.length + 1)).2.1, ss ++ (opF pre u (L.drop k) (es.length + 1)).2.2)
  os : opS pre u L 1 0 = opS pre u (L.drop k) (es.length + 1) sz
  few : es.length + tU u.us (L.drop k) ≤ tU u.us L ∧ ss.length ≤ k
theorem RsP.start (u : Ud) (pre : List UInt8) (L : List Nm) : RsP u pre L 0 [] [] 0 := ⟨rfl, rfl, by simp, Nat.le_refl _⟩
theorem RsP.next {L : List Nm} {k : Nat} {ss : List Nat} {x : Nm} {es' : List En} (h : RsP u pre L k es ss sz) (hx : L[k]? = some x) (hA : numV (x.drop pre.length) = es.length + 1 ∧ (rdF es.length (at0U u.us x).1).2 = (at0U u.us x).1.length) (he : es'.map (·.2) = (rdF es.length (at0U u.us x).1).1) :
    RsP u pre L (k + 1) (es ++ es') (ss ++ [es.length + 1]) (rdF es.length (at0U u.us x).1).2 := by
  have hd : L.drop k = x :: L.drop (k + 1) := by
    obtain ⟨hi, e⟩ := List.getElem?_eq_some_iff.1 hx
    rw [← e]; exact List.drop_eq_getElem_cons hi
  obtain ⟨o1, o2⟩ := opF_ok (xs := L.drop (k + 1)) (u := u) (pre := pre) (x := x) (next := es.length + 1) (by rw [Nat.add_sub_cancel]; exact hA) sz
  rw [Nat.add_sub_cancel] at o1 o2
  have hl : (rdF es.length (at0U u.us x).1).1.length = es'.length := by rw [← he]; simp
  have hn : es.length + 1 + (rdF es.length (at0U u.us x).1).1.length = (es ++ es').length + 1 := by rw [hl, List.length_append]; omega
  rw [hn] at o1 o2
  refine ⟨?_, ?_, ?_, ?_⟩
  · rw [h.op, hd, o1, List.map_append, he]
    simp only [List.append_assoc, List.cons_append, List.nil_append]
  · rw [h.os, hd, o2]
  · have h1 := h.few.1
    have h2 := rdF_le es.length (at0U u.us x).1
    have h3 : lenU u.us x = (at0U u.us x).1.length := rfl
    rw [hd, tU_cons] at h1
    rw [List.length_append]
    omega
  · have := h.few.2
    simp; omega
theorem RsP.done {L : List Nm} {k : Nat} {ss : List Nat} (h : RsP u pre L k es ss sz) (hk : L.length ≤ k) : opF pre u L 1 = ((0, u), es.map (·.2), ss) ∧ opS pre u L 1 0 = sz := by
  have hd : L.drop k = [] := List.drop_eq_nil_of_le hk
  have h1 := h.op
  have h2 := h.os
  rw [hd] at h1 h2
  refine ⟨by rw [h1]; simp [opF], by rw [h2]; rfl⟩
theorem RsP.end {L : List Nm} {k : Nat} {ss : List Nat} {x : Nm} {es' : List En} (h : RsP u pre L k es ss sz) (hx : L[k]? = some x) (hA : ¬ (numV (x.drop pre.length) = es.length + 1 ∧ (rdF es.length (at0U u.us x).1).2 = (at0U u.us x).1.length)) (he : es'.map (·.2) = if numV (x.drop pre.length) = es.length + 1 then (rdF es.length (at0U u.us x).1).1 else []) :
    (opF pre u L 1).1 = endF u x (L.drop (k + 1)) (if numV (x.drop pre.length) = es.length + 1 then (rdF es.length (at0U u.us x).1).2 else 0) ∧
    ((opF pre u L 1).1.1 = 0 → (es ++ es').map (·.2) = (opF pre u L 1).2.1 ∧ (if numV (x.drop pre.length) = es.length + 1 ∧ (rdF es.length (at0U u.us x).1).2 ≠ 0 then ss ++ [es.length + 1] else ss) = (opF pre u L 1).2.2 ∧
      (if numV (x.drop pre.length) = es.length + 1 ∧ (rdF es.length (at0U u.us x).1).2 ≠ 0 then (rdF es.length (at0U u.us x).1).2 else sz) = opS pre u L 1 0) := by
  have hd : L.drop k = x :: L.drop (k + 1) := by
    obtain ⟨hi, e⟩ := List.getElem?_eq_some_iff.1 hx
    rw [← e]; exact List.drop_eq_getElem_cons hi
  obtain ⟨o1, o2⟩ := opF_end (xs := L.drop (k + 1)) (u := u) (pre := pre) (x := x) (next := es.length + 1) (by rw [Nat.add_sub_cancel]; exact hA) sz
  rw [Nat.add_sub_cancel] at o1 o2
  have hop := h.op
  have hos := h.os
  rw [hd] at hop hos
  have e1 : (opF pre u L 1).1 = (opF pre u (x :: L.drop (k + 1)) (es.length + 1)).1 := by rw [hop]
  refine ⟨by rw [e1]; exact o1, fun h0 => ?_⟩
  rw [e1] at h0
  obtain ⟨p1, p2, p3⟩ := o2 h0
  rw [hos, p3]
  have e2 : (opF pre u L 1).2.1 = es.map (·.2) ++ (opF pre u (x :: L.drop (k + 1)) (es.length + 1)).2.1 := by rw [hop]
  have e3 : (opF pre u L 1).2.2 = ss ++ (opF pre u (x :: L.drop (k + 1)) (es.length + 1)).2.2 := by rw [hop]
  rw [e2, e3, p1, p2, List.map_append, he]
  refine ⟨rfl, ?_, rfl⟩
  split
  · rfl
  · rw [List.append_nil]
structure Rdd (wr : World) (zs : List Int) (v : Value) (w4 : World) : Prop where
  cell : w4.cell? ⟨wr.heap.size, 0, none⟩ = some v
  bs : Bs w4 v zs
  own : ∀ j, v.ownBlock = some j → wr.heap.size ≤ j
  b : Below wr.heap.size wr w4
theorem read_seg (h : Ld wr D F' lb sb u pre es las ns sz dead) (x : Nm) (hx : x.length ≤ maxLen) (hm : (lkU u.us x).isSome = true) {w2 : World} (ht : Two (wr.alloc (.cells #[.slice none 0 0] 38)) w2 (.pointer (some ⟨wr.heap.size, 0, none⟩)) (.func (.func 34) #[] #[])) :
    Calls Tryz.prog 55 #[.pointer (some ⟨lb, 0, none⟩), .func (.func 110) #[] #[.pointer (some ⟨wr.heap.size + 1 + 1, 0, none⟩), .pointer (some ⟨wr.heap.size + 1, 0, none⟩)], encStr x] w2 fun e w4 => e = .returned (.int .i64 0) ∧ ∃ a4 c4, Rdd wr (at0U u.us x).1 (.slice a4 (at0U u.us x).1.length c4) w4 := by
  have hA : Below wr.heap.size wr (wr.alloc (.cells #[.slice none 0 0] 38)) := (Below.refl _ _).alloc (Nat.le_refl _) _
  have hsA : (wr.alloc (.cells #[.slice none 0 0] 38)).heap.size = wr.heap.size + 1 := World.size_alloc _ _
  have t1 := ht.fst
  have t2 := ht.snd
  have t3 := ht.size
  have t4 := ht.below
  rw [hsA] at t1 t2 t3 t4
  have hb2 : Below wr.heap.size wr w2 := hA.trans (t4.mono (by omega))
  have hld2 := h.below hb2
  obtain ⟨ev, nv, hl⟩ := h.l
  have hlt := hl.blk.lt
  have hct : Cw w2 wr.heap.size [.slice none 0 0] 38 := (Cw.new wr [.slice none 0 0] 38).keep (t4.block _ (by omega))
  have he0 : rdE u.us x = 0 := by unfold rdE; rw [if_pos hm]
  refine (askRead hld2 x hx (wr.heap.size + 1) wr.heap.size (by omega) (by omega) _ hct t1 t2).mono ?_
  rintro e w4 ⟨er, w3, rfl, ⟨her, v, w1, ho, hB, hw3⟩, hc⟩
  rw [he0] at her
  subst her
  obtain ⟨_, rfl⟩ : _ ∧ w4 = w3 := hc.resolve_right fun e => e.1 (Or.inl rfl)
  subst hw3
  have hbs := ho.bs
  obtain ⟨a4, c4, rfl, _⟩ := hbs.len
  have hown : ∀ j, (Value.slice a4 (at0U u.us x).1.length c4).ownBlock = some j → w2.heap.size ≤ j := fun j hj => (World.ownsRow.lt ho j hj).1
  have hct1 := hct.below hB (by omega)
  have hb1 : Below wr.heap.size wr w1 := hb2.trans (hB.mono (by omega))
  refine ⟨rfl, a4, c4, (hct1.set 0 _).cell 0, hbs.keep fun j hj _ => set_other _ _ _ _ _ fun e => by have := hown j hj; omega, fun j hj => by have := hown j hj; omega, hb1.setCell (p := ⟨wr.heap.size, 0, none⟩) (Nat.le_refl _) _⟩
theorem namesN_snoc (pre : List UInt8) (ss : List Nat) (n : Nat) : namesN pre (ss ++ [n]) = namesN pre ss ++ [nameN pre n] := by simp [namesN]
def RsI (w : World) (D F : Nat → Prop) (lb sb : Nat) (u : Ud) (pre : List UInt8) (tv : Value) (L : List Nm) (k : Nat) (wr : World) : Prop := ∃ es ss sz F', RsM w D F lb sb u pre tv L es (namesN pre ss) sz F' wr ∧ RsP u pre L k es ss sz
set_option maxHeartbeats 4000000 in
set_option maxRecDepth 100000 in
theorem restore_any (w : World) (h : Ld w D F lb sb u pre [] 0 [] 0 false) (hg : Gd u) (hnl : ∀ x ∈ u.us.map (·.1), x.length ≤ 64) (htot : totU u.us ≤ 4000000) (ht : Fr.Tab w) (hp : Pw w) (h8 : 8 ≤ w.heap.size) (hlow : ∀ k, k < 8 → ¬ D k ∧ ¬ F k) :
    Calls Tryz.prog 61 #[.pointer (some ⟨lb, 0, none⟩)] w (RestP w D F lb sb pre (opF pre u (segsN (u.us.map (·.1)) pre) 1) (opS pre u (segsN (u.us.map (·.1)) pre) 1 0)) := by
  obtain ⟨ev, nv, hl⟩ := h.l
  have hcn : u.us.length ≤ 4096 := hg.cnt
  obtain ⟨L, hL⟩ : ∃ L, segsN (u.us.map (·.1)) pre = L := ⟨_, rfl⟩
  have hLlen : L.length ≤ 4096 := by
    rw [← hL]
    have h1 : (segsN (u.us.map (·.1)) pre).length ≤ (u.us.map (·.1)).length := List.length_filter_le _ _
    rw [List.length_map] at h1
    omega
  have hLtot : tU u.us L ≤ 4000000 := by
    rw [← hL]
    exact Nat.le_trans (tU_filter hg.ris _) htot
  have hLs : ∀ x ∈ L, isSeg x pre = true ∧ x ∈ u.us.map (·.1) := by
    intro x hx
    rw [← hL] at hx
    have := List.mem_filter.1 hx
    exact ⟨this.2, this.1⟩
  have hA : Below w.heap.size w (w.alloc (.cells #[.slice none 0 0] 69)) := (Below.refl _ _).alloc (Nat.le_refl _) _
  have hlbl := hl.blk.lt
  have hsA : (w.alloc (.cells #[.slice none 0 0] 69)).drew.heap.size = w.heap.size + 1 := World.size_alloc _ _
  have HCS : Hid (∀ w2 : World, Two (w.alloc (.cells #[.slice none 0 0] 69)).drew w2 (.pointer (some ⟨w.heap.size, 0, none⟩)) (.func (.func 44) #[] #[]) →
      w2.cell? ⟨lb, 1, none⟩ = some (encStr pre) ∧
      Calls Tryz.prog 55 #[.pointer (some ⟨lb, 0, none⟩), .func (.func 108) #[] #[.pointer (some ⟨w.heap.size + 1 + 1, 0, none⟩), .pointer (some ⟨w.heap.size + 1, 0, none⟩)], encStr pre] w2 fun e w3 => e = .returned (.int .i64 0) ∧ (∃ tv, RsI w D F lb sb u pre tv L 0 w3) ∧ w3.cell? ⟨lb, 1, none⟩ = some (encStr pre)) := by
    intro w2 ht2
    have t1 := ht2.fst
    have t2 := ht2.snd
    have t3 := ht2.size
    have t4 := ht2.below
    rw [hsA] at t1 t2 t3 t4
    have hb2 : Below w.heap.size w w2 := ⟨t4.os, t4.tape, t4.output, by omega, fun k hk => (t4.block k (by omega)).trans (hA.block k hk)⟩
    have hld2 := h.below hb2
    have hl2 := hl.below hb2
    have hct : Cw w2 w.heap.size [.slice none 0 0] 69 := (show Cw (w.alloc (.cells #[.slice none 0 0] 69)).drew w.heap.size [.slice none 0 0] 69 from Cw.new w [.slice none 0 0] 69).keep (t4.block _ (by omega))
    have C := segClo_any hld2.d pre (w.heap.size + 1) w.heap.size t1 t2 hct (by omega) (fun n hn => by have := hnl n hn; omega) (by omega)
    rw [hL] at C
    refine ⟨hl2.blk.cell 1, (lgate_any 108 _ enters108 pre w2 hl2 (fun er w3 => er = 0 ∧ ∃ tv, Sg w2 w.heap.size w3 tv L) ?_).mono ?_⟩
    · refine Calls.mono C ?_
      rintro e w3 ⟨rfl, tv, hS⟩
      exact ⟨0, rfl, ⟨rfl, tv, hS⟩, hS.g.block lb (by omega) (by omega)⟩
    · rintro e w3 ⟨er, w1, rfl, ⟨rfl, tv, hS⟩, hc⟩
      obtain ⟨_, rfl⟩ : _ ∧ w3 = w1 := hc.resolve_right fun e => e.1 (Or.inl rfl)
      have hgs := hS.g.size
      have hkk : ∀ k, k < w2.heap.size → k < w.heap.size → w3.heap[k]? = w2.heap[k]? := fun k hk hk' => hS.g.block k hk (by omega)
      have hl3 := hl2.keep (w' := w3) hgs fun k hk hlt => hkk k hlt (h.fl k hk)
      refine ⟨rfl, ⟨tv, [], [], 0, F, ⟨⟨hld2.d.keep fun k hk hlt => hkk k hlt (h.dl k hk), ⟨ev, nv, hl3⟩, fun k hk => Nat.lt_of_lt_of_le (hld2.dl k hk) hgs, fun k hk => Nat.lt_of_lt_of_le (hld2.fl k hk) hgs, h.ap⟩, fun j hj => Or.inl hj, ⟨hS.g.os.trans hb2.os, hS.g.tape.trans hb2.tape, hS.g.output.trans hb2.output, Nat.le_trans hb2.size hgs, fun k hk _ => (hkk k (by omega) hk).trans (hb2.block k hk)⟩, hS.blk, hS.row, fun e => by have := h.fl _ e; omega, fun j hj => ?_⟩, RsP.start u pre L⟩, hl3.blk.cell 1⟩
      have := hS.own j hj
      exact ⟨fun e => by have := h.dl j e; omega, fun e => by have := h.fl j e; omega, by omega⟩
  have CSG : Calls Tryz.prog 86 #[.pointer (some ⟨w.heap.size, 0, none⟩), .func (.func 44) #[] #[]] (w.alloc (.cells #[.slice none 0 0] 69)).drew fun e w2 => e = .returned (.func (.func 108) #[] #[.pointer (some ⟨w.heap.size + 1 + 1, 0, none⟩), .pointer (some ⟨w.heap.size + 1, 0, none⟩)]) ∧ Two (w.alloc (.cells #[.slice none 0 0] 69)).drew w2 (.pointer (some ⟨w.heap.size, 0, none⟩)) (.func (.func 44) #[] #[]) := by
    have := segs_any 44 ⟨w.heap.size, 0, none⟩ (w.alloc (.cells #[.slice none 0 0] 69)).drew
    rw [hsA] at this
    exact this
  have c1 : (w.alloc (.cells #[.slice none 0 0] 69)).drew.cell? ⟨lb, 1, none⟩ = some (encStr pre) := (hA.cell (p := ⟨lb, 1, none⟩) hlbl).trans (hl.blk.cell 1)
  have HH := hid_into h
  have HG := hid_into hg
  rw [hL]
  obtain ⟨r, hr⟩ : ∃ r, opF pre u L 1 = r := ⟨_, rfl⟩
  obtain ⟨szr, hsr⟩ : ∃ s, opS pre u L 1 0 = s := ⟨_, rfl⟩
  rw [hr, hsr]
  have HR := hid_into hr
  have HSR := hid_into hsr
  have HNL := hid_into hnl
  have HLS := hid_into hLs
  have HTB := hid_into ht
  have HPW := hid_into hp
  have HLOW := hid_into hlow
  clear h hl hg hr hsr hnl hLs hL ht hp hlow hA
  go_enter Tryz.func61, Tryz.ntmps61
  go_wp2_with fail
  go_region_held3 (fun w' => w'.cell? ⟨lb, 1, none⟩ = some (encStr pre)) (first | assumption | exact c1 | exact hS2)
    (first
      | (go_at_call 86; refine CSG.mono ?_; rintro e w2 ⟨rfl, ht2⟩; have hS2 := (HCS.out w2 ht2).1; have C2 := (HCS.out w2 ht2).2)
      | (go_at_call 55; refine C2.mono ?_; rintro e w3 ⟨rfl, ⟨tv, hI⟩, hS3⟩))
  obtain ⟨ao, cap, htv⟩ : ∃ ao cap, tv = .slice ao L.length cap := by
    obtain ⟨es, ss, sz, F', hM, _⟩ := hI
    exact hM.row.form
  subst htv
  have ct3 : w3.cell? ⟨w.heap.size, 0, none⟩ = some (.slice ao L.length cap) := by
    obtain ⟨es, ss, sz, F', hM, _⟩ := hI
    exact hM.tb.cell 0
  have HI := hid_into hI
  clear hI C2 HCS CSG hS2 hS3 c1
  go_wp2_with fail
  go_loopw [23] (fun i wr => ∃ k : Nat, k ≤ L.length ∧ i = .int .i64 (k : Int) ∧ Hid (RsI w D F lb sb u pre (.slice ao L.length cap) L k wr)) (fun i _ => L.length - (intOf i).toNat)
  case atStart => exact ⟨0, Nat.zero_le _, rfl, HI.out⟩
  case round =>
    clear HI ct3
    obtain ⟨k, hk, rfl, HK⟩ := hrel
    obtain ⟨es, ss, sz, F', hM, hP⟩ := HK.out
    clear HK
    by_cases hlt : k < L.length
    · obtain ⟨x, hx⟩ : ∃ x, L[k]? = some x := ⟨_, List.getElem?_eq_getElem hlt⟩
      have hxm := List.mem_of_getElem? hx
      obtain ⟨hseg, hxn⟩ := HLS.out x hxm
      have hx64 := HNL.out x hxn
      have hxl : x.length ≤ maxLen := names_le (by omega)
      have hsm : (lkU u.us x).isSome = true := by
        obtain ⟨p, hp, rfl⟩ := List.mem_map.1 hxn
        rw [lkU_of_mem HG.out.ris hp]; rfl
      obtain ⟨g, hga, hcap⟩ : ∃ g, ao = some ⟨g, 0, none⟩ ∧ L.length ≤ cap := by
        rcases hM.row.2 with ⟨_, h2⟩ | ⟨g, cap', cur, h2, _, h3, h4, _⟩
        · omega
        · simp only [Value.slice.injEq] at h2
          exact ⟨g, h2.1, by rw [h2.2.2]; exact h4⟩
      subst hga
      have y1 := hM.row.cell hx
      have ct : wr.cell? ⟨w.heap.size, 0, none⟩ = some (.slice (some ⟨g, 0, none⟩) L.length cap) := hM.tb.cell 0
      have hdk : L.drop k = x :: L.drop (k + 1) := by
        obtain ⟨hi, e⟩ := List.getElem?_eq_some_iff.1 hx
        rw [← e]; exact List.drop_eq_getElem_cons hi
      have hfew := hP.few
      rw [hdk, tU_cons] at hfew
      have hzl : (at0U u.us x).1.length = lenU u.us x := rfl
      have hy := HG.out.bytes x
      have hgs := hM.g.size
      have HF' : Hid (∀ j, F' j → j < wr.heap.size) := hM.ld.fl
      obtain ⟨ev', nv', hl'⟩ := hM.ld.l
      have HTK : Hid (∀ w4 a4 c4, Rdd wr (at0U u.us x).1 (.slice a4 (at0U u.us x).1.length c4) w4 → Calls Tryz.prog 88 #[.pointer (some ⟨lb, 0, none⟩), encStr x, .slice a4 (at0U u.us x).1.length c4] w4 (TakeP w4 F' lb sb pre es 0 (namesN pre ss) sz false x (at0U u.us x).1)) := by
        intro w4 a4 c4 hR
        have hk0 : ∀ k, k < 8 → w4.heap[k]? = w.heap[k]? := fun k hk => (hR.b.block k (by omega)).trans (hM.g.block k (by omega) fun e => e.elim (HLOW.out k hk).1 (HLOW.out k hk).2)
        refine take_any x _ (at0U u.us x).1 w4 (hl'.below hR.b) hR.bs hy (by omega) (fun j hj e => by have := hR.own j hj; have := HF'.out j e; omega) (tab_keep HTB.out (hk0 0 (by omega))) (HPW.out.keep hk0) (by have := hR.b.size; omega) (fun k hk e => ?_) ⟨by omega, by unfold namesN; rw [List.length_map]; omega⟩
        rcases hM.f k e with e | e
        · exact (HLOW.out k hk).2 e
        · omega
      have HRD : Hid (∀ w2, Two (wr.alloc (.cells #[.slice none 0 0] 38)) w2 (.pointer (some ⟨wr.heap.size, 0, none⟩)) (.func (.func 34) #[] #[]) → Calls Tryz.prog 55 #[.pointer (some ⟨lb, 0, none⟩), .func (.func 110) #[] #[.pointer (some ⟨wr.heap.size + 1 + 1, 0, none⟩), .pointer (some ⟨wr.heap.size + 1, 0, none⟩)], encStr x] w2 fun e w4 => e = .returned (.int .i64 0) ∧ ∃ a4 c4, Rdd wr (at0U u.us x).1 (.slice a4 (at0U u.us x).1.length c4) w4) := fun w2 ht => read_seg hM.ld x hxl hsm ht
      have CIN : Calls Tryz.prog 87 #[.pointer (some ⟨wr.heap.size, 0, none⟩), .func (.func 34) #[] #[]] (wr.alloc (.cells #[.slice none 0 0] 38)) fun e w2 => e = .returned (.func (.func 110) #[] #[.pointer (some ⟨wr.heap.size + 1 + 1, 0, none⟩), .pointer (some ⟨wr.heap.size + 1, 0, none⟩)]) ∧ Two (wr.alloc (.cells #[.slice none 0 0] 38)) w2 (.pointer (some ⟨wr.heap.size, 0, none⟩)) (.func (.func 34) #[] #[]) := by
        have := into_any 34 ⟨wr.heap.size, 0, none⟩ (wr.alloc (.cells #[.slice none 0 0] 38))
        rw [World.size_alloc] at this
        exact this
      have hn8 : es.length + 1 < 100000000 := by omega
      by_cases hA : numV (x.drop pre.length) = es.length + 1 ∧ (rdF es.length (at0U u.us x).1).2 = (at0U u.us x).1.length
      · have HGO : Hid (∀ w4 a4 c4, Rdd wr (at0U u.us x).1 (.slice a4 (at0U u.us x).1.length c4) w4 → Calls Tryz.prog 88 #[.pointer (some ⟨lb, 0, none⟩), encStr x, .slice a4 (at0U u.us x).1.length c4] w4 fun e w5 => e = .returned (.tuple #[.int .i64 ((at0U u.us x).1.length : Int), .bool true]) ∧ Hid (RsI w D F lb sb u pre (.slice (some ⟨g, 0, none⟩) L.length cap) L (k + 1) w5)) := by
          intro w4 a4 c4 hR
          refine (HTK.out w4 a4 c4 hR).mono fun e w5 hT => ?_
          obtain ⟨he, es', hes, hgr, hl5⟩ := TakeP.good hT hseg hn8 hA
          refine ⟨he, ?_⟩
          have hxe : x = nameN pre (es.length + 1) := (seg_name hseg hn8).2 hA.1
          have hns : namesN pre ss ++ [x] = namesN pre (ss ++ [es.length + 1]) := by rw [namesN_snoc, ← hxe]
          rw [hns] at hl5
          obtain ⟨F2, hM2⟩ := hM.taken hR.b hgr hl5
          exact ⟨_, _, _, F2, hM2, hP.next hx hA hes⟩
        generalize (at0U u.us x).1 = zs at *
        clear hM hP hl' HTK hfew hdk hx hxm hseg hxn hxl hsm hA hn8 hy hzl
        go_wp2_with (first
          | (go_at_call 87; refine CIN.mono ?_; rintro e w2 ⟨rfl, ht2⟩)
          | (go_at_call 55; refine (HRD.out w2 ht2).mono ?_; rintro e w4 ⟨rfl, a4, c4, hR4⟩; have cr4 := hR4.cell)
          | (go_at_call 88; refine (HGO.out w4 a4 c4 hR4).mono ?_; rintro e w5 ⟨rfl, HI5⟩))
        go_roundw
        case rel => exact ⟨k + 1, by omega, by go_num, HI5⟩
        case measure => simp [intOf]; omega
      · have hle : (L.drop (k + 1)).length + 1 = L.length - k := by rw [List.length_drop]; omega
        have HBA : Hid (∀ w4 a4 c4, Rdd wr (at0U u.us x).1 (.slice a4 (at0U u.us x).1.length c4) w4 → Calls Tryz.prog 88 #[.pointer (some ⟨lb, 0, none⟩), encStr x, .slice a4 (at0U u.us x).1.length c4] w4 fun e w5 => ∃ good : Nat, e = .returned (.tuple #[.int .i64 (good : Int), .bool false]) ∧ w5.cell? ⟨w.heap.size, 0, none⟩ = some (.slice (some ⟨g, 0, none⟩) L.length cap) ∧
            Calls Tryz.prog 89 #[.pointer (some ⟨lb, 0, none⟩), .slice (some ⟨g, k, none⟩) (L.length - k) (cap - k), .int .i64 (good : Int)] w5 fun e w6 => e = .returned (.int .i64 r.1.1) ∧ RestP w D F lb sb pre r szr (.returned (.int .i64 r.1.1)) w6) := by
          intro w4 a4 c4 hR
          refine (HTK.out w4 a4 c4 hR).mono fun e w5 hT => ?_
          obtain ⟨he, es', hes, hgr, hl5⟩ := TakeP.bad hT hseg hn8 hA
          obtain ⟨q1, q2⟩ := hP.end hx hA hes
          rw [HR.out] at q1 q2
          rw [HSR.out] at q2
          have hns : (if numV (x.drop pre.length) = es.length + 1 ∧ (rdF es.length (at0U u.us x).1).2 ≠ 0 then namesN pre ss ++ [x] else namesN pre ss) = namesN pre (if numV (x.drop pre.length) = es.length + 1 ∧ (rdF es.length (at0U u.us x).1).2 ≠ 0 then ss ++ [es.length + 1] else ss) := by
            split
            · rename_i hc
              rw [namesN_snoc, ← (seg_name hseg hn8).2 hc.1]
            · rfl
          rw [hns] at hl5
          have hgl : (if numV (x.drop pre.length) = es.length + 1 then (rdF es.length (at0U u.us x).1).2 else 0) ≤ 1073741824 := by
            have := (rdF_le es.length (at0U u.us x).1).2
            split <;> omega
          generalize (if numV (x.drop pre.length) = es.length + 1 then (rdF es.length (at0U u.us x).1).2 else 0) = good at *
          generalize (if numV (x.drop pre.length) = es.length + 1 ∧ (rdF es.length (at0U u.us x).1).2 ≠ 0 then ss ++ [es.length + 1] else ss) = ss2 at *
          generalize (if numV (x.drop pre.length) = es.length + 1 ∧ (rdF es.length (at0U u.us x).1).2 ≠ 0 then (rdF es.length (at0U u.us x).1).2 else sz) = sz2 at *
          obtain ⟨F2, hM2⟩ := hM.taken hR.b hgr hl5
          have hgb := hM2.own g rfl
          have hgl2 := (World.ownsRow.lt hM2.row g rfl).2
          refine ⟨good, he, hM2.tb.cell 0, ?_⟩
          have C := end_any w5 hM2.ld g k (cap - k) x (L.drop (k + 1)) hgl2 ⟨hgb.1, hgb.2.1⟩ (fun j y hj => by
              rw [← hdk, List.getElem?_drop] at hj
              exact hM2.row.cell hj) (fun y hy => by
              rw [← hdk] at hy
              exact names_le (by have := HNL.out y (HLS.out y (List.mem_of_mem_drop hy)).2; omega)) (by rw [hle]; omega) (by rw [List.length_drop]; omega) good hgl
          rw [← q1, hle] at C
          refine C.mono ?_
          rintro e w6 ⟨rfl, hR6⟩
          refine ⟨rfl, rfl, _, ss2, sz2, _, LRes.then (fun j hj => Or.inl hj) hM2.f hM2.g hR6, fun h0 => ?_⟩
          obtain ⟨a1, a2, a3⟩ := q2 h0
          exact ⟨a1, a2, a3, if_pos (Or.inl h0)⟩
        have hck : ¬ cap - k = 0 := by omega
        generalize (at0U u.us x).1 = zs at *
        clear hM hP hl' HTK hfew hdk hx hxm hseg hxn hxl hsm hA hn8 hy hzl
        go_wp2_with (first
          | (go_at_call 87; refine CIN.mono ?_; rintro e w2 ⟨rfl, ht2⟩)
          | (go_at_call 55; refine (HRD.out w2 ht2).mono ?_; rintro e w4 ⟨rfl, a4, c4, hR4⟩; have cr4 := hR4.cell)
          | (go_at_call 88; refine (HBA.out w4 a4 c4 hR4).mono ?_; rintro e w5 ⟨good, rfl, ct5, C89⟩)
          | (refine wpList_slice_nm _ rfl (.tmp 45) (.tmp 46) rfl g L.length cap k rfl rfl hlt hcap ?_)
          | (go_at_call 89; refine C89.mono ?_; rintro e w6 ⟨rfl, hR6⟩))
        go_ret
        exact hR6
    · obtain ⟨p1, p2⟩ := hP.done (by omega)
      rw [HR.out] at p1
      rw [HSR.out] at p2
      have HFIN : Hid (RestP w D F lb sb pre r szr (.returned (.int .i64 0)) wr) := by
        show RestP w D F lb sb pre r szr (.returned (.int .i64 0)) wr
        rw [p1, p2]
        exact ⟨rfl, es, ss, sz, false, ⟨D, F', hM.ld, fun j hj => Or.inl hj, hM.f, hM.g⟩, fun _ => ⟨rfl, rfl, rfl, rfl⟩⟩
      clear hM hP p1 p2
      go_wp2_with fail
      go_ret
      exact HFIN.out
end Go.Proofs.YtnkjhooeklodcaaGreatDoor
end
