/-
  Joined from: SegAll, SegRead, SegGate.
-/
import Derived.Test.YtnkjhooeklodcaaGreatDoorM30
import Derived.Test.YtnkjhooeklodcaaGreatDoorM10
section
/-
  take: a segment is taken in.
-/
namespace Go.Proofs.YtnkjhooeklodcaaGreatDoor
open Go.RowKit Go.Maps Go.Sort
open Fr (takeR decN decE decP numR)

theorem run_slice_bs (w : World) (v : Value) (zs : List Int) (hv : Bs w v zs) (k : Nat) (hk : k ≤ zs.length) : ∃ u, (Instr.slice 38 v (some (.int .i64 (k : Int))) none none).run Tryz.prog w = .ok u w ∧ Bs w u (zs.drop k) := by
  obtain ⟨i0, hi, hz0, hz1, hz2⟩ := info_parts Tryz.info5
  have hsz : ∀ W : World, (sizeOf 5).run Tryz.prog W = .ok 1 W := fun W => by simp [sizeOf, typeInfo, hi, hz1]
  rcases hv with ⟨rfl, ao, cap, rfl, hc, hn⟩ | ⟨hne, b, off, cap, rfl, hc, hm, hcell⟩
  · obtain rfl : k = 0 := by simpa using hk
    refine ⟨.slice ao 0 cap, ?_, Or.inl ⟨rfl, ao, cap, rfl, hc, hn⟩⟩
    cases ao with
    | none =>
      obtain rfl := hn rfl
      simp [Instr.slice, run_underlying Tryz.underlying38, Instr.sliceBounds, Instr.sliceBound, asIntOf, hsz]
    | some a =>
      simp [Instr.slice, run_underlying Tryz.underlying38, Instr.sliceBounds, Instr.sliceBound, asIntOf, hsz]
      intro _
      cases a
      rfl
  · have hb := Fr.Bs.suffix (w := w) (Or.inr ⟨hne, b, off, cap, rfl, hc, hm, hcell⟩) k hk hne
    unfold maxLen at hm
    have h4 : k ≤ zs.length := hk
    by_cases hck : cap = k
    · have e0 : zs.length - k = 0 := by omega
      refine ⟨.slice (some ⟨b, off, none⟩) (zs.length - k) 0, ?_, Or.inl ⟨List.drop_eq_nil_of_le (by omega), some ⟨b, off, none⟩, 0, by rw [e0], by unfold maxLen; omega, fun e => by cases e⟩⟩
      simp [Instr.slice, run_underlying Tryz.underlying38, Instr.sliceBounds, Instr.sliceBound, asIntOf, hsz, h4, hck]
    · refine ⟨_, ?_, hb⟩
      simp [Instr.slice, run_underlying Tryz.underlying38, Instr.sliceBounds, Instr.sliceBound, asIntOf, hsz, h4, hck, Addr.add_lit]
theorem wpList_slice_bs (w : World) {ops : Array Oper} {rest : List Oper} {o : Oper} {a : Act} {Q : Exit → Act → World → Prop} (hgd : o.guard = none) (x lo : Operand) (ho : o.op = .slice 38 x (some lo) none none)
    (v : Value) (zs : List Int) (hx : a.eval x = v) (hv : Bs w v zs) (k : Nat) (hh : a.eval lo = .int .i64 (k : Int)) (hk : k ≤ zs.length)
    (h : ∀ u, Bs w u (zs.drop k) → wpList Tryz.prog ops Q rest (a.put o.dst u) w) : wpList Tryz.prog ops Q (o :: rest) a w := by
  obtain ⟨u, hr, hb⟩ := run_slice_bs w v zs hv k hk
  refine wpList_plain hgd fun _ hK => ?_
  unfold Oper.wp execOp
  simp only [ho, Option.map_some, Option.map_none, Sem.run_bind, Instr.sliceAt, run_underlying Tryz.underlying38, hx, hh, hr, Result.andThen_ok, Sem.run_pure]
  exact hK _ _ (h u hb)
def Tk (n : Nat) (zs : List Int) : List (List Int) → Nat → Prop
  | [], m => m = 0
  | p :: ps, m => takeR ((n : Int) + 1) zs = some p ∧ decN zs ≤ m ∧ Tk (n + 1) (zs.drop (decN zs)) ps (m - decN zs)
theorem Tk.le : ∀ {ps : List (List Int)} {n : Nat} {zs : List Int} {m : Nat}, Tk n zs ps m → m ≤ zs.length := by
  intro ps
  induction ps with
  | nil => intro n zs m h; have : m = 0 := h; omega
  | cons p ps ih =>
    intro n zs m ⟨_, h2, h3⟩
    have := ih h3
    have := Fr.decN_le zs
    simp at *
    omega
theorem Tk.snoc : ∀ {ps : List (List Int)} {n : Nat} {zs : List Int} {m : Nat} {p : List Int}, Tk n zs ps m → takeR (((n + ps.length : Nat) : Int) + 1) (zs.drop m) = some p → Tk n zs (ps ++ [p]) (m + decN (zs.drop m)) := by
  intro ps
  induction ps with
  | nil =>
    intro n zs m p h hp
    obtain rfl : m = 0 := h
    refine ⟨by simpa using hp, by simp, ?_⟩
    show _ = _
    simp
  | cons q ps ih =>
    intro n zs m p ⟨h1, h2, h3⟩ hp
    have e1 : zs.drop m = (zs.drop (decN zs)).drop (m - decN zs) := by rw [List.drop_drop]; congr 1; omega
    have e2 : n + (q :: ps).length = (n + 1) + ps.length := by simp; omega
    rw [e2, e1] at hp
    have := ih h3 hp
    rw [← e1] at this
    refine ⟨h1, by omega, ?_⟩
    have e3 : m + decN (zs.drop m) - decN zs = m - decN zs + decN (zs.drop m) := by omega
    rw [e3]
    exact this
theorem takeR_some {n : Int} {zs p : List Int} (h : takeR n zs = some p) : 12 ≤ decN zs ∧ p.length ≤ 65536 := by
  unfold takeR at h
  split at h
  · rename_i hc
    obtain ⟨k, h1, h2⟩ := Fr.numR_suf 10 0 0 (decP zs)
    refine ⟨Fr.decN_pos hc.1, ?_⟩
    obtain rfl := Option.some.inj h
    rw [h2, Fr.decP_good hc.1]
    have := Fr.heldN_le (Fr.decE_inv hc.1).1
    simp
    omega
  · cases h
theorem Tk.many : ∀ {ps : List (List Int)} {n : Nat} {zs : List Int} {m : Nat}, Tk n zs ps m → ps.length ≤ m := by
  intro ps
  induction ps with
  | nil => intro n zs m _; simp
  | cons p ps ih =>
    intro n zs m ⟨h1, h2, h3⟩
    have := ih h3
    have := (takeR_some h1).1
    simp
    omega
def TakeInv (w : World) (F : Nat → Prop) (lb sb : Nat) (pre : List UInt8) (nv : Value) (es : List En) (las : Nat) (ns : List (List UInt8)) (sz : Nat) (dead : Bool) (zs : List Int) (g : Value) (wr : World) : Prop :=
  ∃ (es' : List En) (m : Nat), g = .int .i64 m ∧ Tk es.length zs (es'.map (·.2)) m ∧ (∃ ev', Lg wr (Pl F w.heap.size) lb sb pre ev' nv (es ++ es') las ns sz dead) ∧ Grows F w wr
def TakeP (w : World) (F : Nat → Prop) (lb sb : Nat) (pre : List UInt8) (es : List En) (las : Nat) (ns : List (List UInt8)) (sz : Nat) (dead : Bool) (name : List UInt8) (zs : List Int) (e : Ending) (w' : World) : Prop :=
  Grows F w w' ∧
  ((name ≠ nameN pre (es.length + 1) ∧ e = .returned (.tuple #[.int .i64 0, .bool false]) ∧ ∃ ev nv, Lg w' (Pl F w.heap.size) lb sb pre ev nv es las ns sz dead) ∨
   (name = nameN pre (es.length + 1) ∧ ∃ (es' : List En) (m : Nat), Tk es.length zs (es'.map (·.2)) m ∧ takeR (((es.length + es'.length : Nat) : Int) + 1) (zs.drop m) = none ∧ e = .returned (.tuple #[.int .i64 m, .bool (decide (m = zs.length))]) ∧
     ∃ ev nv, Lg w' (Pl F w.heap.size) lb sb pre ev nv (es ++ es') las (if 0 < m ∨ m = zs.length then ns ++ [name] else ns) (if 0 < m ∨ m = zs.length then m else sz) dead))
set_option maxHeartbeats 4000000 in
set_option maxRecDepth 100000 in
theorem take_any {F : Nat → Prop} {lb sb : Nat} {pre : List UInt8} {ev nv : Value} {es : List En} {las : Nat} {ns : List (List UInt8)} {sz : Nat} {dead : Bool}
    (name : List UInt8) (dv : Value) (zs : List Int) (w : World) (h : Lg w F lb sb pre ev nv es las ns sz dead) (hb : Bs w dv zs) (hy : Byt zs) (hz : zs.length ≤ 1000000000) (hd : ∀ k, dv.ownBlock = some k → ¬ F k)
    (ht : Fr.Tab w) (hp : Pw w) (h8 : 8 ≤ w.heap.size) (hG : ∀ k, k < 8 → ¬ F k) (hfew : es.length + zs.length + 1 ≤ 5000000 ∧ ns.length ≤ 5000000) :
    Calls Tryz.prog 88 #[.pointer (some ⟨lb, 0, none⟩), encStr name, dv] w (TakeP w F lb sb pre es las ns sz dead name zs) := by
  have CN := nextName_any w h hp
  obtain ⟨ao, cap, hdv, hm⟩ := hb.len
  subst hdv
  by_cases hnm : name = nameN pre (es.length + 1)
  · have HNM := hid_into hnm
    rw [← hnm] at CN
    have hgr : ∀ w', Below w.heap.size w w' → Grows F w w' := fun w' hB => ⟨hB.os, hB.tape, hB.output, hB.size, fun k hk _ => hB.block k hk⟩
    have HS0 : Hid (∀ w', Below w.heap.size w w' → TakeInv w F lb sb pre nv es las ns sz dead zs (.int .i64 0) w') := fun w' hB =>
      ⟨[], 0, rfl, rfl, ⟨ev, by rw [List.append_nil]; exact (h.below hB).more fun k hk => Or.inl hk⟩, hgr w' hB⟩
    have HBS : Hid (∀ wr, Grows F w wr → Bs wr (.slice ao zs.length cap) zs) := fun wr hg => hb.keep fun k hk hlt => hg.block k hlt (hd k hk)
    have HTB : Hid (∀ wr, Grows F w wr → Fr.Tab wr) := fun wr hg i hi => by
      rw [World.cell?_of_block (hg.block 0 (by omega) (hG 0 (by omega)))]
      exact ht i hi
    clear h hb ht hp hnm hgr
    go_enter Tryz.func88, Tryz.ntmps88
    go_wp2_with (go_at_call 77; refine CN.mono ?_; rintro e w1 ⟨rfl, hB1⟩)
    go_loopw [6] (fun g wr => TakeInv w F lb sb pre nv es las ns sz dead zs g wr) (fun g _ => zs.length - (intOf g).toNat)
    case atStart => exact HS0.out _ hB1
    case round =>
      obtain ⟨es', m, rfl, htk, ⟨ev', hL⟩, hgrw⟩ := hrel
      have hB := HBS.out _ hgrw
      have hT := HTB.out _ hgrw
      have hmle := htk.le
      go_wp2_with (refine wpList_slice_bs _ rfl (.tmp 17) (.tmp 18) rfl _ zs rfl hB m rfl hmle ?_)
      intro u hu
      have C1 := Fr.takeEntry_any u (zs.drop m) wr hL hu ((show Fr.Byt zs from hy).drop m) (by simp; omega) hT
      have hmany := htk.many
      have e1 : (es ++ es').length = es.length + es'.length := by simp
      have e2 : (es'.map (·.2)).length = es'.length := by simp
      rw [e2] at hmany
      obtain ⟨D, hD⟩ : ∃ D, zs.drop m = D := ⟨_, rfl⟩
      have HD := hid_into hD
      rw [hD] at hu C1
      clear hD
      obtain ⟨au, cu, hue, hum⟩ := hu.len
      subst hue
      go_wp2_with fail
      refine C1.mono ?_
      rintro e w2 ⟨hTk, hB2⟩
      rcases hTk with ⟨p, hp1, v, rfl, hbv, hyv, hvk⟩ | ⟨hn1, v, x, er, rfl, hne⟩
      · obtain ⟨av, cv, hve, hvm⟩ := hbv.len
        subst hve
        have hts := takeR_some hp1
        rw [e1] at hp1
        have HTK : Hid (Tk es.length zs ((es' ++ [(Value.slice av p.length cv, p)]).map (·.2)) (m + decN D)) := by
          show Tk _ _ _ _
          rw [List.map_append, ← HD.out]
          exact htk.snoc (by rw [e2, HD.out]; exact hp1)
        have hdl := HTK.out.le
        generalize decN D = N at *
        obtain ⟨ae, ce, hee⟩ := hL.evform
        subst hee
        rw [e1] at hL
        have hA : Below w2.heap.size w2 (w2.alloc (.cells #[.slice av p.length cv] 38)) := (Below.refl _ _).alloc (Nat.le_refl _) _
        have hAw : Below wr.heap.size wr (w2.alloc (.cells #[.slice av p.length cv] 38)) := hB2.trans (hA.mono hB2.size)
        have hL3 := hL.below hAw
        have c2 : w2.cell? ⟨lb, 2, none⟩ = some (.slice ae (es.length + es'.length) ce) := (hL.below hB2).blk.cell 2
        have hcl : (w2.alloc (.cells #[.slice av p.length cv] 38)).cell? ⟨w2.heap.size, 0, none⟩ = some (.slice av p.length cv) := by
          rw [cell_of_row _ _ 0 _ _ _ (heap_alloc_new w2 _)]; rfl
        have hent : (w2.alloc (.cells #[.slice av p.length cv] 38)).ownsRow 0 38 1 (.slice ae (es.length + es'.length) ce) (es.length + es'.length) (enOf (es ++ es')) := by
          have := hL3.ent
          rw [e1] at this
          exact this
        have hn9 : es.length + es'.length ≤ 1000000000 := by omega
        have q1 : IntKind.i64.wrap ((m : Int) + (N : Int)) = ((m + N : Nat) : Int) := by rw [IntKind.wrap_i64]; omega
        have HL3 := hid_into hL3
        have HL := hid_into hL
        have HV := hid_into hvk
        have HBV := hid_into hbv
        clear hL hL3 hvk hbv hp1 htk C1 hu CN
        go_wp2_with (first
          | (refine Fr.wpList_made_row _ rfl (.tmp 31) rfl av p.length cv rfl ?_)
          | (at_builtin; refine wpList_append_en _ rfl (.tmp 30) (.tmp 32) rfl (.slice ae (es.length + es'.length) ce) (es.length + es'.length) (enOf (es ++ es')) (by rfl) hent w2.heap.size (.slice av p.length cv) rfl (by rfl) hcl hn9 ?_))
        intro ao3 cap3 w3 hrow hg hat
        have hlbW := HL3.out.blk.lt
        have hlbr := HL.out.blk.lt
        have hb3 := HL3.out.blk.keep (hg.block lb hlbW fun e => (HL3.out.sep.1 lb e.symm).2.1 rfl)
        have c3 : w3.cell? ⟨lb, 2, none⟩ = some (.slice ae (es.length + es'.length) ce) := hb3.cell 2
        have f3 : w3.frozen? ⟨lb, 2, none⟩ = false := hb3.frozen 2
        have hWs : (w2.alloc (.cells #[.slice av p.length cv] 38)).heap.size = w2.heap.size + 1 := World.size_alloc _ _
        have HL4 := hid_into (HL3.out.add (.slice av p.length cv) p (HBV.out.below hA (Nat.le_refl _)) hyv hts.2 (fun k hk => by
            have hk' := HV.out k hk
            have := hgrw.size
            refine ⟨Or.inr (by omega), by omega, fun e => ?_, fun e => ?_, by omega⟩
            · have := (World.ownsRow.lt HL.out.ent k e).2; omega
            · have := (World.ownsRow.lt HL.out.nam k e).2; omega) w3 (.slice ao3 (es.length + es'.length + 1) cap3) (by rw [e1]; exact hrow) hg (by rw [hWs]; exact hat) (Or.inr (by have := hgrw.size; have := hAw.size; omega)) (by rw [e1]; omega))
        have HG4 : Hid (Grows F w (w3.setCell ⟨lb, 2, none⟩ (.slice ao3 (es.length + es'.length + 1) cap3))) :=
          ⟨hg.os.trans (hAw.os.trans hgrw.os), hg.tape.trans (hAw.tape.trans hgrw.tape), hg.output.trans (hAw.output.trans hgrw.output), by rw [set_size]; have := hg.size; have := hAw.size; have := hgrw.size; omega, fun k hk hF => by
            have n1 : k ≠ lb := fun e => by
              subst e
              rcases HL.out.lF with h | h
              · exact hF h
              · omega
            rw [set_other _ _ _ _ _ n1, hg.block k (by have := hAw.size; have := hgrw.size; omega) (fun e => by
              rcases (HL3.out.sep.1 k e.symm).1 with h | h
              · exact hF h
              · omega), hAw.block k (by have := hgrw.size; omega)]
            exact hgrw.block k hk hF⟩
        clear hb3 hrow hg hat hent hcl hA hAw hWs hlbW hlbr hB hT e2
        go_wp2
        go_roundw
        case rel => exact ⟨es' ++ [(.slice av p.length cv, p)], m + N, rfl, HTK.out, ⟨_, by rw [← List.append_assoc]; exact HL4.out⟩, HG4.out⟩
        case measure => simp [intOf]; omega
      · rw [e1] at hn1
        obtain ⟨an, cn, hnn⟩ := hL.nvform
        subst hnn
        have hA : Below w2.heap.size w2 (w2.alloc (.cells #[encStr name] 9)) := (Below.refl _ _).alloc (Nat.le_refl _) _
        have hAw : Below wr.heap.size wr (w2.alloc (.cells #[encStr name] 9)) := hB2.trans (hA.mono hB2.size)
        have hL2 := hL.below hB2
        have HL := hid_into hL
        have HL2 := hid_into hL2
        have HL3 := hid_into (hL.below hAw)
        have c4 : w2.cell? ⟨lb, 4, none⟩ = some (.slice an ns.length cn) := hL2.blk.cell 4
        have hnam : Ot (w2.alloc (.cells #[encStr name] 9)) 0 (.slice an ns.length cn) ns := HL3.out.nam
        have hcl : (w2.alloc (.cells #[encStr name] 9)).cell? ⟨w2.heap.size, 0, none⟩ = some (encStr name) := by
          rw [cell_of_row _ _ 0 _ _ _ (heap_alloc_new w2 _)]; rfl
        have hn9 : ns.length ≤ 1000000000 := by omega
        have HTN : Hid (takeR (((es.length + es'.length : Nat) : Int) + 1) (zs.drop m) = none) := by
          show _ = _
          rw [HD.out]; exact hn1
        have HTK := hid_into htk
        have HPA : Hid (∀ (nv' : Value) (ev' : Value) (w' : World) (b : Bool), (b = decide (m = zs.length) ∧ (0 < m ∨ m = zs.length)) → Grows F w w' → Lg w' (Pl F w.heap.size) lb sb pre ev' nv' (es ++ es') las (ns ++ [name]) m dead → TakeP w F lb sb pre es las ns sz dead name zs (.returned (.tuple #[.int .i64 m, .bool b])) w') := by
          rintro nv' ev' w' b ⟨rfl, hb⟩ hg hl
          exact ⟨hg, Or.inr ⟨HNM.out, es', m, HTK.out, HTN.out, rfl, ev', nv', by rw [if_pos hb, if_pos hb]; exact hl⟩⟩
        have hner : (er != 0) = true := by simp [hne]
        clear hL hL2 hn1 htk C1 hu CN hB hT e2
        by_cases hm0 : 0 < m
        · have f0 : (0 : Int) < (m : Int) := by omega
          obtain ⟨b, hbq, hbb⟩ : ∃ b : Bool, ((m : Int) == (zs.length : Int)) = b ∧ (b = decide (m = zs.length) ∧ (0 < m ∨ m = zs.length)) := ⟨_, rfl, by
            by_cases h : m = zs.length
            · simp [h]
            · have : ¬ (m : Int) = (zs.length : Int) := by omega
              simp [h, this], Or.inl hm0⟩
          have HBB := hid_into hbb
          clear hbb
          go_wp2_with (first
            | (refine wpList_made_str _ rfl (.tmp 53) rfl name rfl ?_)
            | (at_builtin; refine wpList_append_nm _ rfl (.tmp 52) (.tmp 54) rfl 0 (.slice an ns.length cn) ns (by rfl) hnam w2.heap.size name (by rfl) hcl hn9 (Nat.zero_le _) ?_))
          intro ao3 cap3 w3 hrow hg hat
          have hlbW := HL3.out.blk.lt
          have hb3 := HL3.out.blk.keep (hg.block lb hlbW fun e => (HL3.out.sep.2 lb e.symm).2 rfl)
          have c3 : w3.cell? ⟨lb, 4, none⟩ = some (.slice an ns.length cn) := hb3.cell 4
          have f3 : w3.frozen? ⟨lb, 4, none⟩ = false := hb3.frozen 4
          have hWs : (w2.alloc (.cells #[encStr name] 9)).heap.size = w2.heap.size + 1 := World.size_alloc _ _
          have hL4 := HL3.out.addN name w3 (.slice ao3 (ns.length + 1) cap3) hrow hg (by rw [hWs]; exact hat) (Or.inr (by have := hgrw.size; have := hAw.size; omega)) (by omega)
          have c5 : (w3.setCell ⟨lb, 4, none⟩ (.slice ao3 (ns.length + 1) cap3)).cell? ⟨lb, 5, none⟩ = some (.int .i64 (sz : Int)) := hL4.blk.cell 5
          have f5 : (w3.setCell ⟨lb, 4, none⟩ (.slice ao3 (ns.length + 1) cap3)).frozen? ⟨lb, 5, none⟩ = false := hL4.blk.frozen 5
          have HL5 := hid_into (hL4.setSz m (by omega))
          have HG5 : Hid (Grows F w ((w3.setCell ⟨lb, 4, none⟩ (.slice ao3 (ns.length + 1) cap3)).setCell ⟨lb, 5, none⟩ (.int .i64 (m : Int)))) :=
            ⟨hg.os.trans (hAw.os.trans hgrw.os), hg.tape.trans (hAw.tape.trans hgrw.tape), hg.output.trans (hAw.output.trans hgrw.output), by rw [set_size, set_size]; have := hg.size; have := hAw.size; have := hgrw.size; omega, fun k hk hF => by
            have n1 : k ≠ lb := fun e => by
              subst e
              rcases HL.out.lF with h | h
              · exact hF h
              · omega
            rw [set_other _ _ _ _ _ n1, set_other _ _ _ _ _ n1, hg.block k (by have := hAw.size; have := hgrw.size; omega) (fun e => by
              rcases (HL3.out.sep.2 k e.symm).1 with h | h
              · exact hF h
              · omega), hAw.block k (by have := hgrw.size; omega)]
            exact hgrw.block k hk hF⟩
          have HPP := hid_into (HPA.out _ _ _ _ HBB.out HG5.out HL5.out)
          clear hb3 hrow hg hat hnam hcl hA hAw hWs hlbW hL4 HPA HL5 HG5
          go_wp2
          go_ret2
          exact HPP.out
        · have f0 : ¬ (0 : Int) < (m : Int) := by omega
          by_cases hml : m = zs.length
          · have hbq : ((m : Int) == (zs.length : Int)) = true := by simp [hml]
            have HBB : Hid (true = decide (m = zs.length) ∧ (0 < m ∨ m = zs.length)) := ⟨by simp [hml], Or.inr hml⟩
            clear hml
            go_wp2_with (first
              | (refine wpList_made_str _ rfl (.tmp 53) rfl name rfl ?_)
              | (at_builtin; refine wpList_append_nm _ rfl (.tmp 52) (.tmp 54) rfl 0 (.slice an ns.length cn) ns (by rfl) hnam w2.heap.size name (by rfl) hcl hn9 (Nat.zero_le _) ?_))
            intro ao3 cap3 w3 hrow hg hat
            have hlbW := HL3.out.blk.lt
            have hb3 := HL3.out.blk.keep (hg.block lb hlbW fun e => (HL3.out.sep.2 lb e.symm).2 rfl)
            have c3 : w3.cell? ⟨lb, 4, none⟩ = some (.slice an ns.length cn) := hb3.cell 4
            have f3 : w3.frozen? ⟨lb, 4, none⟩ = false := hb3.frozen 4
            have hWs : (w2.alloc (.cells #[encStr name] 9)).heap.size = w2.heap.size + 1 := World.size_alloc _ _
            have hL4 := HL3.out.addN name w3 (.slice ao3 (ns.length + 1) cap3) hrow hg (by rw [hWs]; exact hat) (Or.inr (by have := hgrw.size; have := hAw.size; omega)) (by omega)
            have c5 : (w3.setCell ⟨lb, 4, none⟩ (.slice ao3 (ns.length + 1) cap3)).cell? ⟨lb, 5, none⟩ = some (.int .i64 (sz : Int)) := hL4.blk.cell 5
            have f5 : (w3.setCell ⟨lb, 4, none⟩ (.slice ao3 (ns.length + 1) cap3)).frozen? ⟨lb, 5, none⟩ = false := hL4.blk.frozen 5
            have HL5 := hid_into (hL4.setSz m (by omega))
            have HG5 : Hid (Grows F w ((w3.setCell ⟨lb, 4, none⟩ (.slice ao3 (ns.length + 1) cap3)).setCell ⟨lb, 5, none⟩ (.int .i64 (m : Int)))) :=
              ⟨hg.os.trans (hAw.os.trans hgrw.os), hg.tape.trans (hAw.tape.trans hgrw.tape), hg.output.trans (hAw.output.trans hgrw.output), by rw [set_size, set_size]; have := hg.size; have := hAw.size; have := hgrw.size; omega, fun k hk hF => by
              have n1 : k ≠ lb := fun e => by
                subst e
                rcases HL.out.lF with h | h
                · exact hF h
                · omega
              rw [set_other _ _ _ _ _ n1, set_other _ _ _ _ _ n1, hg.block k (by have := hAw.size; have := hgrw.size; omega) (fun e => by
                rcases (HL3.out.sep.2 k e.symm).1 with h | h
                · exact hF h
                · omega), hAw.block k (by have := hgrw.size; omega)]
              exact hgrw.block k hk hF⟩
            have HPP := hid_into (HPA.out _ _ _ _ HBB.out HG5.out HL5.out)
            clear hb3 hrow hg hat hnam hcl hA hAw hWs hlbW hL4 HPA HL5 HG5
            go_wp2
            go_ret2
            exact HPP.out
          · have hbq : ((m : Int) == (zs.length : Int)) = false := by
              have : ¬ (m : Int) = (zs.length : Int) := by omega
              simp [this]
            have HPP : Hid (TakeP w F lb sb pre es las ns sz dead name zs (.returned (.tuple #[.int .i64 m, .bool false])) w2) := by
              have hnn : ¬ (0 < m ∨ m = zs.length) := fun h => h.elim hm0 hml
              refine ⟨?_, Or.inr ⟨HNM.out, es', m, HTK.out, HTN.out, by simp [hml], _, _, by rw [if_neg hnn, if_neg hnn]; exact HL2.out⟩⟩
              exact ⟨hB2.os.trans hgrw.os, hB2.tape.trans hgrw.tape, hB2.output.trans hgrw.output, Nat.le_trans hgrw.size hB2.size, fun k hk hF => (hB2.block k (by have := hgrw.size; omega)).trans (hgrw.block k hk hF)⟩
            clear hml HPA HL3 HL HL2 hnam hcl
            go_wp2_with fail
            go_ret2
            exact HPP.out
  · have HP : Hid (∀ w', Below w.heap.size w w' → TakeP w F lb sb pre es las ns sz dead name zs (.returned (.tuple #[.int .i64 0, .bool false])) w') := fun w' hB =>
      ⟨⟨hB.os, hB.tape, hB.output, hB.size, fun k hk _ => hB.block k hk⟩, Or.inl ⟨hnm, rfl, ev, nv, (h.below hB).more fun k hk => Or.inl hk⟩⟩
    generalize nameN pre (es.length + 1) = nn at *
    have hne : (name == nn) = false := by simp [hnm]
    clear h hb ht hp
    go_enter Tryz.func88, Tryz.ntmps88
    go_wp2_with (go_at_call 77; refine CN.mono ?_; rintro e w1 ⟨rfl, hB1⟩)
    go_ret2
    exact HP.out _ hB1
end Go.Proofs.YtnkjhooeklodcaaGreatDoor
end

section
/-
  The document's read: a segment's entries, from a number on.
-/
namespace Go.Proofs.YtnkjhooeklodcaaGreatDoor
open Go.RowKit Go.Maps Go.Sort
open Fr (Rw2 Osl bytesOf2 Sc takeR decN decE decP numR)

def ReadP (w : World) (n : Nat) (zs : List Int) (e : Ending) (w' : World) : Prop :=
  ∃ ao cap, ∃ (rs : List Rw2) (m : Nat) (b : Bool), e = .returned (.tuple #[.slice ao rs.length cap, .int .i64 (m : Int), .bool b]) ∧ Osl w' w.heap.size (.slice ao rs.length cap) rs ∧
    (1 ≤ n → Tk (n - 1) zs (bytesOf2 rs) m ∧ takeR ((n : Int) + rs.length) (zs.drop m) = none ∧ b = decide (m = zs.length)) ∧ Below w.heap.size w w'
def RdInv (w1 : World) (n : Nat) (zs : List Int) (xs : List (List Int)) (M : Nat) (o t i : Value) (wr : World) : Prop :=
  ∃ (rs : List Rw2) (mk : Nat), t = .int .i64 (mk : Int) ∧ i = .int .i64 (rs.length : Int) ∧ (∃ ao cap, o = .slice ao rs.length cap) ∧ Osl wr w1.heap.size o rs ∧ Sc (zs.drop mk) (xs.drop rs.length) (M - mk) ∧ mk ≤ M ∧ rs.length ≤ xs.length ∧ (1 ≤ n → Tk (n - 1) zs (bytesOf2 rs) mk) ∧ Below w1.heap.size w1 wr
theorem Sc_step {zs : List Int} {xs : List (List Int)} {M mk k : Nat} {p : List Int} (hsc : Sc (zs.drop mk) (xs.drop k) (M - mk)) (hg : xs[k]? = some p) (hmk : mk ≤ M) :
    decE (zs.drop mk) = 0 ∧ decP (zs.drop mk) = p ∧ decN (zs.drop mk) = p.length + 12 ∧ mk + (p.length + 12) ≤ M ∧ Sc (zs.drop (mk + (p.length + 12))) (xs.drop (k + 1)) (M - (mk + (p.length + 12))) := by
  have hd : xs.drop k = p :: xs.drop (k + 1) := by
    obtain ⟨hi, e⟩ := List.getElem?_eq_some_iff.1 hg
    rw [List.drop_eq_getElem_cons hi, e]
  rw [hd] at hsc
  obtain ⟨h1, h2, h3, h4⟩ := hsc
  have hN : decN (zs.drop mk) = p.length + 12 := by
    have e1 := Fr.decN_good h1
    have e2 := Fr.decP_good h1
    have e3 := Fr.decN_le (zs.drop mk)
    rw [h2] at e2
    have e4 := congrArg List.length e2
    rw [List.length_take, List.length_drop] at e4
    omega
  rw [hN] at h3 h4
  refine ⟨h1, h2, hN, by omega, ?_⟩
  rw [List.drop_drop, show M - mk - (p.length + 12) = M - (mk + (p.length + 12)) by omega] at h4
  exact h4
theorem numR_err : ∀ (f k u : Nat) (zs : List Int), (numR f k u zs).2.2 ≠ 0 → (numR f k u zs).1 = 0
  | 0, _, _, _, _ => rfl
  | _ + 1, _, _, [], _ => rfl
  | f + 1, k, u, z :: r, h => by
    by_cases h1 : 128 ≤ z
    · rw [Fr.numR_more h1] at h ⊢
      exact numR_err f _ _ r h
    · cases hb : Fr.badB k z with
      | true => rw [Fr.numR_bad h1 hb]
      | false => rw [Fr.numR_good h1 hb] at h; exact absurd rfl h
set_option maxHeartbeats 4000000 in
set_option maxRecDepth 100000 in
theorem read_any (sv : Value) (zs : List Int) (n : Nat) (w : World) (hb : Bs w sv zs) (hy : Byt zs) (hz : zs.length ≤ 1000000000) (hn : n < 100000000) :
    Calls Tryz.prog 63 #[sv, .int .i64 (n : Int)] w (ReadP w n zs) := by
  have CS := Fr.rscan_any sv zs w hb hy (by omega)
  obtain ⟨ax, cx, hsv, hmx⟩ := hb.len
  subst hsv
  clear hb
  go_enter Tryz.func63, Tryz.ntmps63
  go_wp2_with fail
  refine CS.mono ?_
  rintro e w1 ⟨al, cl, L, M, rfl, hL, hSc, hEnd, hB1⟩
  have hMle := hSc.le
  have hmany := hSc.many
  rw [Fr.bytesOf2_len] at hmany
  have hLr := hL.rs (by omega)
  have H0 : Hid (Sc zs (bytesOf2 L) M) := hSc
  have HE := hid_into hEnd
  have HB1 := hid_into hB1
  have HL := hid_into hLr
  have HO := hid_into hL
  clear CS hL hSc hEnd hB1 hLr
  go_wp2_with fail
  go_loopw [9, 10, 11] (fun o t i wr => Hid (RdInv w1 n zs (bytesOf2 L) M o t i wr)) (fun _ _ i _ => L.length - (intOf i).toNat)
  case atStart => exact ⟨[], 0, rfl, rfl, ⟨none, 0, rfl⟩, Fr.Osl.nil _ _, by simpa using H0.out, by omega, by simp, fun _ => rfl, Below.refl _ _⟩
  case round =>
    obtain ⟨rs, mk, rfl, rfl, ⟨ao, cap, rfl⟩, hos, hsc, hmk, hlx, htk, hB⟩ := hrel.out
    clear hrel
    rw [Fr.bytesOf2_len] at hlx
    by_cases hlt : rs.length < L.length
    · obtain ⟨b, off, ap, cp, p, ha, hg, hcell, hbp, hyp, hlp⟩ := (HL.out.below hB).get hlt
      subst ha
      have hgx : (bytesOf2 L)[rs.length]? = some p := by unfold Fr.bytesOf2; rw [List.getElem?_map, hg]; rfl
      obtain ⟨s1, s2, s3, s4, s5⟩ := Sc_step hsc hgx hmk
      have hTk : Hid (takeR ((n : Int) + rs.length) (zs.drop mk) = if (numR 10 0 0 p).1 = (n : Int) + rs.length then some (numR 10 0 0 p).2.1 else none) := by
        show _ = _
        unfold Fr.takeR
        rw [s2]
        by_cases hq : (numR 10 0 0 p).1 = (n : Int) + rs.length
        · rw [if_pos ⟨s1, hq⟩, if_pos hq]
        · rw [if_neg fun h => hq h.2, if_neg hq]
      have herr := numR_err 10 0 0 p
      have hrf : Fr.Rf (wr.alloc (.cells #[.slice ap p.length cp, .int .i64 0] 151)) wr.heap.size (.slice ap p.length cp) p 0 := by
        refine ⟨heap_alloc_new wr _, hbp.below ((Below.refl _ _).alloc (Nat.le_refl _) _) (Nat.le_refl _), fun e => ?_⟩
        have h1 := Fr.Ow.lt (HO.out.each _ (List.mem_of_getElem? hg)).1 _ e
        have h2 := hB.size
        omega
      have CNm := Fr.fnum_any wr.heap.size (.slice ap p.length cp) p _ hrf hyp
      have hW1 : Below wr.heap.size wr (wr.alloc (.cells #[.slice ap p.length cp, .int .i64 0] 151)) := (Below.refl _ _).alloc (Nat.le_refl _) _
      have f1 : (rs.length : Int) < (L.length : Int) := by omega
      have f2 : (0 : Int) ≤ (rs.length : Int) := by omega
      have q1 : IntKind.i64.wrap ((n : Int) + (rs.length : Int)) = (n : Int) + (rs.length : Int) := by rw [IntKind.wrap_i64]; omega
      have HTD : Hid (zs.length ≠ mk) := by show _ ≠ _; omega
      have hn31 : (mk + p.length + 12 : Nat) ≤ 1000000000 := by omega
      have HZL : Hid ((numR 10 0 0 p).2.1.length ≤ 65536 ∧ Byt (numR 10 0 0 p).2.1) := by
        obtain ⟨j, h1, h2⟩ := Fr.numR_suf 10 0 0 p
        have hpl : p.length ≤ 65536 := by
          have e1 := Fr.decN_good s1
          have e2 := Fr.heldN_le (Fr.decE_inv s1).1
          omega
        show _ ∧ _
        rw [h2]
        exact ⟨by rw [List.length_drop]; omega, hyp.drop j⟩
      clear hrf hsc hgx s1 s2
      generalize numR 10 0 0 p = res at *
      obtain ⟨nu, zl, er⟩ := res
      simp only at hTk herr CNm HZL
      have HRT : Hid (∀ W, Below wr.heap.size wr W → ((nu ≠ (n : Int) + rs.length) ∨ er ≠ 0) → ReadP w n zs (.returned (.tuple #[.slice ao rs.length cap, .int .i64 (mk : Int), .bool false])) W) := by
        intro W hW hc
        have hb1 := HB1.out
        refine ⟨ao, cap, rs, mk, false, rfl, ?_, fun h1 => ⟨htk h1, ?_, ?_⟩, ?_⟩
        · have := hos.below hW
          exact ⟨⟨this.row.1, this.row.2.imp id fun ⟨g, c, cur, e, hb, r⟩ => ⟨g, c, cur, e, Nat.le_trans hb1.size hb, r⟩⟩, fun r hr => ⟨(this.each r hr).1.mono hb1.size, (this.each r hr).2⟩⟩
        · rw [hTk.out, if_neg]
          intro h
          rcases hc with hc | hc
          · exact hc h
          · have := herr hc
            omega
        · have := HTD.out
          symm
          exact decide_eq_false fun e => this e.symm
        · have h2 := hB.trans (hW.mono hB.size)
          exact hb1.trans (h2.mono hb1.size)
      have hcl2 := World.block_lt_of_cell? wr _ hcell
      simp only at hcl2
      by_cases her : er = 0
      · by_cases hnu : nu = (n : Int) + rs.length
        · subst her
          have g1 : (nu == (n : Int) + (rs.length : Int)) = true := by rw [hnu]; simp
          have HN : Hid (1 ≤ n → Tk (n - 1) zs (bytesOf2 rs ++ [zl]) (mk + (p.length + 12))) := by
            intro h1
            have hb : (bytesOf2 rs).length = rs.length := Fr.bytesOf2_len rs
            have := Tk.snoc (htk h1) (p := zl) (by
              rw [hb]
              have e1 : (((n - 1 + rs.length : Nat) : Int) + 1) = (n : Int) + rs.length := by omega
              rw [e1, hTk.out, if_pos hnu])
            rw [s3] at this
            exact this
          have hzl : zl.length ≤ 65536 ∧ Byt zl := ⟨HZL.out.1, HZL.out.2⟩
          have HRS := hid_into hos
          have H5 := hid_into s5
          clear HRT hTk herr htk s3 s5 hos
          go_wp2_with fail
          refine CNm.mono ?_
          rintro e w2 ⟨rfl, v2, hrf2, hst, hv2⟩
          have d0 := hrf2.cell0
          have d1 := hrf2.cell1
          have hB2 : Below wr.heap.size wr w2 := hW1.trans (hst.below (Nat.le_refl _) (by simp))
          have hbv := hrf2.2.1
          obtain ⟨av, cv, hv, _⟩ := hbv.len
          subst hv
          have hA3 : Below w2.heap.size w2 (w2.alloc (.cells #[] 5)) := (Below.refl _ _).alloc (Nat.le_refl _) _
          have ho3 : Ow (w2.alloc (.cells #[] 5)) w2.heap.size (.slice (some ⟨w2.heap.size, 0, none⟩) 0 0) [] := Ow_of_block (heap_alloc_new w2 _) (by simp) (Nat.le_refl _)
          have hbs3 : Bs (w2.alloc (.cells #[] 5)) (.slice av zl.length cv) zl := hbv.below hA3 (Nat.le_refl _)
          have hlt2 := hrf2.lt
          clear hst hv2 hrf2 CNm hbv
          go_wp2_with (at_builtin; refine wpList_append_bs _ rfl (.tmp 48) (.tmp 52) rfl w2.heap.size _ [] rfl ho3 (.slice av zl.length cv) zl (by rfl) hbs3 (by simp; omega) (by simp) ?_)
          intro a5 p5 w5 ho5 hg5 hat5
          have ho5 : Ow w5 w2.heap.size (.slice a5 zl.length p5) zl := by simpa using ho5
          try simp only [List.length_nil, Nat.zero_add]
          have hB5 : Below w2.heap.size w2 w5 := hA3.trans (Fr.grown_below hg5 hA3.size (Fr.Ow.from ho3))
          have hB5' : Below wr.heap.size wr w5 := hB2.trans (hB5.mono hB2.size)
          have hA6 : Below wr.heap.size wr (w5.alloc (.cells #[.slice a5 zl.length p5] 38)) := hB5'.alloc hB5'.size _
          have hos6 := HRS.out.below hA6
          have ho6 : Fr.Ow (w5.alloc (.cells #[.slice a5 zl.length p5] 38)) w1.heap.size (.slice a5 zl.length p5) zl := (Fr.Ow.mono ho5 (Nat.le_trans hB.size hB2.size)).grew ((Below.refl w5.heap.size w5).alloc (Nat.le_refl _) _) (Nat.le_refl _)
          have hsep : ∀ k, (Value.slice a5 zl.length p5).ownBlock = some k → (Value.slice ao rs.length cap).ownBlock ≠ some k := fun k hk e => by
            have h1 := Fr.Ow.from ho5 k hk
            have h2 := HRS.out.lt k e
            have h3 := hB2.size
            omega
          have hcl6 : (w5.alloc (.cells #[.slice a5 zl.length p5] 38)).cell? ⟨w5.heap.size, 0, none⟩ = some (.slice a5 zl.length p5) := by
            rw [cell_of_row _ _ 0 _ _ _ (heap_alloc_new w5 _)]; rfl
          have hws : w1.heap.size ≤ (w5.alloc (.cells #[.slice a5 zl.length p5] 38)).heap.size := by have := hB.size; have := hA6.size; omega
          have hzl2 : zl.length ≤ 140737488355328 := by omega
          have hrl : rs.length ≤ 1000000000 := by omega
          clear hg5 hat5 ho3 hbs3 hA3 hB5
          go_wp2_with (first | (refine Fr.wpList_made_row _ rfl (.tmp 53) rfl a5 zl.length p5 rfl ?_) | (at_builtin; refine Fr.wpList_append_row _ rfl (.tmp 47) (.tmp 54) rfl w1.heap.size (.slice ao rs.length cap) rs (by rfl) hos6 w5.heap.size a5 p5 zl (by rfl) hcl6 ho6 hzl.2 hzl2 hsep hrl hws ?_))
          intro a7 p7 w7 hos7 hg7
          have hB7 : Below w1.heap.size w1 w7 := (hB.trans (hA6.mono hB.size)).trans (Fr.grown_below hg7 hws hos6.from)
          have hc7 : w7.cell? ⟨b, off + rs.length, none⟩ = some (.slice ap p.length cp) := by
            obtain ⟨b', off', ap', cp', p', ha', hg', hcell', _⟩ := (HL.out.below hB7).get hlt
            simp only [Option.some.injEq, Addr.mk.injEq, and_true] at ha'
            obtain ⟨rfl, rfl⟩ := ha'
            rw [hg] at hg'
            simp only [Option.some.injEq, Prod.mk.injEq] at hg'
            rw [hcell', hg'.1]
          have q2 : IntKind.i64.wrap ((mk : Int) + (p.length : Int)) = (mk : Int) + (p.length : Int) := by rw [IntKind.wrap_i64]; omega
          have q3 : IntKind.i64.wrap ((mk : Int) + (p.length : Int) + 12) = ((mk + (p.length + 12) : Nat) : Int) := by rw [IntKind.wrap_i64]; omega
          have q4 : IntKind.i64.wrap ((rs.length : Int) + 1) = ((rs.length + 1 : Nat) : Int) := by rw [IntKind.wrap_i64]; omega
          have HI : Hid (RdInv w1 n zs (bytesOf2 L) M (.slice a7 (rs.length + 1) p7) (.int .i64 ((mk + (p.length + 12) : Nat) : Int)) (.int .i64 ((rs.length + 1 : Nat) : Int)) w7) := by
            have hl1 : (rs ++ [((Value.slice a5 zl.length p5, zl) : Rw2)]).length = rs.length + 1 := by simp
            refine ⟨rs ++ [(.slice a5 zl.length p5, zl)], mk + (p.length + 12), rfl, by rw [hl1], ⟨a7, p7, by rw [hl1]⟩, hos7, by rw [hl1]; exact H5.out, s4, by rw [hl1, Fr.bytesOf2_len]; omega, ?_, hB7⟩
            rw [Fr.bytesOf2_append]
            exact HN.out
          clear hos7 hg7 hos6 ho6 hsep hcl6 hws HN H5 HRS HL HO hA6 ho5 hB5' hg
          generalize hkk : rs.length = k at *
          have HKK := hid_into hkk
          clear hkk
          go_wp2_with fail
          go_roundw
          case rel => exact HI
          case measure =>
            have := HKK.out
            simp [intOf]
            omega
        · have g1 : ¬ nu = (n : Int) + (rs.length : Int) := hnu
          have HR2 : Hid (∀ W, Below wr.heap.size wr W → ReadP w n zs (.returned (.tuple #[.slice ao rs.length cap, .int .i64 (mk : Int), .bool false])) W) := fun W hW => HRT.out W hW (Or.inl hnu)
          subst her
          clear HRT hTk herr htk hos HL HO s5 s3 hnu
          generalize rs.length = k at *
          go_wp2_with fail
          refine CNm.mono ?_
          rintro e w2 ⟨rfl, v2, hrf2, hst, hv2⟩
          have d1 := hrf2.cell1
          have hB2 : Below wr.heap.size wr w2 := hW1.trans (hst.below (Nat.le_refl _) (by simp))
          clear hst hv2 hrf2 CNm
          go_wp2_with fail
          go_ret3
          exact HR2.out _ hB2
      · have HR2 : Hid (∀ W, Below wr.heap.size wr W → ReadP w n zs (.returned (.tuple #[.slice ao rs.length cap, .int .i64 (mk : Int), .bool false])) W) := fun W hW => HRT.out W hW (Or.inr her)
        have her' : (er == 0) = false := beq_eq_false_iff_ne.2 her
        clear HRT hTk herr htk hos HL HO s5 s3
        generalize rs.length = k at *
        go_wp2_with fail
        refine CNm.mono ?_
        rintro e w2 ⟨rfl, v2, hrf2, hst, hv2⟩
        have d1 := hrf2.cell1
        have hB2 : Below wr.heap.size wr w2 := hW1.trans (hst.below (Nat.le_refl _) (by simp))
        clear hst hv2 hrf2 CNm
        go_wp2_with fail
        go_ret3
        exact HR2.out _ hB2
    · have hkL : rs.length = L.length := by omega
      have hM : mk = M := by
        rw [hkL, ← Fr.bytesOf2_len L, List.drop_length] at hsc
        have : M - mk = 0 := hsc
        omega
      have f1 : ¬ (rs.length : Int) < (L.length : Int) := by omega
      have HR2 : Hid (ReadP w n zs (.returned (.tuple #[.slice ao rs.length cap, .int .i64 (mk : Int), .bool ((mk : Int) == (zs.length : Int))])) wr) := by
        have hb1 := HB1.out
        refine ⟨ao, cap, rs, mk, _, rfl, ?_, fun h1 => ⟨htk h1, ?_, ?_⟩, hb1.trans (hB.mono hb1.size)⟩
        · exact ⟨⟨hos.row.1, hos.row.2.imp id fun ⟨g, c, cur, e, hb, r⟩ => ⟨g, c, cur, e, Nat.le_trans hb1.size hb, r⟩⟩, fun r hr => ⟨(hos.each r hr).1.mono hb1.size, (hos.each r hr).2⟩⟩
        · unfold Fr.takeR
          rw [hM]
          exact if_neg fun h => HE.out h.1
        · by_cases e : mk = zs.length
          · rw [decide_eq_true e, e]; simp
          · rw [decide_eq_false e]; exact beq_eq_false_iff_ne.2 (by omega)
      clear hos hsc htk HL HO hM hkL
      go_wp2_with fail
      go_ret3
      exact HR2.out
end Go.Proofs.YtnkjhooeklodcaaGreatDoor
end

section
/-
  gate: what the log asks of the disk goes through it; whatever the method.
-/
namespace Go.Proofs.YtnkjhooeklodcaaGreatDoor
open Go.RowKit Go.Maps Go.Sort

variable {F : Nat → Prop} {lb sb : Nat} {pre : List UInt8} {ev nv : Value} {es : List En} {las : Nat} {ns : List (List UInt8)} {sz : Nat} {dead : Bool}
def GtP (lb : Nat) (R : Int → World → Prop) (e : Ending) (w' : World) : Prop :=
  ∃ er w1, e = .returned (.int .i64 er) ∧ R er w1 ∧ ((er = 0 ∨ er = 6) ∧ w' = w1 ∨ ¬ (er = 0 ∨ er = 6) ∧ w' = w1.setCell ⟨lb, 6, none⟩ (.bool true))
set_option maxHeartbeats 2000000 in
set_option maxRecDepth 100000 in
theorem lgate_any (g : Nat) (caps : Array Value) (eg : ∀ args w, (callFunc g args).run Tryz.prog w = .ok (.enter g args) w) (name : List UInt8) (w : World) (h : Lg w F lb sb pre ev nv es las ns sz dead) (R : Int → World → Prop)
    (C : Calls Tryz.prog g (#[.pointer (some ⟨sb, 0, none⟩), encStr name] ++ caps) w fun e w' => ∃ er, e = .returned (.int .i64 er) ∧ R er w' ∧ w'.heap[lb]? = w.heap[lb]?) :
    Calls Tryz.prog 55 #[.pointer (some ⟨lb, 0, none⟩), .func (.func g) #[] caps, encStr name] w (GtP lb R) := by
  have c0 : w.cell? ⟨lb, 0, none⟩ = some (.pointer (some ⟨sb, 0, none⟩)) := h.blk.cell 0
  have hb := h.blk
  clear h
  go_enter Tryz.func55, Tryz.ntmps55
  go_wp2_with fail
  refine C.mono ?_
  rintro e w1 ⟨er, rfl, hR, hlb⟩
  have hb1 := hb.keep hlb
  have f6 : w1.frozen? ⟨lb, 6, none⟩ = false := hb1.frozen 6
  have c6 : w1.cell? ⟨lb, 6, none⟩ = some (.bool dead) := hb1.cell 6
  clear hb hb1 C c0 hlb
  by_cases h0 : er = 0
  · subst h0
    have HP : Hid (GtP lb R (.returned (.int .i64 0)) w1) := ⟨0, w1, rfl, hR, Or.inl ⟨Or.inl rfl, rfl⟩⟩
    clear hR
    go_wp2_with fail
    go_ret
    exact HP.out
  · by_cases h6 : er = 6
    · subst h6
      have HP : Hid (GtP lb R (.returned (.int .i64 6)) w1) := ⟨6, w1, rfl, hR, Or.inl ⟨Or.inr rfl, rfl⟩⟩
      clear hR
      go_wp2_with fail
      go_ret
      exact HP.out
    · have HP : Hid (GtP lb R (.returned (.int .i64 er)) (w1.setCell ⟨lb, 6, none⟩ (.bool true))) := ⟨er, w1, rfl, hR, Or.inr ⟨fun h => h.elim h0 h6, rfl⟩⟩
      have n0 : (er != 0) = true := by simp [h0]
      have n6 : (er != 6) = true := by simp [h6]
      clear hR
      go_wp2_with fail
      go_ret
      exact HP.out
end Go.Proofs.YtnkjhooeklodcaaGreatDoor
end
