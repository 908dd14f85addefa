/-
  Joined from: SegXd, SegXs, SegXa.
-/
import Derived.Test.YtnkjhooeklodcaaGreatDoorM34
section
/-
  The document's log over its disk (Xd); Names, size, Sync.
-/
namespace Go.Proofs.YtnkjhooeklodcaaGreatDoor
open Go.RowKit Go.Maps Go.Sort

variable {w w' : World} {D F : Nat → Prop} {lb wb : Nat} {u : Ud} {pre : List UInt8} {ev sv : Value} {es : List En} {ss : List Nat} {sure : Nat} {dead : Bool}
/-- A segment's number, in its cell. -/
theorem Xg.segCell (h : Xg w F lb wb pre ev sv es ss sure dead) {g n cap : Nat} (hv : sv = .slice (some ⟨g, 0, none⟩) n cap) {i : Nat} {x : Nat} (hx : ss[i]? = some x) : w.cell? ⟨g, i, none⟩ = some (.int .i64 (x : Int)) := by
  subst hv
  have := World.ownsRow.cells h.seg (g := g) rfl i (.int .i64 (x : Int)) (by unfold numsOf; rw [List.getElem?_map, hx]; rfl)
  simpa [Addr.add_lit] using this
theorem Xg.segSome (h : Xg w F lb wb pre ev sv es ss sure dead) (hs : ss ≠ []) : ∃ g cap, sv = .slice (some ⟨g, 0, none⟩) ss.length cap := by
  rcases h.seg.2 with ⟨_, h2⟩ | ⟨g, cap, cur, rfl, _⟩
  · exact absurd (List.eq_nil_of_length_eq_zero h2) hs
  · exact ⟨g, cap, rfl⟩
/-- The names of segments. -/
def namesN (pre : List UInt8) (ss : List Nat) : List (List UInt8) := ss.map (nameN pre)
set_option maxHeartbeats 4000000 in
set_option maxRecDepth 100000 in
theorem XNames_any (w : World) (h : Xg w F lb wb pre ev sv es ss sure dead) :
    Calls Tryz.prog 40 #[.pointer (some ⟨lb, 0, none⟩)] w fun e w' => ∃ v, e = .returned v ∧ Ot w' w.heap.size v (namesN pre ss) ∧ Below w.heap.size w w' := by
  have hfew := h.few
  go_enter Tryz.func40, Tryz.ntmps40
  go_wp2_with fail
  go_loopw [3, 4] (fun o i wr => ∃ (k : Nat) (ao : Option Addr) (cap : Nat), k ≤ ss.length ∧ i = .int .i64 (k : Int) ∧ o = .slice ao k cap ∧ Ot wr w.heap.size o ((namesN pre ss).take k) ∧ Below w.heap.size w wr) (fun _ i _ => ss.length - (intOf i).toNat)
  case atStart => exact ⟨0, none, 0, by omega, rfl, rfl, ⟨by simp, Or.inl ⟨rfl, rfl⟩⟩, Below.refl _ _⟩
  case round =>
    obtain ⟨k, ao, cap, hk, rfl, rfl, hot, hB⟩ := hrel
    have hr := h.below hB
    have c1 : wr.cell? ⟨lb, 1, none⟩ = some (encStr pre) := hr.blk.cell 1
    have c3 : wr.cell? ⟨lb, 3, none⟩ = some sv := hr.blk.cell 3
    by_cases hlt : k < ss.length
    · obtain ⟨x, hx⟩ : ∃ x, ss[k]? = some x := ⟨_, List.getElem?_eq_getElem hlt⟩
      obtain ⟨g, cg, rfl⟩ := h.segSome (fun e => by rw [e] at hlt; simp at hlt)
      have cx : wr.cell? ⟨g, k, none⟩ = some (.int .i64 (x : Int)) := hr.segCell rfl hx
      have hx8 := hfew.2.2.2.2 x (List.mem_of_getElem? hx)
      have CN := fun w1 => name_ref pre x hx8 (by omega) w1
      have HT : Hid ((namesN pre ss).take (k + 1) = (namesN pre ss).take k ++ [nameN pre x]) := by
        show _ = _
        have e : (namesN pre ss)[k]? = some (nameN pre x) := by simp [namesN, hx]
        obtain ⟨hi, e2⟩ := List.getElem?_eq_some_iff.1 e
        rw [List.take_succ_eq_append_getElem hi, e2]
      have f1 : (0 : Int) ≤ (k : Int) := by omega
      have f2 : (k : Int) < (ss.length : Int) := by omega
      have hl1 := World.block_lt_of_cell? wr _ c1
      have hl2 := World.block_lt_of_cell? wr _ cx
      simp only at hl1 hl2
      have q1 : IntKind.i64.wrap ((k : Int) + 1) = ((k + 1 : Nat) : Int) := by rw [IntKind.wrap_i64]; omega
      generalize nameN pre x = nm at *
      have c1w : w.cell? ⟨lb, 1, none⟩ = some (encStr pre) := h.blk.cell 1
      have c3w : w.cell? ⟨lb, 3, none⟩ = some (.slice (some ⟨g, 0, none⟩) ss.length cg) := h.blk.cell 3
      have cxw : w.cell? ⟨g, k, none⟩ = some (.int .i64 (x : Int)) := h.segCell rfl hx
      have hw1 := World.block_lt_of_cell? w _ c1w
      have hw2 := World.block_lt_of_cell? w _ cxw
      simp only at hw1 hw2
      have hfrom : ∀ q, (Value.slice ao k cap).ownBlock = some q → w.heap.size ≤ q := fun q hq => (World.ownsRow.lt hot q hq).1
      have HF := hid_into hfrom
      have HW : Hid (w.cell? ⟨lb, 1, none⟩ = some (encStr pre) ∧ w.cell? ⟨lb, 3, none⟩ = some (.slice (some ⟨g, 0, none⟩) ss.length cg) ∧ w.cell? ⟨g, k, none⟩ = some (.int .i64 (x : Int)) ∧ lb < w.heap.size ∧ g < w.heap.size) := ⟨c1w, c3w, cxw, hw1, hw2⟩
      clear hr hfrom c1w c3w cxw hw1 hw2
      have hbase : Below w.heap.size w wr := hB
      go_wp2_with fail
      have lk : ((namesN pre ss).take k).length = k := by rw [List.length_take]; simp [namesN]; omega
      have HLK := hid_into lk
      have hlk9 : ((namesN pre ss).take k).length ≤ 1000000000 := by omega
      have HO := hid_into hot
      clear lk hot
      have HP : Hid (∀ w5, Below wr.heap.size wr w5 → Below wr.heap.size wr (w5.alloc (.cells #[encStr nm] 9)) ∧ Ot (w5.alloc (.cells #[encStr nm] 9)) w.heap.size (.slice ao k cap) ((namesN pre ss).take k) ∧ (w5.alloc (.cells #[encStr nm] 9)).cell? ⟨w5.heap.size, 0, none⟩ = some (encStr nm) ∧ w.heap.size ≤ (w5.alloc (.cells #[encStr nm] 9)).heap.size) := by
        intro w5 hb
        have hb2 := hb.alloc hb.size (.cells #[encStr nm] 9)
        refine ⟨hb2, ownsRow_below HO.out hb2, ?_, Nat.le_trans hbase.size hb2.size⟩
        rw [cell_of_row _ _ 0 _ _ _ (heap_alloc_new w5 _)]; rfl
      generalize (namesN pre ss).take k = L at *
      have HQ : Hid (∀ w5 w7 : World, Below wr.heap.size wr (w5.alloc (.cells #[encStr nm] 9)) → (w5.alloc (.cells #[encStr nm] 9)).grownBy w7 (Value.slice ao k cap).ownBlock → Below w.heap.size w w7 ∧ w7.cell? ⟨lb, 1, none⟩ = some (encStr pre) ∧ w7.cell? ⟨lb, 3, none⟩ = some (.slice (some ⟨g, 0, none⟩) ss.length cg) ∧ w7.cell? ⟨g, k, none⟩ = some (.int .i64 (x : Int))) := by
        intro w5 w7 hb hg7
        have hb2 : Below w.heap.size w (w5.alloc (.cells #[encStr nm] 9)) := hbase.trans (hb.mono hbase.size)
        have hb7 : Below w.heap.size w w7 := hb2.trans ⟨hg7.os, hg7.tape, hg7.output, hg7.size, fun q hq => hg7.block q (by have := hb2.size; omega) (fun e => by have := HF.out q e.symm; omega)⟩
        obtain ⟨k1, k2, k3, k4, k5⟩ := HW.out
        exact ⟨hb7, cell_below hb7 k1 k4, cell_below hb7 k2 k4, cell_below hb7 k3 k5⟩
      go_region_held3 (fun u => u.cell? ⟨lb, 1, none⟩ = some (encStr pre) ∧ u.cell? ⟨lb, 3, none⟩ = some (.slice (some ⟨g, 0, none⟩) ss.length cg) ∧ u.cell? ⟨g, k, none⟩ = some (.int .i64 (x : Int))) (first | exact ⟨c1, c3, cx⟩ | assumption)
        (first
          | (go_at_call 28; refine (CN _).mono ?_; rintro e w5 ⟨rfl, hB5⟩; replace hB5 : Below wr.heap.size wr w5 := ⟨hB5.os, hB5.tape, hB5.output, hB5.size, hB5.block⟩; have ht5 := And.intro (cell_below hB5 c1 hl1) (And.intro (cell_below hB5 c3 hl1) (cell_below hB5 cx hl2)); obtain ⟨hB6, hot6, hcl6, hsz6⟩ := HP.out w5 hB5; have ht6 := And.intro (cell_below hB6 c1 hl1) (And.intro (cell_below hB6 c3 hl1) (cell_below hB6 cx hl2)))
          | (refine step_append_nm rfl (.tmp 14) (.tmp 27) rfl w.heap.size (.slice ao k cap) L (by rfl) hot6 w5.heap.size nm (by rfl) hcl6 hlk9 hsz6 ?_; intro ao7 cap7 w7 ho7 hg7 hat7; obtain ⟨hB7, ht7⟩ := HQ.out w5 w7 hB6 ⟨hg7.os, hg7.tape, hg7.output, hg7.size, hg7.block⟩))
      rw [← HT.out] at ho7
      rw [show L.length + 1 = k + 1 by rw [HLK.out]] at *
      clear hg7 hat7 hot6 hcl6 hsz6 hB6 hB5 ht5 ht6 ht7 HP HQ HF HW HO
      go_wp2_with fail
      go_roundw
      case rel => exact ⟨k + 1, _, _, by omega, by go_num, rfl, ho7, hB7⟩
      case measure => simp [intOf]; omega
    · have hke : (namesN pre ss).take k = namesN pre ss := List.take_of_length_le (by simp [namesN]; omega)
      rw [hke] at hot
      obtain ⟨as1, cs1, hss⟩ := h.svform
      subst hss
      have f2 : ¬ (k : Int) < (ss.length : Int) := by omega
      clear hr h hke
      go_wp2_with fail
      go_ret
      exact ⟨_, rfl, hot, hB⟩
/-- The document's log over its disk, each with blocks of its own. -/
structure Xd (w : World) (D F : Nat → Prop) (lb wb : Nat) (u : Ud) (pre : List UInt8) (es : List En) (ss : List Nat) (sure : Nat) (dead : Bool) : Prop where
  d : Qd w D wb u
  l : ∃ ev sv, Xg w F lb wb pre ev sv es ss sure dead
  dl : ∀ k, D k → k < w.heap.size
  fl : ∀ k, F k → k < w.heap.size
  ap : ∀ k, D k → ¬ F k
/-- What a call leaves of both. -/
def XRes (w : World) (D F : Nat → Prop) (lb wb : Nat) (pre : List UInt8) (u : Ud) (es : List En) (ss : List Nat) (sure : Nat) (dead : Bool) (w' : World) : Prop :=
  ∃ D' F', Xd w' D' F' lb wb u pre es ss sure dead ∧ (∀ k, D' k → D k ∨ w.heap.size ≤ k) ∧ (∀ k, F' k → F k ∨ w.heap.size ≤ k) ∧ Grows (fun k => D k ∨ F k) w w'
theorem Xd.below (h : Xd w D F lb wb u pre es ss sure dead) (hb : Below w.heap.size w w') : Xd w' D F lb wb u pre es ss sure dead := by
  obtain ⟨ev, sv, hl⟩ := h.l
  exact ⟨h.d.to hb, ⟨ev, sv, hl.below hb⟩, fun k hk => Nat.lt_of_lt_of_le (h.dl k hk) hb.size, fun k hk => Nat.lt_of_lt_of_le (h.fl k hk) hb.size, h.ap⟩
theorem XRes.refl (h : Xd w D F lb wb u pre es ss sure dead) (hb : Below w.heap.size w w') : XRes w D F lb wb pre u es ss sure dead w' :=
  ⟨D, F, h.below hb, fun _ hk => Or.inl hk, fun _ hk => Or.inl hk, ⟨hb.os, hb.tape, hb.output, hb.size, fun k hk _ => hb.block k hk⟩⟩
/-- The disk's method was called: the log is as it was. -/
theorem XRes.disk (h : Xd w D F lb wb u pre es ss sure dead) {w1 : World} {u' : Ud} (hb : Below w.heap.size w w1) (hp : QRes D wb u' w1 w') : XRes w D F lb wb pre u' es ss sure dead w' := by
  obtain ⟨ev, sv, hl⟩ := h.l
  have hs := hb.size
  have hs2 := hp.2.size
  refine ⟨fun k => (D k ∨ w1.heap.size ≤ k) ∧ k < w'.heap.size, F, ⟨hp.1.more fun k hk hlt => ⟨hk, hlt⟩, ⟨ev, sv, (hl.below hb).keep hp.2.size fun k hk hlt => hp.2.block k hlt fun hd => h.ap k hd hk⟩, fun k hk => hk.2, fun k hk => by have := h.fl k hk; omega, fun k hk hf => ?_⟩, fun k hk => hk.1.imp id fun e => by omega, fun k hk => Or.inl hk, ⟨hp.2.os.trans hb.os, hp.2.tape.trans hb.tape, hp.2.output.trans hb.output, by omega, fun k hk hn => (hp.2.block k (by omega) fun e => hn (Or.inl e)).trans (hb.block k hk)⟩⟩
  rcases hk.1 with h1 | h1
  · exact h.ap k h1 hf
  · have := h.fl k hf
    omega
/-- A store into the log's own block, behind a call. -/
theorem XRes.cell {w1 : World} {sure' : Nat} {dead' : Bool} (h : XRes w D F lb wb pre u es ss sure dead w1) (i : Nat) (v : Value) (hl : ∀ F ev sv, Xg w1 F lb wb pre ev sv es ss sure dead → Xg (w1.setCell ⟨lb, i, none⟩ v) F lb wb pre ev sv es ss sure' dead') : XRes w D F lb wb pre u es ss sure' dead' (w1.setCell ⟨lb, i, none⟩ v) := by
  obtain ⟨D', F', h1, h2, h3, h4⟩ := h
  obtain ⟨ev, sv, hh⟩ := h1.l
  refine ⟨D', F', ⟨h1.d.keep fun k hk _ => set_other _ _ _ _ _ (fun e => h1.ap k hk (by rw [e]; exact hh.lF)), ⟨ev, sv, hl F' ev sv hh⟩, fun k hk => by rw [set_size]; exact h1.dl k hk, fun k hk => by rw [set_size]; exact h1.fl k hk, h1.ap⟩, h2, h3, ⟨h4.os, h4.tape, h4.output, by rw [set_size]; exact h4.size, fun k hk hn => ?_⟩⟩
  rw [set_other _ _ _ _ _ fun e => by
    subst e
    rcases h3 k hh.lF with e | e
    · exact hn (Or.inr e)
    · omega]
  exact h4.block k hk hn
theorem XRes.log {w1 : World} (h : XRes w D F lb wb pre u es ss sure dead w1) : ∃ F' ev sv, Xg w1 F' lb wb pre ev sv es ss sure dead := by
  obtain ⟨D', F', h1, _⟩ := h
  obtain ⟨ev, sv, hh⟩ := h1.l
  exact ⟨F', ev, sv, hh⟩
theorem XRes.after {w1 w2 : World} (hb : Below w.heap.size w w1) (h : XRes w1 D F lb wb pre u es ss sure dead w2) : XRes w D F lb wb pre u es ss sure dead w2 := by
  obtain ⟨D', F', h1, h2, h3, h4⟩ := h
  have hs := hb.size
  refine ⟨D', F', h1, fun k hk => (h2 k hk).imp id fun e => Nat.le_trans hs e, fun k hk => (h3 k hk).imp id fun e => Nat.le_trans hs e, ⟨h4.os.trans hb.os, h4.tape.trans hb.tape, h4.output.trans hb.output, Nat.le_trans hs h4.size, fun k hk hn => (h4.block k (by omega) hn).trans (hb.block k hk)⟩⟩
theorem XRes.then {w1 w2 : World} {D' F' : Nat → Prop} (hd : ∀ k, D' k → D k ∨ w.heap.size ≤ k) (hf : ∀ k, F' k → F k ∨ w.heap.size ≤ k) (hg : Grows (fun k => D k ∨ F k) w w1) (h : XRes w1 D' F' lb wb pre u es ss sure dead w2) : XRes w D F lb wb pre u es ss sure dead w2 := by
  obtain ⟨D2, F2, h1, h2, h3, h4⟩ := h
  have hs := hg.size
  refine ⟨D2, F2, h1, fun k hk => ?_, fun k hk => ?_, ⟨h4.os.trans hg.os, h4.tape.trans hg.tape, h4.output.trans hg.output, Nat.le_trans hs h4.size, fun k hk hn => ?_⟩⟩
  · rcases h2 k hk with e | e
    · exact hd k e
    · exact Or.inr (Nat.le_trans hs e)
  · rcases h3 k hk with e | e
    · exact hf k e
    · exact Or.inr (Nat.le_trans hs e)
  · refine (h4.block k (by omega) fun e => ?_).trans (hg.block k hk hn)
    rcases e with e | e
    · rcases hd k e with e | e
      · exact hn (Or.inl e)
      · omega
    · rcases hf k e with e | e
      · exact hn (Or.inr e)
      · omega
/-- The last segment's number. -/
def lastS (ss : List Nat) : Nat := ss.getLast?.getD 0
theorem lastS_get (hs : ss ≠ []) : ∃ m, ss.length = m + 1 ∧ ss[m]? = some (lastS ss) := by
  refine ⟨ss.length - 1, ?_, ?_⟩
  · cases ss with
    | nil => exact absurd rfl hs
    | cons a l => simp
  · unfold lastS
    rw [List.getLast?_eq_getElem?]
    have : ss.length - 1 < ss.length := by cases ss with
      | nil => exact absurd rfl hs
      | cons a l => simp
    rw [List.getElem?_eq_getElem this]; rfl
theorem nameN_len (pre : List UInt8) (n : Nat) (h : n < 100000000) : (nameN pre n).length = pre.length + 8 := by
  have := decDigits_len8 n h
  rw [nameN_pad pre n h, List.length_append, List.length_append, List.length_replicate]
  omega
set_option maxHeartbeats 4000000 in
set_option maxRecDepth 100000 in
theorem size_any (w : World) (h : Xd w D F lb wb u pre es ss sure dead) (hg : Gd u) (hs : ss ≠ []) :
    Calls Tryz.prog 51 #[.pointer (some ⟨lb, 0, none⟩)] w fun e w' => e = .returned (.int .i64 ((at0U u.us (nameN pre (lastS ss))).1.length : Int)) ∧ Below w.heap.size w w' := by
  obtain ⟨ev, sv, hl⟩ := h.l
  obtain ⟨m, hm, hx⟩ := lastS_get hs
  obtain ⟨g, cg, rfl⟩ := hl.segSome hs
  have hfew := hl.few
  have hx8 := hfew.2.2.2.2 _ (List.mem_of_getElem? hx)
  have c0 : w.cell? ⟨lb, 0, none⟩ = some (.pointer (some ⟨wb, 0, none⟩)) := hl.blk.cell 0
  have c1 : w.cell? ⟨lb, 1, none⟩ = some (encStr pre) := hl.blk.cell 1
  have c3 : w.cell? ⟨lb, 3, none⟩ = some (.slice (some ⟨g, 0, none⟩) ss.length cg) := hl.blk.cell 3
  have cx : w.cell? ⟨g, m, none⟩ = some (.int .i64 (lastS ss : Int)) := hl.segCell rfl hx
  have hl1 := World.block_lt_of_cell? w _ c1
  have hl2 := World.block_lt_of_cell? w _ cx
  simp only at hl1 hl2
  have CN := fun w1 => name_ref pre (lastS ss) hx8 (by omega) w1
  have CR : Hid (∀ w1, Below w.heap.size w w1 → Calls Tryz.prog 46 #[.pointer (some ⟨wb, 0, none⟩), encStr (nameN pre (lastS ss))] w1 fun e w' => ∃ ao cap, e = .returned (.tuple #[.slice ao (at0U u.us (nameN pre (lastS ss))).1.length cap, .int .i64 (rdE u.us (nameN pre (lastS ss)))]) ∧ Below w.heap.size w w') := by
    intro w1 hb
    refine (qRead (h.d.to hb) hg _).mono ?_
    rintro e w2 ⟨ao, cap, rfl, _, hb2⟩
    exact ⟨ao, cap, rfl, hb.trans (hb2.mono hb.size)⟩
  have q1 : IntKind.i64.wrap ((ss.length : Int) - 1) = (m : Int) := by rw [IntKind.wrap_i64]; omega
  have f1 : (0 : Int) ≤ (m : Int) := by omega
  have f2 : (m : Int) < (ss.length : Int) := by omega
  clear h hl hx hs hm hfew
  generalize (at0U u.us (nameN pre (lastS ss))).1.length = z at *
  generalize rdE u.us (nameN pre (lastS ss)) = er at *
  generalize nameN pre (lastS ss) = nm at *
  generalize lastS ss = x at *
  generalize ss.length = n at *
  go_enter Tryz.func51, Tryz.ntmps51
  go_wp2_with fail
  go_region_held3 (fun u => u.cell? ⟨lb, 0, none⟩ = some (.pointer (some ⟨wb, 0, none⟩)) ∧ u.cell? ⟨lb, 1, none⟩ = some (encStr pre) ∧ u.cell? ⟨lb, 3, none⟩ = some (.slice (some ⟨g, 0, none⟩) n cg) ∧ u.cell? ⟨g, m, none⟩ = some (.int .i64 (x : Int))) (first | exact ⟨c0, c1, c3, cx⟩ | assumption)
    (first
      | (go_at_call 28; refine (CN _).mono ?_; rintro e w5 ⟨rfl, hB5⟩; replace hB5 : Below w.heap.size w w5 := ⟨hB5.os, hB5.tape, hB5.output, hB5.size, hB5.block⟩; have ht5 := And.intro (cell_below hB5 c0 hl1) (And.intro (cell_below hB5 c1 hl1) (And.intro (cell_below hB5 c3 hl1) (cell_below hB5 cx hl2))))
      | (go_at_call 46; refine (CR.out _ hB5).mono ?_; rintro e w6 ⟨ao6, cap6, rfl, hB6⟩; have ht6 := And.intro (cell_below hB6 c0 hl1) (And.intro (cell_below hB6 c1 hl1) (And.intro (cell_below hB6 c3 hl1) (cell_below hB6 cx hl2)))))
  go_wp2_with fail
  go_ret
  exact ⟨rfl, hB6⟩
end Go.Proofs.YtnkjhooeklodcaaGreatDoor
end

section
/-
  The document's log: Sync.
-/
namespace Go.Proofs.YtnkjhooeklodcaaGreatDoor
open Go.RowKit Go.Maps Go.Sort

variable {w w' : World} {D F : Nat → Prop} {lb wb : Nat} {u : Ud} {pre : List UInt8} {ev sv : Value} {es : List En} {ss : List Nat} {sure : Nat} {dead : Bool}
/-- What Sync answers; the disk, below which all last, whether the log is dead behind it. -/
def syX (u : Ud) (n sure : Nat) (x : List UInt8) (dead : Bool) : Int × Ud × Nat × Bool :=
  if dead = true then (9, u, sure, dead) else if sure = n + 1 then (0, u, sure, dead)
  else ((u.five [x] (syU x)).1, (u.five [x] (syU x)).2, if (u.five [x] (syU x)).1 = 0 then n + 1 else sure, if (u.five [x] (syU x)).1 = 0 then dead else true)
set_option maxHeartbeats 4000000 in
set_option maxRecDepth 100000 in
theorem XSync_any (w : World) (h : Xd w D F lb wb u pre es ss sure dead) (hg : Gd u) (hs : sure ≠ es.length + 1 → ss ≠ []) :
    Calls Tryz.prog 19 #[.pointer (some ⟨lb, 0, none⟩)] w fun e w' => e = .returned (.int .i64 (syX u es.length sure (nameN pre (lastS ss)) dead).1) ∧
      XRes w D F lb wb pre (syX u es.length sure (nameN pre (lastS ss)) dead).2.1 es ss (syX u es.length sure (nameN pre (lastS ss)) dead).2.2.1 (syX u es.length sure (nameN pre (lastS ss)) dead).2.2.2 w' := by
  obtain ⟨ev, sv, hl⟩ := h.l
  obtain ⟨ae, ce, hee⟩ := hl.evform
  subst hee
  have hfew := hl.few
  have c2 : w.cell? ⟨lb, 2, none⟩ = some (.slice ae es.length ce) := hl.blk.cell 2
  have c4 : w.cell? ⟨lb, 4, none⟩ = some (.int .i64 (sure : Int)) := hl.blk.cell 4
  have c5 : w.cell? ⟨lb, 5, none⟩ = some (.bool dead) := hl.blk.cell 5
  have q1 : IntKind.i64.wrap ((es.length : Int) + 1) = (es.length : Int) + 1 := by rw [IntKind.wrap_i64]; omega
  cases dead with
  | true =>
    have HR : Hid (XRes w D F lb wb pre u es ss sure true w) := XRes.refl h (Below.refl _ _)
    clear h hl
    go_enter Tryz.func19, Tryz.ntmps19
    go_wp2_with fail
    go_ret
    exact ⟨rfl, HR.out⟩
  | false =>
    by_cases hle : sure = es.length + 1
    · have HE : Hid (syX u es.length sure (nameN pre (lastS ss)) false = (0, u, sure, false)) := by
        show _ = _
        unfold syX
        rw [if_neg (by decide), if_pos hle]
      have HR : Hid (∀ w', Sm w w' → XRes w D F lb wb pre u es ss sure false w') := fun w' hs => XRes.refl h (Sm.below' hs)
      have hq : ((sure : Int) == (es.length : Int) + 1) = true := by simp [hle]
      rw [HE.out]
      clear h hl HE hle hs
      go_enter Tryz.func19, Tryz.ntmps19
      go_wp2_with fail
      go_quiet (fail)
      go_wp2
      go_ret
      exact ⟨rfl, HR.out _ (Sm.drewN _ _)⟩
    · have hss := hs hle
      obtain ⟨m, hm, hx⟩ := lastS_get hss
      obtain ⟨g, cg, rfl⟩ := hl.segSome hss
      have hx8 := hfew.2.2.2.2 _ (List.mem_of_getElem? hx)
      have HE : Hid (syX u es.length sure (nameN pre (lastS ss)) false = ((u.five [nameN pre (lastS ss)] (syU (nameN pre (lastS ss)))).1, (u.five [nameN pre (lastS ss)] (syU (nameN pre (lastS ss)))).2, if (u.five [nameN pre (lastS ss)] (syU (nameN pre (lastS ss)))).1 = 0 then es.length + 1 else sure, if (u.five [nameN pre (lastS ss)] (syU (nameN pre (lastS ss)))).1 = 0 then false else true)) := by
        show _ = _
        unfold syX
        rw [if_neg (by decide), if_neg hle]
      have hq : ((sure : Int) == (es.length : Int) + 1) = false := by
        have : ¬ (sure : Int) = (es.length : Int) + 1 := by omega
        simp [this]
      have c0 : w.cell? ⟨lb, 0, none⟩ = some (.pointer (some ⟨wb, 0, none⟩)) := hl.blk.cell 0
      have c1 : w.cell? ⟨lb, 1, none⟩ = some (encStr pre) := hl.blk.cell 1
      have c3 : w.cell? ⟨lb, 3, none⟩ = some (.slice (some ⟨g, 0, none⟩) ss.length cg) := hl.blk.cell 3
      have cx : w.cell? ⟨g, m, none⟩ = some (.int .i64 (lastS ss : Int)) := hl.segCell rfl hx
      have hl1 := World.block_lt_of_cell? w _ c1
      have hl2 := World.block_lt_of_cell? w _ cx
      simp only at hl1 hl2
      have CN := fun w1 => name_ref pre (lastS ss) hx8 (by omega) w1
      have hnl := nameN_len pre (lastS ss) hx8
      have CS : Hid (∀ w1, Below w.heap.size w w1 → Calls Tryz.prog 58 #[.pointer (some ⟨wb, 0, none⟩), encStr (nameN pre (lastS ss))] w1 fun e w' => e = .returned (.int .i64 (u.five [nameN pre (lastS ss)] (syU (nameN pre (lastS ss)))).1) ∧ XRes w D F lb wb pre (u.five [nameN pre (lastS ss)] (syU (nameN pre (lastS ss)))).2 es ss sure false w' ∧ w'.cell? ⟨lb, 0, none⟩ = some (.pointer (some ⟨wb, 0, none⟩)) ∧ w'.cell? ⟨lb, 1, none⟩ = some (encStr pre) ∧ w'.cell? ⟨lb, 3, none⟩ = some (.slice (some ⟨g, 0, none⟩) ss.length cg) ∧ w'.cell? ⟨g, m, none⟩ = some (.int .i64 (lastS ss : Int)) ∧ w'.cell? ⟨lb, 2, none⟩ = some (.slice ae es.length ce)) := by
        intro w1 hb
        refine (qSync (h.d.to hb) hg _ (by omega)).mono ?_
        rintro e w2 ⟨rfl, hp⟩
        have hl' := (hl.below hb).keep hp.2.size fun k hk hlt => hp.2.block k hlt fun hd => h.ap k hd hk
        exact ⟨rfl, XRes.disk h hb hp, hl'.blk.cell 0, hl'.blk.cell 1, hl'.blk.cell 3, hl'.segCell rfl hx, hl'.blk.cell 2⟩
      have q2 : IntKind.i64.wrap ((ss.length : Int) - 1) = (m : Int) := by rw [IntKind.wrap_i64]; omega
      have f1 : (0 : Int) ≤ (m : Int) := by omega
      have f2 : (m : Int) < (ss.length : Int) := by omega
      rw [HE.out]
      have HL9 : Hid (es.length + 1 ≤ 10000001) := by show _ ≤ _; omega
      clear h hl hx hs hss hm hfew hle HE hnl
      generalize u.five [nameN pre (lastS ss)] (syU (nameN pre (lastS ss))) = r at *
      generalize nameN pre (lastS ss) = nm at *
      generalize lastS ss = x at *
      generalize hnn : ss.length = n at *
      clear hnn
      obtain ⟨r1, r2⟩ := r
      simp only at CS ⊢
      go_enter Tryz.func19, Tryz.ntmps19
      go_wp2_with fail
      go_quiet (fail)
      go_wp2_with fail
      go_region_held3 (fun u => u.cell? ⟨lb, 0, none⟩ = some (.pointer (some ⟨wb, 0, none⟩)) ∧ u.cell? ⟨lb, 1, none⟩ = some (encStr pre) ∧ u.cell? ⟨lb, 3, none⟩ = some (.slice (some ⟨g, 0, none⟩) n cg) ∧ u.cell? ⟨g, m, none⟩ = some (.int .i64 (x : Int))) (first | exact ⟨c0, c1, c3, cx⟩ | assumption)
        (first
          | (go_at_call 28; refine (CN _).mono ?_; rintro e w5 ⟨rfl, hB5⟩; replace hB5 : Below w.heap.size w w5 := ⟨hB5.os, hB5.tape, hB5.output, hB5.size, hB5.block⟩; have ht5 := And.intro (cell_below hB5 c0 hl1) (And.intro (cell_below hB5 c1 hl1) (And.intro (cell_below hB5 c3 hl1) (cell_below hB5 cx hl2))))
          | (go_at_call 58; refine (CS.out _ hB5).mono ?_; rintro e w6 ⟨rfl, hR6, k0, k1, k3, kx, k2⟩; have ht6 := And.intro k0 (And.intro k1 (And.intro k3 kx))))
      obtain ⟨F6, ev6, sv6, hl6⟩ := hR6.log
      have HR := hid_into hR6
      have HL := hid_into hl6
      clear hR6 CS CN ht5 ht6 hB5
      by_cases h0 : r1 = 0
      · subst h0
        have c4' : w6.cell? ⟨lb, 4, none⟩ = some (.int .i64 (sure : Int)) := hl6.blk.cell 4
        have z4 : w6.frozen? ⟨lb, 4, none⟩ = false := hl6.blk.frozen 4
        clear hl6
        go_wp2_with fail
        go_ret
        refine ⟨rfl, ?_⟩
        exact HR.out.cell 4 _ fun _ _ _ hh => hh.setSure (es.length + 1) HL9.out
      · have h7 : (r1 == 0) = false := beq_eq_false_iff_ne.2 h0
        have c5' : w6.cell? ⟨lb, 5, none⟩ = some (.bool false) := hl6.blk.cell 5
        have z5 : w6.frozen? ⟨lb, 5, none⟩ = false := hl6.blk.frozen 5
        clear hl6
        go_wp2_with fail
        go_ret
        refine ⟨rfl, ?_⟩
        exact HR.out.cell 5 _ fun _ _ _ hh => hh.kill
end Go.Proofs.YtnkjhooeklodcaaGreatDoor
end

section
/-
  The document's log: an entry more, a segment more.
-/
namespace Go.Proofs.YtnkjhooeklodcaaGreatDoor
open Go.RowKit Go.Maps Go.Sort

variable {w w' : World} {D F : Nat → Prop} {lb wb : Nat} {u : Ud} {pre : List UInt8} {ev sv : Value} {es : List En} {ss : List Nat} {sure : Nat} {dead : Bool}
/-- An entry more. -/
theorem Xg.add (h : Xg w F lb wb pre ev sv es ss sure dead) (u : Value) (p : List Int) (hu : Bs w u p) (hy : Byt p) (hl : p.length ≤ 65536)
    (huF : ∀ k, u.ownBlock = some k → F k ∧ k ≠ lb ∧ ev.ownBlock ≠ some k ∧ sv.ownBlock ≠ some k ∧ k < w.heap.size)
    (w2 : World) (ev' : Value) (hrow : w2.ownsRow 0 38 1 ev' (es.length + 1) (enOf es ++ [u])) (hg : w.grownBy w2 ev.ownBlock) (hat : ev'.ownBlock = ev.ownBlock ∨ ev'.ownBlock = some w.heap.size) (hF : F w.heap.size) (hf : es.length + 1 ≤ 10000000) :
    Xg (w2.setCell ⟨lb, 2, none⟩ ev') F lb wb pre ev' sv (es ++ [(u, p)]) ss sure dead := by
  have hlb := h.blk.lt
  have hne : ∀ k, ev'.ownBlock = some k → k ≠ lb ∧ (ev.ownBlock = some k ∨ k = w.heap.size) := by
    intro k hk
    rcases hat with e | e
    · rw [e] at hk
      exact ⟨(h.sep.1 k hk).2.1, Or.inl hk⟩
    · rw [e] at hk
      have := Option.some.inj hk
      exact ⟨by omega, Or.inr this.symm⟩
  have hkeep : ∀ k, k < w.heap.size → ev.ownBlock ≠ some k → k ≠ lb → (w2.setCell ⟨lb, 2, none⟩ ev').heap[k]? = w.heap[k]? := fun k h1 h2 h3 => (set_other _ _ _ _ _ h3).trans (hg.block k h1 fun e => h2 e.symm)
  have hb2 : Cw w2 lb _ 32 := h.blk.keep (hg.block lb hlb fun e => (h.sep.1 lb e.symm).2.1 rfl)
  have hsz : w.heap.size ≤ (w2.setCell ⟨lb, 2, none⟩ ev').heap.size := by rw [set_size]; exact hg.size
  have hsv : ∀ k, sv.ownBlock = some k → k < w.heap.size := fun k hk => (World.ownsRow.lt h.seg k hk).2
  refine ⟨hb2.set 2 ev', h.lF, ?_, fun r hr => ?_, ?_, ⟨fun k hk => ?_, h.sep.2⟩, ⟨by simpa using hf, h.few.2⟩⟩
  · have e1 : (es ++ [(u, p)]).length = es.length + 1 := by simp
    have e2 : enOf (es ++ [(u, p)]) = enOf es ++ [u] := by simp [enOf]
    rw [e1, e2]
    exact Fr.ownsRow_keep hrow fun k hk _ => set_other _ _ _ _ _ (hne k hk).1
  · have key : Bs w r.1 r.2 ∧ Byt r.2 ∧ r.2.length ≤ 65536 ∧ ∀ k, r.1.ownBlock = some k → F k ∧ k ≠ lb ∧ ev.ownBlock ≠ some k ∧ sv.ownBlock ≠ some k ∧ k < w.heap.size := by
      rcases List.mem_append.1 hr with hm | hm
      · exact h.each r hm
      · obtain rfl : r = (u, p) := by simpa using hm
        exact ⟨hu, hy, hl, huF⟩
    obtain ⟨k1, k2, k3, k4⟩ := key
    refine ⟨k1.keep fun k hk hlt => hkeep k hlt (k4 k hk).2.2.1 (k4 k hk).2.1, k2, k3, fun k hk => ⟨(k4 k hk).1, (k4 k hk).2.1, fun e => ?_, (k4 k hk).2.2.2.1, by have := (k4 k hk).2.2.2.2; omega⟩⟩
    rcases (hne k e).2 with e' | e'
    · exact (k4 k hk).2.2.1 e'
    · have := (k4 k hk).2.2.2.2
      omega
  · exact Fr.ownsRow_keep h.seg fun k hk hlt => hkeep k hlt (fun e => (h.sep.1 k e).2.2 hk) (h.sep.2 k hk).2
  · rcases (hne k hk).2 with e | e
    · exact h.sep.1 k e
    · subst e
      exact ⟨hF, by omega, fun e => by have := hsv _ e; omega⟩
/-- A name more. -/
theorem Xg.addS (h : Xg w F lb wb pre ev sv es ss sure dead) (n : Nat) (hn8 : n < 100000000)
    (w2 : World) (sv' : Value) (hrow : w2.ownsRow 0 3 1 sv' (ss.length + 1) (numsOf ss ++ [.int .i64 (n : Int)])) (hg : w.grownBy w2 sv.ownBlock) (hat : sv'.ownBlock = sv.ownBlock ∨ sv'.ownBlock = some w.heap.size) (hF : F w.heap.size) (hf : ss.length + 1 ≤ 10000000) :
    Xg (w2.setCell ⟨lb, 3, none⟩ sv') F lb wb pre ev sv' es (ss ++ [n]) sure dead := by
  have hlb := h.blk.lt
  have hne : ∀ k, sv'.ownBlock = some k → k ≠ lb ∧ (sv.ownBlock = some k ∨ k = w.heap.size) := by
    intro k hk
    rcases hat with e | e
    · rw [e] at hk
      exact ⟨(h.sep.2 k hk).2, Or.inl hk⟩
    · rw [e] at hk
      have := Option.some.inj hk
      exact ⟨by omega, Or.inr this.symm⟩
  have hkeep : ∀ k, k < w.heap.size → sv.ownBlock ≠ some k → k ≠ lb → (w2.setCell ⟨lb, 3, none⟩ sv').heap[k]? = w.heap[k]? := fun k h1 h2 h3 => (set_other _ _ _ _ _ h3).trans (hg.block k h1 fun e => h2 e.symm)
  have hb2 : Cw w2 lb _ 32 := h.blk.keep (hg.block lb hlb fun e => (h.sep.2 lb e.symm).2 rfl)
  have hsz : w.heap.size ≤ (w2.setCell ⟨lb, 3, none⟩ sv').heap.size := by rw [set_size]; exact hg.size
  have hev : ∀ k, ev.ownBlock = some k → k < w.heap.size := fun k hk => (World.ownsRow.lt h.ent k hk).2
  refine ⟨hb2.set 3 sv', h.lF, ?_, fun r hr => ?_, ?_, ⟨fun k hk => ?_, fun k hk => ?_⟩, ⟨h.few.1, by simpa using hf, h.few.2.2.1, h.few.2.2.2.1, fun m hm => (List.mem_append.1 hm).elim (h.few.2.2.2.2 m) fun e => by rw [List.mem_singleton.1 e]; exact hn8⟩⟩
  · exact Fr.ownsRow_keep h.ent fun k hk hlt => hkeep k hlt (h.sep.1 k hk).2.2 (h.sep.1 k hk).2.1
  · obtain ⟨k1, k2, k3, k4⟩ := h.each r hr
    refine ⟨k1.keep fun k hk hlt => hkeep k hlt (k4 k hk).2.2.2.1 (k4 k hk).2.1, k2, k3, fun k hk => ⟨(k4 k hk).1, (k4 k hk).2.1, (k4 k hk).2.2.1, fun e => ?_, by have := (k4 k hk).2.2.2.2; omega⟩⟩
    rcases (hne k e).2 with e' | e'
    · exact (k4 k hk).2.2.2.1 e'
    · have := (k4 k hk).2.2.2.2
      omega
  · have e1 : (ss ++ [n]).length = ss.length + 1 := by simp
    have e2 : numsOf (ss ++ [n]) = numsOf ss ++ [.int .i64 (n : Int)] := by simp [numsOf]
    rw [e1, e2]
    exact Fr.ownsRow_keep hrow fun k hk _ => set_other _ _ _ _ _ (hne k hk).1
  · refine ⟨(h.sep.1 k hk).1, (h.sep.1 k hk).2.1, fun e => ?_⟩
    rcases (hne k e).2 with e' | e'
    · exact (h.sep.1 k hk).2.2 e'
    · have := hev k hk
      omega
  · rcases (hne k hk).2 with e | e
    · exact h.sep.2 k e
    · subst e
      exact ⟨hF, by omega⟩
theorem Xg.tight (h : Xg w F lb wb pre ev sv es ss sure dead) : Xg w (fun k => F k ∧ k < w.heap.size) lb wb pre ev sv es ss sure dead :=
  ⟨h.blk, ⟨h.lF, h.blk.lt⟩, h.ent, fun r hr => ⟨(h.each r hr).1, (h.each r hr).2.1, (h.each r hr).2.2.1, fun k hk => by
    have := (h.each r hr).2.2.2 k hk
    exact ⟨⟨this.1, this.2.2.2.2⟩, this.2⟩⟩, h.seg, ⟨fun k hk => ⟨⟨(h.sep.1 k hk).1, (World.ownsRow.lt h.ent k hk).2⟩, (h.sep.1 k hk).2⟩, fun k hk => ⟨⟨(h.sep.2 k hk).1, (World.ownsRow.lt h.seg k hk).2⟩, (h.sep.2 k hk).2⟩⟩, h.few⟩
/-- An entry more, of a log over its disk. -/
theorem XRes.addE {w5 w6 W : World} {D5 F5 : Nat → Prop} (h1 : Xd w5 D5 F5 lb wb u pre es ss sure dead) (h2 : ∀ k, D5 k → D k ∨ w.heap.size ≤ k) (h3 : ∀ k, F5 k → F k ∨ w.heap.size ≤ k) (h4 : Grows (fun k => D k ∨ F k) w w5)
    (hl : Xg w5 F5 lb wb pre ev sv es ss sure dead) (hA : Below w5.heap.size w5 W) (cv : Value) (p : List Int) (hcv : Bs W cv p) (hy : Byt p) (hpl : p.length ≤ 65536) (hcb : ∀ k, cv.ownBlock = some k → w5.heap.size ≤ k ∧ k < W.heap.size)
    (ev' : Value) (hrow : w6.ownsRow 0 38 1 ev' (es.length + 1) (enOf es ++ [cv])) (hg : W.grownBy w6 ev.ownBlock) (hat : ev'.ownBlock = ev.ownBlock ∨ ev'.ownBlock = some W.heap.size) (hf : es.length + 1 ≤ 10000000) :
    XRes w D F lb wb pre u (es ++ [(cv, p)]) ss sure dead (w6.setCell ⟨lb, 2, none⟩ ev') := by
  have hWs := hA.size
  have hl2 : Xg W (fun k => F5 k ∨ w5.heap.size ≤ k) lb wb pre ev sv es ss sure dead := (hl.below hA).more fun k hk => Or.inl hk
  have hlb := hl.blk.lt
  have hl3 := (hl2.add cv p hcv hy hpl (fun k hk => by
    obtain ⟨k1, k2⟩ := hcb k hk
    refine ⟨Or.inr k1, by omega, fun e => ?_, fun e => ?_, k2⟩
    · have := (World.ownsRow.lt hl.ent k e).2; omega
    · have := (World.ownsRow.lt hl.seg k e).2; omega) w6 ev' hrow hg hat (Or.inr (by omega)) hf).tight
  have hs6 : w5.heap.size ≤ w6.heap.size := by have := hg.size; omega
  have h45 := h4.size
  have hblk : ∀ k, k < w5.heap.size → ¬ F5 k → (w6.setCell ⟨lb, 2, none⟩ ev').heap[k]? = w5.heap[k]? := fun k hk hn => by
    rw [set_other _ _ _ _ _ fun e => hn (by rw [e]; exact hl.lF), hg.block k (by omega) fun e => hn (hl.sep.1 k e.symm).1]
    exact hA.block k hk
  refine ⟨D5, _, ⟨h1.d.keep fun k hk hlt => hblk k hlt (h1.ap k hk), ⟨ev', sv, hl3⟩, fun k hk => by rw [set_size]; have := h1.dl k hk; omega, fun k hk => hk.2, fun k hk hf => ?_⟩, h2, fun k hk => ?_, ⟨?_, ?_, ?_, ?_, fun k hk hn => ?_⟩⟩
  · rcases hf.1 with e | e
    · exact h1.ap k hk e
    · have := h1.dl k hk
      omega
  · rcases hk.1 with e | e
    · exact h3 k e
    · exact Or.inr (by omega)
  · exact hg.os.trans (hA.os.trans h4.os)
  · exact hg.tape.trans (hA.tape.trans h4.tape)
  · exact hg.output.trans (hA.output.trans h4.output)
  · rw [set_size]; omega
  · refine (hblk k (by omega) fun e => ?_).trans (h4.block k hk hn)
    rcases h3 k e with e | e
    · exact hn (Or.inr e)
    · omega
/-- A name more, of a log over its disk. -/
theorem XRes.addS {w5 w6 : World} {D5 F5 : Nat → Prop} (h1 : Xd w5 D5 F5 lb wb u pre es ss sure dead) (h2 : ∀ k, D5 k → D k ∨ w.heap.size ≤ k) (h3 : ∀ k, F5 k → F k ∨ w.heap.size ≤ k) (h4 : Grows (fun k => D k ∨ F k) w w5)
    (hl : Xg w5 F5 lb wb pre ev sv es ss sure dead) (n : Nat) (hn8 : n < 100000000) (sv' : Value) (hrow : w6.ownsRow 0 3 1 sv' (ss.length + 1) (numsOf ss ++ [.int .i64 (n : Int)])) (hg : (w5.alloc (.cells #[.int .i64 (n : Int)] 3)).grownBy w6 sv.ownBlock) (hat : sv'.ownBlock = sv.ownBlock ∨ sv'.ownBlock = some (w5.heap.size + 1)) (hf : ss.length + 1 ≤ 10000000) :
    XRes w D F lb wb pre u es (ss ++ [n]) sure dead (w6.setCell ⟨lb, 3, none⟩ sv') := by
  have hA : Below w5.heap.size w5 (w5.alloc (.cells #[.int .i64 (n : Int)] 3)) := (Below.refl _ _).alloc (Nat.le_refl _) _
  have hWs : (w5.alloc (.cells #[.int .i64 (n : Int)] 3)).heap.size = w5.heap.size + 1 := World.size_alloc _ _
  have hl2 : Xg (w5.alloc (.cells #[.int .i64 (n : Int)] 3)) (fun k => F5 k ∨ w5.heap.size ≤ k) lb wb pre ev sv es ss sure dead := (hl.below hA).more fun k hk => Or.inl hk
  have hl3 := (hl2.addS n hn8 w6 sv' hrow hg (by rw [hWs]; exact hat) (Or.inr (by omega)) hf).tight
  have hs6 : w5.heap.size ≤ w6.heap.size := by have := hg.size; omega
  have h45 := h4.size
  have hblk : ∀ k, k < w5.heap.size → ¬ F5 k → (w6.setCell ⟨lb, 3, none⟩ sv').heap[k]? = w5.heap[k]? := fun k hk hn => by
    rw [set_other _ _ _ _ _ fun e => hn (by rw [e]; exact hl.lF), hg.block k (by omega) fun e => hn (hl.sep.2 k e.symm).1]
    exact hA.block k hk
  refine ⟨D5, _, ⟨h1.d.keep fun k hk hlt => hblk k hlt (h1.ap k hk), ⟨ev, sv', hl3⟩, fun k hk => by rw [set_size]; have := h1.dl k hk; omega, fun k hk => hk.2, fun k hk hf => ?_⟩, h2, fun k hk => ?_, ⟨?_, ?_, ?_, ?_, fun k hk hn => ?_⟩⟩
  · rcases hf.1 with e | e
    · exact h1.ap k hk e
    · have := h1.dl k hk
      omega
  · rcases hk.1 with e | e
    · exact h3 k e
    · exact Or.inr (by omega)
  · exact hg.os.trans (hA.os.trans h4.os)
  · exact hg.tape.trans (hA.tape.trans h4.tape)
  · exact hg.output.trans (hA.output.trans h4.output)
  · rw [set_size]; omega
  · refine (hblk k (by omega) fun e => ?_).trans (h4.block k hk hn)
    rcases h3 k e with e | e
    · exact hn (Or.inr e)
    · omega
theorem Tryz.info3p : (Tryz.prog.info? 3).map (fun i => (i.zero, i.size, i.bytes)) = some (some (.int .i64 0), 1, 8) := by kernel_rfl
theorem wpList_append_num (w : World) {ops : Array Oper} {rest : List Oper} {o : Oper} {a : Act} {Q : Exit → Act → World → Prop} (hgd : o.guard = none) (s x : Operand)
    (ho : o.op = .call { callee := .builtin .append, args := #[s, x], argTypes := #[30, 30] })
    (v : Value) (n : Nat) (us : List Value) (hs : a.eval s = v) (hown : w.ownsRow 0 3 1 v n us) (B : Nat) (u : Value) (hu1 : u.oneCell' = true) (hx : a.eval x = .slice (some ⟨B, 0, none⟩) 1 1) (hb : w.cell? ⟨B, 0, none⟩ = some u)
    (h63 : n ≤ 1000000000)
    (h : ∀ ao cap w', w'.ownsRow 0 3 1 (.slice ao (n + 1) cap) (n + 1) (us ++ [u]) → w.grownBy w' v.ownBlock → ((Value.slice ao (n + 1) cap).ownBlock = v.ownBlock ∨ (Value.slice ao (n + 1) cap).ownBlock = some w.heap.size) →
      wpList Tryz.prog ops Q rest (a.put o.dst (.slice ao (n + 1) cap)) w') : wpList Tryz.prog ops Q (o :: rest) a w := by
  obtain ⟨i0, hi, hz0, hz1, hz2⟩ := info_parts Tryz.info3p
  obtain ⟨v', w', hrun, h2, h3, _, h5⟩ := run_append_own_at (P := Tryz.prog) w 0 30 o.type 3 i0 (.int .i64 0) 1 8 Tryz.underlying30 hi hz0 hz1 hz2 rfl (by decide) v n us hown ⟨B, 0, none⟩ 1 1 [u] rfl
    (by intro j y hy
        cases j with
        | zero => rw [Addr.add_lit]; simp at hy; subst hy; exact hb
        | succ j => simp at hy) (by intro y hy; simp at hy; subst hy; exact hu1) (by unfold maxLen; omega) (by omega) (Nat.zero_le _)
  have hv' : ∃ ao cap, v' = .slice ao (n + 1) cap := by
    rcases h2.2 with ⟨_, h6⟩ | ⟨g, cap, cur, h6, _⟩
    · omega
    · exact ⟨some ⟨g, 0, none⟩, cap, h6⟩
  obtain ⟨ao, cap, rfl⟩ := hv'
  refine wpList_plain hgd fun _ hK => ?_
  unfold Oper.wp execOp
  simp only [ho, resolve, invoke, builtin, Sem.run_bind, Sem.run_pure, Result.andThen_ok, List.map_toArray, List.map_cons, List.map_nil, hs, hx, hrun]
  exact hK _ _ (h ao cap w' h2 h3 h5)
section
variable {w : World} {ops : Array Oper} {o : Oper} {a : Act} {K : Act → World → Prop} {Q : Exit → Act → World → Prop} {E : Prop}
theorem step_append_num (hgd : o.guard = none) (s x : Operand)
    (ho : o.op = .call { callee := .builtin .append, args := #[s, x], argTypes := #[30, 30] })
    (v : Value) (n : Nat) (us : List Value) (hs : a.eval s = v) (hown : w.ownsRow 0 3 1 v n us) (B : Nat) (u : Value) (hu1 : u.oneCell' = true) (hx : a.eval x = .slice (some ⟨B, 0, none⟩) 1 1) (hb : w.cell? ⟨B, 0, none⟩ = some u)
    (h63 : n ≤ 1000000000)
    (h : ∀ ao cap w', w'.ownsRow 0 3 1 (.slice ao (n + 1) cap) (n + 1) (us ++ [u]) → w.grownBy w' v.ownBlock → ((Value.slice ao (n + 1) cap).ownBlock = v.ownBlock ∨ (Value.slice ao (n + 1) cap).ownBlock = some w.heap.size) →
      K (a.put o.dst (.slice ao (n + 1) cap)) w') : if Region.wanted o (yielded ops a.tmps) = true then Oper.wp Tryz.prog o a w K Q else E := by
  have hw : Region.wanted o (yielded ops a.tmps) = true := by simp [Region.wanted, hgd]
  rw [if_pos hw]
  obtain ⟨i0, hi, hz0, hz1, hz2⟩ := info_parts Tryz.info3p
  obtain ⟨v', w', hrun, h2, h3, _, h5⟩ := run_append_own_at (P := Tryz.prog) w 0 30 o.type 3 i0 (.int .i64 0) 1 8 Tryz.underlying30 hi hz0 hz1 hz2 rfl (by decide) v n us hown ⟨B, 0, none⟩ 1 1 [u] rfl
    (by intro j y hy
        cases j with
        | zero => rw [Addr.add_lit]; simp at hy; subst hy; exact hb
        | succ j => simp at hy) (by intro y hy; simp at hy; subst hy; exact hu1) (by unfold maxLen; omega) (by omega) (Nat.zero_le _)
  have hv' : ∃ ao cap, v' = .slice ao (n + 1) cap := by
    rcases h2.2 with ⟨_, h6⟩ | ⟨g, cap, cur, h6, _⟩
    · omega
    · exact ⟨some ⟨g, 0, none⟩, cap, h6⟩
  obtain ⟨ao, cap, rfl⟩ := hv'
  unfold Oper.wp execOp
  simp only [ho, resolve, invoke, builtin, Sem.run_bind, Sem.run_pure, Result.andThen_ok, List.map_toArray, List.map_cons, List.map_nil, hs, hx, hrun]
  exact h ao cap w' h2 h3 h5
end
end Go.Proofs.YtnkjhooeklodcaaGreatDoor
end
