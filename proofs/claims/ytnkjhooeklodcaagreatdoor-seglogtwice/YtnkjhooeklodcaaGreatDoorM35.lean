/-
  Joined from: SegX, SegXd, SegXs.
-/
import Derived.Test.YtnkjhooeklodcaaGreatDoorM34
section
/-
  The document's log in memory (Xg); fail, Entry.
-/
namespace Go.Proofs.YtnkjhooeklodcaaGreatDoor
open Go.RowKit Go.Maps Go.Sort

def numsOf (ss : List Nat) : List Value := ss.map fun (n : Nat) => Value.int .i64 (n : Int)
structure Xg (w : World) (F : Nat → Prop) (lb wb : Nat) (pre : List UInt8) (ev sv : Value) (es : List En) (ss : List Nat) (sure : Nat) (dead : Bool) : Prop where
  blk : Cw w lb [.pointer (some ⟨wb, 0, none⟩), encStr pre, ev, sv, .int .i64 (sure : Int), .bool dead] 32
  lF : F lb
  ent : w.ownsRow 0 38 1 ev es.length (enOf es)
  each : ∀ r ∈ es, Bs w r.1 r.2 ∧ Byt r.2 ∧ r.2.length ≤ 65536 ∧ ∀ k, r.1.ownBlock = some k → F k ∧ k ≠ lb ∧ ev.ownBlock ≠ some k ∧ sv.ownBlock ≠ some k ∧ k < w.heap.size
  seg : w.ownsRow 0 3 1 sv ss.length (numsOf ss)
  sep : (∀ k, ev.ownBlock = some k → F k ∧ k ≠ lb ∧ sv.ownBlock ≠ some k) ∧ ∀ k, sv.ownBlock = some k → F k ∧ k ≠ lb
  few : es.length ≤ 10000000 ∧ ss.length ≤ 10000000 ∧ sure ≤ 10000001 ∧ pre.length ≤ 64 ∧ ∀ n ∈ ss, n < 100000000
variable {w w' : World} {F : Nat → Prop} {lb wb : Nat} {pre : List UInt8} {ev sv : Value} {es : List En} {ss : List Nat} {sure : Nat} {dead : Bool}
theorem Xg.keep (h : Xg w F lb wb pre ev sv es ss sure dead) (hs : w.heap.size ≤ w'.heap.size) (hk : ∀ k, F k → k < w.heap.size → w'.heap[k]? = w.heap[k]?) : Xg w' F lb wb pre ev sv es ss sure dead := by
  refine ⟨h.blk.keep (hk _ h.lF h.blk.lt), h.lF, Fr.ownsRow_keep h.ent fun k hk' hlt => hk k (h.sep.1 k hk').1 hlt, fun r hr => ?_, Fr.ownsRow_keep h.seg fun k hk' hlt => hk k (h.sep.2 k hk').1 hlt, h.sep, h.few⟩
  have := h.each r hr
  exact ⟨this.1.keep fun k hk' hlt => hk k (this.2.2.2 k hk').1 hlt, this.2.1, this.2.2.1, fun k hk' => by
    have := this.2.2.2 k hk'
    exact ⟨this.1, this.2.1, this.2.2.1, this.2.2.2.1, by omega⟩⟩
theorem Xg.below (h : Xg w F lb wb pre ev sv es ss sure dead) (hb : Below w.heap.size w w') : Xg w' F lb wb pre ev sv es ss sure dead := h.keep hb.size fun k _ hk => hb.block k hk
theorem Xg.sm (h : Xg w F lb wb pre ev sv es ss sure dead) (hs : Sm w w') : Xg w' F lb wb pre ev sv es ss sure dead := h.keep (by rw [hs.heap]; exact Nat.le_refl _) fun k _ _ => by rw [hs.heap]
theorem Xg.more {G : Nat → Prop} (h : Xg w F lb wb pre ev sv es ss sure dead) (hg : ∀ k, F k → G k) : Xg w G lb wb pre ev sv es ss sure dead :=
  ⟨h.blk, hg _ h.lF, h.ent, fun r hr => ⟨(h.each r hr).1, (h.each r hr).2.1, (h.each r hr).2.2.1, fun k hk => ⟨hg _ ((h.each r hr).2.2.2 k hk).1, ((h.each r hr).2.2.2 k hk).2⟩⟩, h.seg, ⟨fun k hk => ⟨hg _ (h.sep.1 k hk).1, (h.sep.1 k hk).2⟩, fun k hk => ⟨hg _ (h.sep.2 k hk).1, (h.sep.2 k hk).2⟩⟩, h.few⟩
theorem Xg.evform (h : Xg w F lb wb pre ev sv es ss sure dead) : ∃ ao cap, ev = .slice ao es.length cap := by
  rcases h.ent.2 with ⟨rfl, h2⟩ | ⟨g, cap, cur, rfl, _⟩
  · exact ⟨none, 0, by rw [h2]⟩
  · exact ⟨_, cap, rfl⟩
theorem Xg.svform (h : Xg w F lb wb pre ev sv es ss sure dead) : ∃ ao cap, sv = .slice ao ss.length cap := by
  rcases h.seg.2 with ⟨rfl, h2⟩ | ⟨g, cap, cur, rfl, _⟩
  · exact ⟨none, 0, by rw [h2]⟩
  · exact ⟨_, cap, rfl⟩
theorem Xg.cell (h : Xg w F lb wb pre ev sv es ss sure dead) (i : Nat) (x : Value) {sure' : Nat} {dead' : Bool} (hb : [Value.pointer (some ⟨wb, 0, none⟩), encStr pre, ev, sv, .int .i64 (sure : Int), .bool dead].set i x = [.pointer (some ⟨wb, 0, none⟩), encStr pre, ev, sv, .int .i64 (sure' : Int), .bool dead']) (hs : sure' ≤ 10000001) : Xg (w.setCell ⟨lb, i, none⟩ x) F lb wb pre ev sv es ss sure' dead' := by
  have ho : ∀ k, k ≠ lb → (w.setCell ⟨lb, i, none⟩ x).heap[k]? = w.heap[k]? := fun k hk => set_other _ _ _ _ _ hk
  refine ⟨by have := h.blk.set i x; rw [hb] at this; exact this, h.lF, Fr.ownsRow_keep h.ent fun k hk _ => ho k (h.sep.1 k hk).2.1, fun r hr => ?_, Fr.ownsRow_keep h.seg fun k hk _ => ho k (h.sep.2 k hk).2, h.sep, ⟨h.few.1, h.few.2.1, hs, h.few.2.2.2⟩⟩
  have := h.each r hr
  exact ⟨this.1.keep fun k hk _ => ho k (this.2.2.2 k hk).2.1, this.2.1, this.2.2.1, fun k hk => by rw [set_size]; exact this.2.2.2 k hk⟩
theorem Xg.kill (h : Xg w F lb wb pre ev sv es ss sure dead) : Xg (w.setCell ⟨lb, 5, none⟩ (.bool true)) F lb wb pre ev sv es ss sure true := h.cell 5 _ rfl h.few.2.2.1
theorem Xg.setSure (h : Xg w F lb wb pre ev sv es ss sure dead) (n : Nat) (hn : n ≤ 10000001) : Xg (w.setCell ⟨lb, 4, none⟩ (.int .i64 (n : Int))) F lb wb pre ev sv es ss n dead := h.cell 4 _ rfl hn
set_option maxHeartbeats 2000000 in
set_option maxRecDepth 100000 in
theorem fail_any (e : Int) (w : World) (h : Xg w F lb wb pre ev sv es ss sure dead) :
    Calls Tryz.prog 54 #[.pointer (some ⟨lb, 0, none⟩), .int .i64 e] w fun r w' => r = .returned (.int .i64 e) ∧ w' = if e = 6 then w else w.setCell ⟨lb, 5, none⟩ (.bool true) := by
  have c5 : w.cell? ⟨lb, 5, none⟩ = some (.bool dead) := h.blk.cell 5
  have z5 : w.frozen? ⟨lb, 5, none⟩ = false := h.blk.frozen 5
  clear h
  by_cases h6 : e = 6
  · subst h6
    rw [if_pos rfl]
    go_enter Tryz.func54, Tryz.ntmps54
    go_wp2_with fail
    go_ret
    exact ⟨rfl, rfl⟩
  · rw [if_neg h6]
    have h7 : (e == 6) = false := beq_eq_false_iff_ne.2 h6
    go_enter Tryz.func54, Tryz.ntmps54
    go_wp2_with fail
    go_ret
    exact ⟨rfl, rfl⟩
set_option maxHeartbeats 2000000 in
set_option maxRecDepth 100000 in
theorem XEntry_no (n : Int) (w : World) (h : Xg w F lb wb pre ev sv es ss sure dead) (hn : n < 1 ∨ (es.length : Int) < n) :
    Calls Tryz.prog 43 #[.pointer (some ⟨lb, 0, none⟩), .int .i64 n] w fun e w' => e = .returned (.tuple #[.slice none 0 0, .int .i64 7]) ∧ w' = w := by
  obtain ⟨ae, ce, hee⟩ := h.evform
  subst hee
  have c2 : w.cell? ⟨lb, 2, none⟩ = some (.slice ae es.length ce) := h.blk.cell 2
  clear h
  generalize es.length = m at *
  by_cases h1 : n < 1
  · clear hn
    go_enter Tryz.func43, Tryz.ntmps43
    go_wp2_with fail
    go_ret2
    exact ⟨rfl, rfl⟩
  · have h2 : (m : Int) < n := hn.resolve_left h1
    clear hn
    go_enter Tryz.func43, Tryz.ntmps43
    go_wp2_with fail
    go_ret2
    exact ⟨rfl, rfl⟩
set_option maxHeartbeats 2000000 in
set_option maxRecDepth 100000 in
theorem XEntry_any (i : Nat) (r : En) (w : World) (h : Xg w F lb wb pre ev sv es ss sure dead) (hr : es[i]? = some r) :
    Calls Tryz.prog 43 #[.pointer (some ⟨lb, 0, none⟩), .int .i64 ((i : Int) + 1)] w fun e w' => ∃ ao cap, e = .returned (.tuple #[.slice ao r.2.length cap, .int .i64 0]) ∧ Ow w' w.heap.size (.slice ao r.2.length cap) r.2 ∧ Below w.heap.size w w' := by
  have hi : i < es.length := (List.getElem?_eq_some_iff.1 hr).1
  have hm := List.mem_of_getElem? hr
  have hbr := (h.each r hm).1
  have hlr := (h.each r hm).2.2.1
  have c2 : w.cell? ⟨lb, 2, none⟩ = some ev := h.blk.cell 2
  have hf := h.few
  rcases h.ent.2 with ⟨rfl, h0⟩ | ⟨g, cap, cur, rfl, hb, hg, hn, hc, hs, ht⟩
  · omega
  · have cn : w.cell? ⟨g, i, none⟩ = some r.1 := by
      have := World.ownsRow.cells h.ent (g := g) rfl i r.1 (by unfold enOf; rw [List.getElem?_map, hr]; rfl)
      simpa [Addr.add_lit] using this
    obtain ⟨ao, cp, hv, hm'⟩ := hbr.len
    rw [hv] at cn hbr
    have q1 : IntKind.i64.wrap ((i : Int) + 1 - 1) = (i : Int) := by rw [IntKind.wrap_i64]; omega
    have f1 : ¬ (i : Int) + 1 < 1 := by omega
    have f2 : ¬ (es.length : Int) < (i : Int) + 1 := by omega
    have f3 : (0 : Int) ≤ (i : Int) := by omega
    have f4 : (i : Int) < (es.length : Int) := by omega
    have HI : Hid (i < es.length) := hi
    have hA : Below w.heap.size w (w.alloc (.cells #[] 5)) := (Below.refl _ _).alloc (Nat.le_refl _) _
    have ho : Ow (w.alloc (.cells #[] 5)) w.heap.size (.slice (some ⟨w.heap.size, 0, none⟩) 0 0) [] := Ow_of_block (heap_alloc_new w _) (by simp) (Nat.le_refl _)
    have hbf : Bs (w.alloc (.cells #[] 5)) (.slice ao r.2.length cp) r.2 := hbr.below hA (Nat.le_refl _)
    have hlt1 := World.block_lt_of_cell? w _ c2
    have hlt2 := World.block_lt_of_cell? w _ cn
    simp only at hlt1 hlt2
    clear h hr hm hbr hg hn hc hs ht hv hi
    generalize es.length = n at *
    generalize r.2 = zs at *
    go_enter Tryz.func43, Tryz.ntmps43
    go_wp2_with (at_builtin; refine wpList_append_bs _ rfl (.tmp 17) (.tmp 25) rfl w.heap.size _ [] rfl ho (.slice ao zs.length cp) zs (by rfl) hbf (by simp; omega) (by simp) ?_)
    intro ao3 cap3 w3 ho3 hg3 hat3
    have ho3' : Ow w3 w.heap.size (.slice ao3 zs.length cap3) zs := by simpa using ho3
    have hB3 : Below w.heap.size w w3 := by
      refine hA.trans ⟨hg3.os, hg3.tape, hg3.output, hg3.size, fun q hq => hg3.block q (by simp; omega) (fun e => ?_)⟩
      have e' : q = w.heap.size := by simpa [Value.ownBlock] using e
      omega
    clear ho3 hg3 hat3 ho hbf
    go_wp2
    go_ret2
    exact ⟨_, _, by simp, ho3', hB3⟩
end Go.Proofs.YtnkjhooeklodcaaGreatDoor
end

section
/-
  The document's log over its disk (Xd); Names, size, Sync.
-/
namespace Go.Proofs.YtnkjhooeklodcaaGreatDoor
open Go.RowKit Go.Maps Go.Sort

variable {w w' : World} {D F : Nat → Prop} {lb wb : Nat} {u : Ud} {pre : List UInt8} {ev sv : Value} {es : List En} {ss : List Nat} {sure : Nat} {dead : Bool}
theorem Xg.segCell (h : Xg w F lb wb pre ev sv es ss sure dead) {g n cap : Nat} (hv : sv = .slice (some ⟨g, 0, none⟩) n cap) {i : Nat} {x : Nat} (hx : ss[i]? = some x) : w.cell? ⟨g, i, none⟩ = some (.int .i64 (x : Int)) := by
  subst hv
  have := World.ownsRow.cells h.seg (g := g) rfl i (.int .i64 (x : Int)) (by unfold numsOf; rw [List.getElem?_map, hx]; rfl)
  simpa [Addr.add_lit] using this
theorem Xg.segSome (h : Xg w F lb wb pre ev sv es ss sure dead) (hs : ss ≠ []) : ∃ g cap, sv = .slice (some ⟨g, 0, none⟩) ss.length cap := by
  rcases h.seg.2 with ⟨_, h2⟩ | ⟨g, cap, cur, rfl, _⟩
  · exact absurd (List.eq_nil_of_length_eq_zero h2) hs
  · exact ⟨g, cap, rfl⟩
def namesN (pre : List UInt8) (ss : List Nat) : List (List UInt8) := ss.map (nameN pre)
set_option maxHeartbeats 4000000 in
set_option maxRecDepth 100000 in
theorem XNames_any (w : World) (h : Xg w F lb wb pre ev sv es ss sure dead) :
    Calls Tryz.prog 40 #[.pointer (some ⟨lb, 0, none⟩)] w fun e w' => ∃ v, e = .returned v ∧ Ot w' w.heap.size v (namesN pre ss) ∧ Below w.heap.size w w' := by
  have hfew := h.few
  go_enter Tryz.func40, Tryz.ntmps40
  go_wp2_with fail
  go_loopw [3, 4] (fun o i wr => ∃ (k : Nat) (ao : Option Addr) (cap : Nat), k ≤ ss.length ∧ i = .int .i64 (k : Int) ∧ o = .slice ao k cap ∧ Ot wr w.heap.size o ((namesN pre ss).take k) ∧ Below w.heap.size w wr) (fun _ i _ => ss.length - (intOf i).toNat)
  case atStart => exact ⟨0, none, 0, by omega, rfl, rfl, ⟨by simp, Or.inl ⟨rfl, rfl⟩⟩, Below.refl _ _⟩
  case round =>
    obtain ⟨k, ao, cap, hk, rfl, rfl, hot, hB⟩ := hrel
    have hr := h.below hB
    have c1 : wr.cell? ⟨lb, 1, none⟩ = some (encStr pre) := hr.blk.cell 1
    have c3 : wr.cell? ⟨lb, 3, none⟩ = some sv := hr.blk.cell 3
    by_cases hlt : k < ss.length
    · obtain ⟨x, hx⟩ : ∃ x, ss[k]? = some x := ⟨_, List.getElem?_eq_getElem hlt⟩
      obtain ⟨g, cg, rfl⟩ := h.segSome (fun e => by rw [e] at hlt; simp at hlt)
      have cx : wr.cell? ⟨g, k, none⟩ = some (.int .i64 (x : Int)) := hr.segCell rfl hx
      have hx8 := hfew.2.2.2.2 x (List.mem_of_getElem? hx)
      have CN := fun w1 => name_ref pre x hx8 (by omega) w1
      have HT : Hid ((namesN pre ss).take (k + 1) = (namesN pre ss).take k ++ [nameN pre x]) := by
        show _ = _
        have e : (namesN pre ss)[k]? = some (nameN pre x) := by simp [namesN, hx]
        obtain ⟨hi, e2⟩ := List.getElem?_eq_some_iff.1 e
        rw [List.take_succ_eq_append_getElem hi, e2]
      have f1 : (0 : Int) ≤ (k : Int) := by omega
      have f2 : (k : Int) < (ss.length : Int) := by omega
      have hl1 := World.block_lt_of_cell? wr _ c1
      have hl2 := World.block_lt_of_cell? wr _ cx
      simp only at hl1 hl2
      have q1 : IntKind.i64.wrap ((k : Int) + 1) = ((k + 1 : Nat) : Int) := by rw [IntKind.wrap_i64]; omega
      generalize nameN pre x = nm at *
      have c1w : w.cell? ⟨lb, 1, none⟩ = some (encStr pre) := h.blk.cell 1
      have c3w : w.cell? ⟨lb, 3, none⟩ = some (.slice (some ⟨g, 0, none⟩) ss.length cg) := h.blk.cell 3
      have cxw : w.cell? ⟨g, k, none⟩ = some (.int .i64 (x : Int)) := h.segCell rfl hx
      have hw1 := World.block_lt_of_cell? w _ c1w
      have hw2 := World.block_lt_of_cell? w _ cxw
      simp only at hw1 hw2
      have hfrom : ∀ q, (Value.slice ao k cap).ownBlock = some q → w.heap.size ≤ q := fun q hq => (World.ownsRow.lt hot q hq).1
      have HF := hid_into hfrom
      have HW : Hid (w.cell? ⟨lb, 1, none⟩ = some (encStr pre) ∧ w.cell? ⟨lb, 3, none⟩ = some (.slice (some ⟨g, 0, none⟩) ss.length cg) ∧ w.cell? ⟨g, k, none⟩ = some (.int .i64 (x : Int)) ∧ lb < w.heap.size ∧ g < w.heap.size) := ⟨c1w, c3w, cxw, hw1, hw2⟩
      clear hr hfrom c1w c3w cxw hw1 hw2
      have hbase : Below w.heap.size w wr := hB
      go_wp2_with fail
      have lk : ((namesN pre ss).take k).length = k := by rw [List.length_take]; simp [namesN]; omega
      have HLK := hid_into lk
      have hlk9 : ((namesN pre ss).take k).length ≤ 1000000000 := by omega
      have HO := hid_into hot
      clear lk hot
      have HP : Hid (∀ w5, Below wr.heap.size wr w5 → Below wr.heap.size wr (w5.alloc (.cells #[encStr nm] 9)) ∧ Ot (w5.alloc (.cells #[encStr nm] 9)) w.heap.size (.slice ao k cap) ((namesN pre ss).take k) ∧ (w5.alloc (.cells #[encStr nm] 9)).cell? ⟨w5.heap.size, 0, none⟩ = some (encStr nm) ∧ w.heap.size ≤ (w5.alloc (.cells #[encStr nm] 9)).heap.size) := by
        intro w5 hb
        have hb2 := hb.alloc hb.size (.cells #[encStr nm] 9)
        refine ⟨hb2, ownsRow_below HO.out hb2, ?_, Nat.le_trans hbase.size hb2.size⟩
        rw [cell_of_row _ _ 0 _ _ _ (heap_alloc_new w5 _)]; rfl
      generalize (namesN pre ss).take k = L at *
      have HQ : Hid (∀ w5 w7 : World, Below wr.heap.size wr (w5.alloc (.cells #[encStr nm] 9)) → (w5.alloc (.cells #[encStr nm] 9)).grownBy w7 (Value.slice ao k cap).ownBlock → Below w.heap.size w w7 ∧ w7.cell? ⟨lb, 1, none⟩ = some (encStr pre) ∧ w7.cell? ⟨lb, 3, none⟩ = some (.slice (some ⟨g, 0, none⟩) ss.length cg) ∧ w7.cell? ⟨g, k, none⟩ = some (.int .i64 (x : Int))) := by
        intro w5 w7 hb hg7
        have hb2 : Below w.heap.size w (w5.alloc (.cells #[encStr nm] 9)) := hbase.trans (hb.mono hbase.size)
        have hb7 : Below w.heap.size w w7 := hb2.trans ⟨hg7.os, hg7.tape, hg7.output, hg7.size, fun q hq => hg7.block q (by have := hb2.size; omega) (fun e => by have := HF.out q e.symm; omega)⟩
        obtain ⟨k1, k2, k3, k4, k5⟩ := HW.out
        exact ⟨hb7, cell_below hb7 k1 k4, cell_below hb7 k2 k4, cell_below hb7 k3 k5⟩
      go_region_held3 (fun u => u.cell? ⟨lb, 1, none⟩ = some (encStr pre) ∧ u.cell? ⟨lb, 3, none⟩ = some (.slice (some ⟨g, 0, none⟩) ss.length cg) ∧ u.cell? ⟨g, k, none⟩ = some (.int .i64 (x : Int))) (first | exact ⟨c1, c3, cx⟩ | assumption)
        (first
          | (go_at_call 28; refine (CN _).mono ?_; rintro e w5 ⟨rfl, hB5⟩; replace hB5 : Below wr.heap.size wr w5 := ⟨hB5.os, hB5.tape, hB5.output, hB5.size, hB5.block⟩; have ht5 := And.intro (cell_below hB5 c1 hl1) (And.intro (cell_below hB5 c3 hl1) (cell_below hB5 cx hl2)); obtain ⟨hB6, hot6, hcl6, hsz6⟩ := HP.out w5 hB5; have ht6 := And.intro (cell_below hB6 c1 hl1) (And.intro (cell_below hB6 c3 hl1) (cell_below hB6 cx hl2)))
          | (refine step_append_nm rfl (.tmp 14) (.tmp 27) rfl w.heap.size (.slice ao k cap) L (by rfl) hot6 w5.heap.size nm (by rfl) hcl6 hlk9 hsz6 ?_; intro ao7 cap7 w7 ho7 hg7 hat7; obtain ⟨hB7, ht7⟩ := HQ.out w5 w7 hB6 ⟨hg7.os, hg7.tape, hg7.output, hg7.size, hg7.block⟩))
      rw [← HT.out] at ho7
      rw [show L.length + 1 = k + 1 by rw [HLK.out]] at *
      clear hg7 hat7 hot6 hcl6 hsz6 hB6 hB5 ht5 ht6 ht7 HP HQ HF HW HO
      go_wp2_with fail
      go_roundw
      case rel => exact ⟨k + 1, _, _, by omega, by go_num, rfl, ho7, hB7⟩
      case measure => simp [intOf]; omega
    · have hke : (namesN pre ss).take k = namesN pre ss := List.take_of_length_le (by simp [namesN]; omega)
      rw [hke] at hot
      obtain ⟨as1, cs1, hss⟩ := h.svform
      subst hss
      have f2 : ¬ (k : Int) < (ss.length : Int) := by omega
      clear hr h hke
      go_wp2_with fail
      go_ret
      exact ⟨_, rfl, hot, hB⟩
structure Xd (w : World) (D F : Nat → Prop) (lb wb : Nat) (u : Ud) (pre : List UInt8) (es : List En) (ss : List Nat) (sure : Nat) (dead : Bool) : Prop where
  d : Qd w D wb u
  l : ∃ ev sv, Xg w F lb wb pre ev sv es ss sure dead
  dl : ∀ k, D k → k < w.heap.size
  fl : ∀ k, F k → k < w.heap.size
  ap : ∀ k, D k → ¬ F k
def XRes (w : World) (D F : Nat → Prop) (lb wb : Nat) (pre : List UInt8) (u : Ud) (es : List En) (ss : List Nat) (sure : Nat) (dead : Bool) (w' : World) : Prop :=
  ∃ D' F', Xd w' D' F' lb wb u pre es ss sure dead ∧ (∀ k, D' k → D k ∨ w.heap.size ≤ k) ∧ (∀ k, F' k → F k ∨ w.heap.size ≤ k) ∧ Grows (fun k => D k ∨ F k) w w'
theorem Xd.below (h : Xd w D F lb wb u pre es ss sure dead) (hb : Below w.heap.size w w') : Xd w' D F lb wb u pre es ss sure dead := by
  obtain ⟨ev, sv, hl⟩ := h.l
  exact ⟨h.d.to hb, ⟨ev, sv, hl.below hb⟩, fun k hk => Nat.lt_of_lt_of_le (h.dl k hk) hb.size, fun k hk => Nat.lt_of_lt_of_le (h.fl k hk) hb.size, h.ap⟩
theorem XRes.refl (h : Xd w D F lb wb u pre es ss sure dead) (hb : Below w.heap.size w w') : XRes w D F lb wb pre u es ss sure dead w' :=
  ⟨D, F, h.below hb, fun _ hk => Or.inl hk, fun _ hk => Or.inl hk, ⟨hb.os, hb.tape, hb.output, hb.size, fun k hk _ => hb.block k hk⟩⟩
theorem XRes.disk (h : Xd w D F lb wb u pre es ss sure dead) {w1 : World} {u' : Ud} (hb : Below w.heap.size w w1) (hp : QRes D wb u' w1 w') : XRes w D F lb wb pre u' es ss sure dead w' := by
  obtain ⟨ev, sv, hl⟩ := h.l
  have hs := hb.size
  have hs2 := hp.2.size
  refine ⟨fun k => (D k ∨ w1.heap.size ≤ k) ∧ k < w'.heap.size, F, ⟨hp.1.more fun k hk hlt => ⟨hk, hlt⟩, ⟨ev, sv, (hl.below hb).keep hp.2.size fun k hk hlt => hp.2.block k hlt fun hd => h.ap k hd hk⟩, fun k hk => hk.2, fun k hk => by have := h.fl k hk; omega, fun k hk hf => ?_⟩, fun k hk => hk.1.imp id fun e => by omega, fun k hk => Or.inl hk, ⟨hp.2.os.trans hb.os, hp.2.tape.trans hb.tape, hp.2.output.trans hb.output, by omega, fun k hk hn => (hp.2.block k (by omega) fun e => hn (Or.inl e)).trans (hb.block k hk)⟩⟩
  rcases hk.1 with h1 | h1
  · exact h.ap k h1 hf
  · have := h.fl k hf
    omega
theorem XRes.cell {w1 : World} {sure' : Nat} {dead' : Bool} (h : XRes w D F lb wb pre u es ss sure dead w1) (i : Nat) (v : Value) (hl : ∀ F ev sv, Xg w1 F lb wb pre ev sv es ss sure dead → Xg (w1.setCell ⟨lb, i, none⟩ v) F lb wb pre ev sv es ss sure' dead') : XRes w D F lb wb pre u es ss sure' dead' (w1.setCell ⟨lb, i, none⟩ v) := by
  obtain ⟨D', F', h1, h2, h3, h4⟩ := h
  obtain ⟨ev, sv, hh⟩ := h1.l
  refine ⟨D', F', ⟨h1.d.keep fun k hk _ => set_other _ _ _ _ _ (fun e => h1.ap k hk (by rw [e]; exact hh.lF)), ⟨ev, sv, hl F' ev sv hh⟩, fun k hk => by rw [set_size]; exact h1.dl k hk, fun k hk => by rw [set_size]; exact h1.fl k hk, h1.ap⟩, h2, h3, ⟨h4.os, h4.tape, h4.output, by rw [set_size]; exact h4.size, fun k hk hn => ?_⟩⟩
  rw [set_other _ _ _ _ _ fun e => by
    subst e
    rcases h3 k hh.lF with e | e
    · exact hn (Or.inr e)
    · omega]
  exact h4.block k hk hn
theorem XRes.log {w1 : World} (h : XRes w D F lb wb pre u es ss sure dead w1) : ∃ F' ev sv, Xg w1 F' lb wb pre ev sv es ss sure dead := by
  obtain ⟨D', F', h1, _⟩ := h
  obtain ⟨ev, sv, hh⟩ := h1.l
  exact ⟨F', ev, sv, hh⟩
theorem XRes.after {w1 w2 : World} (hb : Below w.heap.size w w1) (h : XRes w1 D F lb wb pre u es ss sure dead w2) : XRes w D F lb wb pre u es ss sure dead w2 := by
  obtain ⟨D', F', h1, h2, h3, h4⟩ := h
  have hs := hb.size
  refine ⟨D', F', h1, fun k hk => (h2 k hk).imp id fun e => Nat.le_trans hs e, fun k hk => (h3 k hk).imp id fun e => Nat.le_trans hs e, ⟨h4.os.trans hb.os, h4.tape.trans hb.tape, h4.output.trans hb.output, Nat.le_trans hs h4.size, fun k hk hn => (h4.block k (by omega) hn).trans (hb.block k hk)⟩⟩
theorem XRes.then {w1 w2 : World} {D' F' : Nat → Prop} (hd : ∀ k, D' k → D k ∨ w.heap.size ≤ k) (hf : ∀ k, F' k → F k ∨ w.heap.size ≤ k) (hg : Grows (fun k => D k ∨ F k) w w1) (h : XRes w1 D' F' lb wb pre u es ss sure dead w2) : XRes w D F lb wb pre u es ss sure dead w2 := by
  obtain ⟨D2, F2, h1, h2, h3, h4⟩ := h
  have hs := hg.size
  refine ⟨D2, F2, h1, fun k hk => ?_, fun k hk => ?_, ⟨h4.os.trans hg.os, h4.tape.trans hg.tape, h4.output.trans hg.output, Nat.le_trans hs h4.size, fun k hk hn => ?_⟩⟩
  · rcases h2 k hk with e | e
    · exact hd k e
    · exact Or.inr (Nat.le_trans hs e)
  · rcases h3 k hk with e | e
    · exact hf k e
    · exact Or.inr (Nat.le_trans hs e)
  · refine (h4.block k (by omega) fun e => ?_).trans (hg.block k hk hn)
    rcases e with e | e
    · rcases hd k e with e | e
      · exact hn (Or.inl e)
      · omega
    · rcases hf k e with e | e
      · exact hn (Or.inr e)
      · omega
def lastS (ss : List Nat) : Nat := ss.getLast?.getD 0
theorem lastS_get (hs : ss ≠ []) : ∃ m, ss.length = m + 1 ∧ ss[m]? = some (lastS ss) := by
  refine ⟨ss.length - 1, ?_, ?_⟩
  · cases ss with
    | nil => exact absurd rfl hs
    | cons a l => simp
  · unfold lastS
    rw [List.getLast?_eq_getElem?]
    have : ss.length - 1 < ss.length := by cases ss with
      | nil => exact absurd rfl hs
      | cons a l => simp
    rw [List.getElem?_eq_getElem this]; rfl
theorem nameN_len (pre : List UInt8) (n : Nat) (h : n < 100000000) : (nameN pre n).length = pre.length + 8 := by
  have := decDigits_len8 n h
  rw [nameN_pad pre n h, List.length_append, List.length_append, List.length_replicate]
  omega
set_option maxHeartbeats 4000000 in
set_option maxRecDepth 100000 in
theorem size_any (w : World) (h : Xd w D F lb wb u pre es ss sure dead) (hg : Gd u) (hs : ss ≠ []) :
    Calls Tryz.prog 51 #[.pointer (some ⟨lb, 0, none⟩)] w fun e w' => e = .returned (.int .i64 ((at0U u.us (nameN pre (lastS ss))).1.length : Int)) ∧ Below w.heap.size w w' := by
  obtain ⟨ev, sv, hl⟩ := h.l
  obtain ⟨m, hm, hx⟩ := lastS_get hs
  obtain ⟨g, cg, rfl⟩ := hl.segSome hs
  have hfew := hl.few
  have hx8 := hfew.2.2.2.2 _ (List.mem_of_getElem? hx)
  have c0 : w.cell? ⟨lb, 0, none⟩ = some (.pointer (some ⟨wb, 0, none⟩)) := hl.blk.cell 0
  have c1 : w.cell? ⟨lb, 1, none⟩ = some (encStr pre) := hl.blk.cell 1
  have c3 : w.cell? ⟨lb, 3, none⟩ = some (.slice (some ⟨g, 0, none⟩) ss.length cg) := hl.blk.cell 3
  have cx : w.cell? ⟨g, m, none⟩ = some (.int .i64 (lastS ss : Int)) := hl.segCell rfl hx
  have hl1 := World.block_lt_of_cell? w _ c1
  have hl2 := World.block_lt_of_cell? w _ cx
  simp only at hl1 hl2
  have CN := fun w1 => name_ref pre (lastS ss) hx8 (by omega) w1
  have CR : Hid (∀ w1, Below w.heap.size w w1 → Calls Tryz.prog 46 #[.pointer (some ⟨wb, 0, none⟩), encStr (nameN pre (lastS ss))] w1 fun e w' => ∃ ao cap, e = .returned (.tuple #[.slice ao (at0U u.us (nameN pre (lastS ss))).1.length cap, .int .i64 (rdE u.us (nameN pre (lastS ss)))]) ∧ Below w.heap.size w w') := by
    intro w1 hb
    refine (qRead (h.d.to hb) hg _).mono ?_
    rintro e w2 ⟨ao, cap, rfl, _, hb2⟩
    exact ⟨ao, cap, rfl, hb.trans (hb2.mono hb.size)⟩
  have q1 : IntKind.i64.wrap ((ss.length : Int) - 1) = (m : Int) := by rw [IntKind.wrap_i64]; omega
  have f1 : (0 : Int) ≤ (m : Int) := by omega
  have f2 : (m : Int) < (ss.length : Int) := by omega
  clear h hl hx hs hm hfew
  generalize (at0U u.us (nameN pre (lastS ss))).1.length = z at *
  generalize rdE u.us (nameN pre (lastS ss)) = er at *
  generalize nameN pre (lastS ss) = nm at *
  generalize lastS ss = x at *
  generalize ss.length = n at *
  go_enter Tryz.func51, Tryz.ntmps51
  go_wp2_with fail
  go_region_held3 (fun u => u.cell? ⟨lb, 0, none⟩ = some (.pointer (some ⟨wb, 0, none⟩)) ∧ u.cell? ⟨lb, 1, none⟩ = some (encStr pre) ∧ u.cell? ⟨lb, 3, none⟩ = some (.slice (some ⟨g, 0, none⟩) n cg) ∧ u.cell? ⟨g, m, none⟩ = some (.int .i64 (x : Int))) (first | exact ⟨c0, c1, c3, cx⟩ | assumption)
    (first
      | (go_at_call 28; refine (CN _).mono ?_; rintro e w5 ⟨rfl, hB5⟩; replace hB5 : Below w.heap.size w w5 := ⟨hB5.os, hB5.tape, hB5.output, hB5.size, hB5.block⟩; have ht5 := And.intro (cell_below hB5 c0 hl1) (And.intro (cell_below hB5 c1 hl1) (And.intro (cell_below hB5 c3 hl1) (cell_below hB5 cx hl2))))
      | (go_at_call 46; refine (CR.out _ hB5).mono ?_; rintro e w6 ⟨ao6, cap6, rfl, hB6⟩; have ht6 := And.intro (cell_below hB6 c0 hl1) (And.intro (cell_below hB6 c1 hl1) (And.intro (cell_below hB6 c3 hl1) (cell_below hB6 cx hl2)))))
  go_wp2_with fail
  go_ret
  exact ⟨rfl, hB6⟩
end Go.Proofs.YtnkjhooeklodcaaGreatDoor
end

section
/-
  The document's log: Sync.
-/
namespace Go.Proofs.YtnkjhooeklodcaaGreatDoor
open Go.RowKit Go.Maps Go.Sort

variable {w w' : World} {D F : Nat → Prop} {lb wb : Nat} {u : Ud} {pre : List UInt8} {ev sv : Value} {es : List En} {ss : List Nat} {sure : Nat} {dead : Bool}
def syX (u : Ud) (n sure : Nat) (x : List UInt8) (dead : Bool) : Int × Ud × Nat × Bool :=
  if dead = true then (9, u, sure, dead) else if sure = n + 1 then (0, u, sure, dead)
  else ((u.five [x] (syU x)).1, (u.five [x] (syU x)).2, if (u.five [x] (syU x)).1 = 0 then n + 1 else sure, if (u.five [x] (syU x)).1 = 0 then dead else true)
set_option maxHeartbeats 4000000 in
set_option maxRecDepth 100000 in
theorem XSync_any (w : World) (h : Xd w D F lb wb u pre es ss sure dead) (hg : Gd u) (hs : sure ≠ es.length + 1 → ss ≠ []) :
    Calls Tryz.prog 19 #[.pointer (some ⟨lb, 0, none⟩)] w fun e w' => e = .returned (.int .i64 (syX u es.length sure (nameN pre (lastS ss)) dead).1) ∧
      XRes w D F lb wb pre (syX u es.length sure (nameN pre (lastS ss)) dead).2.1 es ss (syX u es.length sure (nameN pre (lastS ss)) dead).2.2.1 (syX u es.length sure (nameN pre (lastS ss)) dead).2.2.2 w' := by
  obtain ⟨ev, sv, hl⟩ := h.l
  obtain ⟨ae, ce, hee⟩ := hl.evform
  subst hee
  have hfew := hl.few
  have c2 : w.cell? ⟨lb, 2, none⟩ = some (.slice ae es.length ce) := hl.blk.cell 2
  have c4 : w.cell? ⟨lb, 4, none⟩ = some (.int .i64 (sure : Int)) := hl.blk.cell 4
  have c5 : w.cell? ⟨lb, 5, none⟩ = some (.bool dead) := hl.blk.cell 5
  have q1 : IntKind.i64.wrap ((es.length : Int) + 1) = (es.length : Int) + 1 := by rw [IntKind.wrap_i64]; omega
  cases dead with
  | true =>
    have HR : Hid (XRes w D F lb wb pre u es ss sure true w) := XRes.refl h (Below.refl _ _)
    clear h hl
    go_enter Tryz.func19, Tryz.ntmps19
    go_wp2_with fail
    go_ret
    exact ⟨rfl, HR.out⟩
  | false =>
    by_cases hle : sure = es.length + 1
    · have HE : Hid (syX u es.length sure (nameN pre (lastS ss)) false = (0, u, sure, false)) := by
        show _ = _
        unfold syX
        rw [if_neg (by decide), if_pos hle]
      have HR : Hid (∀ w', Sm w w' → XRes w D F lb wb pre u es ss sure false w') := fun w' hs => XRes.refl h (Sm.below' hs)
      have hq : ((sure : Int) == (es.length : Int) + 1) = true := by simp [hle]
      rw [HE.out]
      clear h hl HE hle hs
      go_enter Tryz.func19, Tryz.ntmps19
      go_wp2_with fail
      go_quiet (fail)
      go_wp2
      go_ret
      exact ⟨rfl, HR.out _ (Sm.drewN _ _)⟩
    · have hss := hs hle
      obtain ⟨m, hm, hx⟩ := lastS_get hss
      obtain ⟨g, cg, rfl⟩ := hl.segSome hss
      have hx8 := hfew.2.2.2.2 _ (List.mem_of_getElem? hx)
      have HE : Hid (syX u es.length sure (nameN pre (lastS ss)) false = ((u.five [nameN pre (lastS ss)] (syU (nameN pre (lastS ss)))).1, (u.five [nameN pre (lastS ss)] (syU (nameN pre (lastS ss)))).2, if (u.five [nameN pre (lastS ss)] (syU (nameN pre (lastS ss)))).1 = 0 then es.length + 1 else sure, if (u.five [nameN pre (lastS ss)] (syU (nameN pre (lastS ss)))).1 = 0 then false else true)) := by
        show _ = _
        unfold syX
        rw [if_neg (by decide), if_neg hle]
      have hq : ((sure : Int) == (es.length : Int) + 1) = false := by
        have : ¬ (sure : Int) = (es.length : Int) + 1 := by omega
        simp [this]
      have c0 : w.cell? ⟨lb, 0, none⟩ = some (.pointer (some ⟨wb, 0, none⟩)) := hl.blk.cell 0
      have c1 : w.cell? ⟨lb, 1, none⟩ = some (encStr pre) := hl.blk.cell 1
      have c3 : w.cell? ⟨lb, 3, none⟩ = some (.slice (some ⟨g, 0, none⟩) ss.length cg) := hl.blk.cell 3
      have cx : w.cell? ⟨g, m, none⟩ = some (.int .i64 (lastS ss : Int)) := hl.segCell rfl hx
      have hl1 := World.block_lt_of_cell? w _ c1
      have hl2 := World.block_lt_of_cell? w _ cx
      simp only at hl1 hl2
      have CN := fun w1 => name_ref pre (lastS ss) hx8 (by omega) w1
      have hnl := nameN_len pre (lastS ss) hx8
      have CS : Hid (∀ w1, Below w.heap.size w w1 → Calls Tryz.prog 58 #[.pointer (some ⟨wb, 0, none⟩), encStr (nameN pre (lastS ss))] w1 fun e w' => e = .returned (.int .i64 (u.five [nameN pre (lastS ss)] (syU (nameN pre (lastS ss)))).1) ∧ XRes w D F lb wb pre (u.five [nameN pre (lastS ss)] (syU (nameN pre (lastS ss)))).2 es ss sure false w' ∧ w'.cell? ⟨lb, 0, none⟩ = some (.pointer (some ⟨wb, 0, none⟩)) ∧ w'.cell? ⟨lb, 1, none⟩ = some (encStr pre) ∧ w'.cell? ⟨lb, 3, none⟩ = some (.slice (some ⟨g, 0, none⟩) ss.length cg) ∧ w'.cell? ⟨g, m, none⟩ = some (.int .i64 (lastS ss : Int)) ∧ w'.cell? ⟨lb, 2, none⟩ = some (.slice ae es.length ce)) := by
        intro w1 hb
        refine (qSync (h.d.to hb) hg _ (by omega)).mono ?_
        rintro e w2 ⟨rfl, hp⟩
        have hl' := (hl.below hb).keep hp.2.size fun k hk hlt => hp.2.block k hlt fun hd => h.ap k hd hk
        exact ⟨rfl, XRes.disk h hb hp, hl'.blk.cell 0, hl'.blk.cell 1, hl'.blk.cell 3, hl'.segCell rfl hx, hl'.blk.cell 2⟩
      have q2 : IntKind.i64.wrap ((ss.length : Int) - 1) = (m : Int) := by rw [IntKind.wrap_i64]; omega
      have f1 : (0 : Int) ≤ (m : Int) := by omega
      have f2 : (m : Int) < (ss.length : Int) := by omega
      rw [HE.out]
      have HL9 : Hid (es.length + 1 ≤ 10000001) := by show _ ≤ _; omega
      clear h hl hx hs hss hm hfew hle HE hnl
      generalize u.five [nameN pre (lastS ss)] (syU (nameN pre (lastS ss))) = r at *
      generalize nameN pre (lastS ss) = nm at *
      generalize lastS ss = x at *
      generalize hnn : ss.length = n at *
      clear hnn
      obtain ⟨r1, r2⟩ := r
      simp only at CS ⊢
      go_enter Tryz.func19, Tryz.ntmps19
      go_wp2_with fail
      go_quiet (fail)
      go_wp2_with fail
      go_region_held3 (fun u => u.cell? ⟨lb, 0, none⟩ = some (.pointer (some ⟨wb, 0, none⟩)) ∧ u.cell? ⟨lb, 1, none⟩ = some (encStr pre) ∧ u.cell? ⟨lb, 3, none⟩ = some (.slice (some ⟨g, 0, none⟩) n cg) ∧ u.cell? ⟨g, m, none⟩ = some (.int .i64 (x : Int))) (first | exact ⟨c0, c1, c3, cx⟩ | assumption)
        (first
          | (go_at_call 28; refine (CN _).mono ?_; rintro e w5 ⟨rfl, hB5⟩; replace hB5 : Below w.heap.size w w5 := ⟨hB5.os, hB5.tape, hB5.output, hB5.size, hB5.block⟩; have ht5 := And.intro (cell_below hB5 c0 hl1) (And.intro (cell_below hB5 c1 hl1) (And.intro (cell_below hB5 c3 hl1) (cell_below hB5 cx hl2))))
          | (go_at_call 58; refine (CS.out _ hB5).mono ?_; rintro e w6 ⟨rfl, hR6, k0, k1, k3, kx, k2⟩; have ht6 := And.intro k0 (And.intro k1 (And.intro k3 kx))))
      obtain ⟨F6, ev6, sv6, hl6⟩ := hR6.log
      have HR := hid_into hR6
      have HL := hid_into hl6
      clear hR6 CS CN ht5 ht6 hB5
      by_cases h0 : r1 = 0
      · subst h0
        have c4' : w6.cell? ⟨lb, 4, none⟩ = some (.int .i64 (sure : Int)) := hl6.blk.cell 4
        have z4 : w6.frozen? ⟨lb, 4, none⟩ = false := hl6.blk.frozen 4
        clear hl6
        go_wp2_with fail
        go_ret
        refine ⟨rfl, ?_⟩
        exact HR.out.cell 4 _ fun _ _ _ hh => hh.setSure (es.length + 1) HL9.out
      · have h7 : (r1 == 0) = false := beq_eq_false_iff_ne.2 h0
        have c5' : w6.cell? ⟨lb, 5, none⟩ = some (.bool false) := hl6.blk.cell 5
        have z5 : w6.frozen? ⟨lb, 5, none⟩ = false := hl6.blk.frozen 5
        clear hl6
        go_wp2_with fail
        go_ret
        refine ⟨rfl, ?_⟩
        exact HR.out.cell 5 _ fun _ _ _ hh => hh.kill
end Go.Proofs.YtnkjhooeklodcaaGreatDoor
end
