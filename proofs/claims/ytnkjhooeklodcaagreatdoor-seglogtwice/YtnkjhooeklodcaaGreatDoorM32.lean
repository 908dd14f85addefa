/-
  Joined from: SegClo, SegApi, SegSync, SegAsk, SegLay.
-/
import Derived.Test.YtnkjhooeklodcaaGreatDoorM31
section
/-
  with, into: methods that are handed, or answer, more than a name; what they make, and what that does.
-/
namespace Go.Proofs.YtnkjhooeklodcaaGreatDoor
open Go.RowKit Go.Maps Go.Sort

structure Two (w w' : World) (a b : Value) : Prop where
  fst : w'.cell? ⟨w.heap.size, 0, none⟩ = some a
  snd : w'.cell? ⟨w.heap.size + 1, 0, none⟩ = some b
  size : w'.heap.size = w.heap.size + 2
  below : Below w.heap.size w w'
theorem Two.mk' (w : World) (a b : Value) (s t : TypeId) : Two w ((w.alloc (.cells #[a] s)).alloc (.cells #[b] t)) a b := by
  refine ⟨?_, ?_, ?_, ?_⟩
  · rw [World.cell?_of_block (w := w.alloc (.cells #[a] s)) (Below.heap_alloc _ _ _ (by rw [World.size_alloc]; simp))]
    rw [cell_of_row (w.alloc (.cells #[a] s)) w.heap.size 0 _ _ _ (heap_alloc_new w _)]
    rfl
  · have := heap_alloc_new (w.alloc (.cells #[a] s)) (.cells #[b] t)
    rw [World.size_alloc] at this
    rw [cell_of_row _ _ 0 _ _ _ this]
    rfl
  · rw [World.size_alloc, World.size_alloc]
  · exact ((Below.refl _ _).alloc (Nat.le_refl _) _).alloc (by rw [World.size_alloc]; omega) _
set_option maxHeartbeats 2000000 in
set_option maxRecDepth 100000 in
theorem withB_any (g : Nat) (ao : Option Addr) (n cap : Nat) (w : World) :
    Calls Tryz.prog 78 #[.func (.func g) #[] #[], .slice ao n cap] w fun e w' => e = .returned (.func (.func 101) #[] #[.pointer (some ⟨w.heap.size, 0, none⟩), .pointer (some ⟨w.heap.size + 1, 0, none⟩)]) ∧ Two w w' (.func (.func g) #[] #[]) (.slice ao n cap) := by
  go_enter Tryz.func78, Tryz.ntmps78
  go_wp2
  go_ret
  exact ⟨rfl, Two.mk' _ _ _ _ _⟩
set_option maxHeartbeats 2000000 in
set_option maxRecDepth 100000 in
theorem cloB_any (g : Nat) (eg : ∀ args w, (callFunc g args).run Tryz.prog w = .ok (.enter g args) w) (ao : Option Addr) (n cap : Nat) (d x : Value) (p : Nat) (w : World) (R : Int → World → Prop)
    (c0 : w.cell? ⟨p, 0, none⟩ = some (.func (.func g) #[] #[])) (c1 : w.cell? ⟨p + 1, 0, none⟩ = some (.slice ao n cap))
    (C : Calls Tryz.prog g #[d, x, .slice ao n cap] w fun e w' => ∃ er, e = .returned (.int .i64 er) ∧ R er w') :
    Calls Tryz.prog 101 #[d, x, .pointer (some ⟨p, 0, none⟩), .pointer (some ⟨p + 1, 0, none⟩)] w fun e w' => ∃ er, e = .returned (.int .i64 er) ∧ R er w' := by
  go_enter Tryz.func101, Tryz.ntmps101
  go_wp2_with fail
  refine C.mono ?_
  rintro e w1 ⟨er, rfl, hR⟩
  have HR : Hid (R er w1) := hR
  clear hR C c0 c1
  go_wp2_with fail
  go_ret
  exact ⟨er, rfl, HR.out⟩
set_option maxHeartbeats 2000000 in
set_option maxRecDepth 100000 in
theorem withI_any (g : Nat) (x1 : Int) (w : World) :
    Calls Tryz.prog 114 #[.func (.func g) #[] #[], .int .i64 x1] w fun e w' => e = .returned (.func (.func 132) #[] #[.pointer (some ⟨w.heap.size, 0, none⟩), .pointer (some ⟨w.heap.size + 1, 0, none⟩)]) ∧ Two w w' (.func (.func g) #[] #[]) (.int .i64 x1) := by
  go_enter Tryz.func114, Tryz.ntmps114
  go_wp2
  go_ret
  exact ⟨rfl, Two.mk' _ _ _ _ _⟩
set_option maxHeartbeats 2000000 in
set_option maxRecDepth 100000 in
theorem cloI_any (g : Nat) (eg : ∀ args w, (callFunc g args).run Tryz.prog w = .ok (.enter g args) w) (x1 : Int) (d x : Value) (p : Nat) (w : World) (R : Int → World → Prop)
    (c0 : w.cell? ⟨p, 0, none⟩ = some (.func (.func g) #[] #[])) (c1 : w.cell? ⟨p + 1, 0, none⟩ = some (.int .i64 x1))
    (C : Calls Tryz.prog g #[d, x, .int .i64 x1] w fun e w' => ∃ er, e = .returned (.int .i64 er) ∧ R er w') :
    Calls Tryz.prog 132 #[d, x, .pointer (some ⟨p, 0, none⟩), .pointer (some ⟨p + 1, 0, none⟩)] w fun e w' => ∃ er, e = .returned (.int .i64 er) ∧ R er w' := by
  go_enter Tryz.func132, Tryz.ntmps132
  go_wp2_with fail
  refine C.mono ?_
  rintro e w1 ⟨er, rfl, hR⟩
  have HR : Hid (R er w1) := hR
  clear hR C c0 c1
  go_wp2_with fail
  go_ret
  exact ⟨er, rfl, HR.out⟩
set_option maxHeartbeats 2000000 in
set_option maxRecDepth 100000 in
theorem into_any (g : Nat) (t : Addr) (w : World) :
    Calls Tryz.prog 87 #[.pointer (some t), .func (.func g) #[] #[]] w fun e w' => e = .returned (.func (.func 110) #[] #[.pointer (some ⟨w.heap.size + 1, 0, none⟩), .pointer (some ⟨w.heap.size, 0, none⟩)]) ∧ Two w w' (.pointer (some t)) (.func (.func g) #[] #[]) := by
  go_enter Tryz.func87, Tryz.ntmps87
  go_wp2
  go_ret
  exact ⟨rfl, Two.mk' _ _ _ _ _⟩
set_option maxHeartbeats 2000000 in
set_option maxRecDepth 100000 in
theorem segs_any (g : Nat) (t : Addr) (w : World) :
    Calls Tryz.prog 86 #[.pointer (some t), .func (.func g) #[] #[]] w fun e w' => e = .returned (.func (.func 108) #[] #[.pointer (some ⟨w.heap.size + 1, 0, none⟩), .pointer (some ⟨w.heap.size, 0, none⟩)]) ∧ Two w w' (.pointer (some t)) (.func (.func g) #[] #[]) := by
  go_enter Tryz.func86, Tryz.ntmps86
  go_wp2
  go_ret
  exact ⟨rfl, Two.mk' _ _ _ _ _⟩
set_option maxHeartbeats 2000000 in
set_option maxRecDepth 100000 in
theorem cloR_any (g : Nat) (eg : ∀ args w, (callFunc g args).run Tryz.prog w = .ok (.enter g args) w) (d x : Value) (p t : Nat) (w : World) (R : Value → Int → World → Prop)
    (c0 : w.cell? ⟨p, 0, none⟩ = some (.pointer (some ⟨t, 0, none⟩))) (c1 : w.cell? ⟨p + 1, 0, none⟩ = some (.func (.func g) #[] #[]))
    (C : Calls Tryz.prog g #[d, x] w fun e w' => ∃ ao n cap er, e = .returned (.tuple #[.slice ao n cap, .int .i64 er]) ∧ R (.slice ao n cap) er w' ∧ w'.heap[p]? = w.heap[p]? ∧ (∃ u, Cw w' t [u] 38)) :
    Calls Tryz.prog 110 #[d, x, .pointer (some ⟨p + 1, 0, none⟩), .pointer (some ⟨p, 0, none⟩)] w fun e w' => ∃ v er w1, e = .returned (.int .i64 er) ∧ R v er w1 ∧ (∃ u, Cw w1 t [u] 38) ∧ w' = w1.setCell ⟨t, 0, none⟩ v := by
  go_enter Tryz.func110, Tryz.ntmps110
  go_wp2_with fail
  refine C.mono ?_
  rintro e w1 ⟨ao, n, cap, er, rfl, hR, hp, u, hu⟩
  have c2 : w1.cell? ⟨p, 0, none⟩ = some (.pointer (some ⟨t, 0, none⟩)) := by
    rw [World.cell?_of_block hp]; exact c0
  have ct : w1.cell? ⟨t, 0, none⟩ = some u := hu.cell 0
  have ft : w1.frozen? ⟨t, 0, none⟩ = false := hu.frozen 0
  have HR : Hid (R (.slice ao n cap) er w1) := hR
  have HU : Hid (∃ u, Cw w1 t [u] 38) := ⟨u, hu⟩
  clear hR C c0 c1 hu hp
  go_wp2_with fail
  go_ret
  exact ⟨_, er, w1, rfl, HR.out, HU.out, rfl⟩
end Go.Proofs.YtnkjhooeklodcaaGreatDoor
end

section
/-
  Next, Entry, Names: what a log tells of itself; and of a nil one, with Append and Sync.
-/
namespace Go.Proofs.YtnkjhooeklodcaaGreatDoor
open Go.RowKit Go.Maps Go.Sort

variable {F : Nat → Prop} {lb sb : Nat} {pre : List UInt8} {ev nv : Value} {es : List En} {las : Nat} {ns : List (List UInt8)} {sz : Nat} {dead : Bool}
set_option maxHeartbeats 2000000 in
set_option maxRecDepth 100000 in
theorem LNext_nil (w : World) : Calls Tryz.prog 24 #[.pointer none] w fun e w' => e = .returned (.tuple #[.int .i64 0, .int .i64 0]) ∧ w' = w := by
  go_enter Tryz.func24, Tryz.ntmps24
  go_wp2
  go_ret2
  exact ⟨rfl, rfl⟩
set_option maxHeartbeats 2000000 in
set_option maxRecDepth 100000 in
theorem LNext_any (w : World) (h : Lg w F lb sb pre ev nv es las ns sz dead) :
    Calls Tryz.prog 24 #[.pointer (some ⟨lb, 0, none⟩)] w fun e w' => e = .returned (.tuple #[.int .i64 ((es.length : Int) + 1), .int .i64 ((las : Int) + 1)]) ∧ Sm w w' := by
  have CN := fun (w1 : World) (hs : Sm w w1) => next_any w1 (h.sm hs)
  have c3 : w.cell? ⟨lb, 3, none⟩ = some (.int .i64 (las : Int)) := h.blk.cell 3
  have q1 : IntKind.i64.wrap ((las : Int) + 1) = (las : Int) + 1 := by
    have := h.few
    rw [IntKind.wrap_i64]; omega
  clear h
  go_enter Tryz.func24, Tryz.ntmps24
  go_wp2_with fail
  go_quiet ((go_at_call 49; refine Calls.quiet_of_same ((CN _ (Sm.drewN _ _)).mono fun _ _ h => ⟨h.1, h.2⟩)))
  go_wp2
  go_ret2
  exact ⟨rfl, Sm.drewN _ _⟩
set_option maxHeartbeats 2000000 in
set_option maxRecDepth 100000 in
theorem LEntry_nil (n : Int) (w : World) : Calls Tryz.prog 25 #[.pointer none, .int .i64 n] w fun e w' => e = .returned (.tuple #[.slice none 0 0, .int .i64 7]) ∧ w' = w := by
  go_enter Tryz.func25, Tryz.ntmps25
  go_wp2
  go_ret2
  exact ⟨rfl, rfl⟩
set_option maxHeartbeats 2000000 in
set_option maxRecDepth 100000 in
theorem LEntry_no (n : Int) (w : World) (h : Lg w F lb sb pre ev nv es las ns sz dead) (hn : n < 1 ∨ (es.length : Int) < n) :
    Calls Tryz.prog 25 #[.pointer (some ⟨lb, 0, none⟩), .int .i64 n] w fun e w' => e = .returned (.tuple #[.slice none 0 0, .int .i64 7]) ∧ w' = w := by
  obtain ⟨ao, cap, rfl⟩ := h.evform
  have c2 : w.cell? ⟨lb, 2, none⟩ = some (.slice ao es.length cap) := h.blk.cell 2
  clear h
  by_cases h1 : n < 1
  · clear hn
    go_enter Tryz.func25, Tryz.ntmps25
    go_wp2_with fail
    go_ret2
    exact ⟨rfl, rfl⟩
  · have h2 : (es.length : Int) < n := hn.resolve_left h1
    clear hn
    go_enter Tryz.func25, Tryz.ntmps25
    go_wp2_with fail
    go_ret2
    exact ⟨rfl, rfl⟩
set_option maxHeartbeats 2000000 in
set_option maxRecDepth 100000 in
theorem LEntry_any (i : Nat) (r : En) (w : World) (h : Lg w F lb sb pre ev nv es las ns sz dead) (hr : es[i]? = some r) :
    Calls Tryz.prog 25 #[.pointer (some ⟨lb, 0, none⟩), .int .i64 ((i : Int) + 1)] w fun e w' => ∃ ao cap, e = .returned (.tuple #[.slice ao r.2.length cap, .int .i64 0]) ∧ Ow w' w.heap.size (.slice ao r.2.length cap) r.2 ∧ Below w.heap.size w w' := by
  have hi : i < es.length := (List.getElem?_eq_some_iff.1 hr).1
  have hm := List.mem_of_getElem? hr
  have hbr := (h.each r hm).1
  have hlr := (h.each r hm).2.2.1
  have c2 : w.cell? ⟨lb, 2, none⟩ = some ev := h.blk.cell 2
  have hf := h.few
  rcases h.ent.2 with ⟨rfl, h0⟩ | ⟨g, cap, cur, rfl, hb, hg, hn, hc, hs, ht⟩
  · omega
  · have cn : w.cell? ⟨g, i, none⟩ = some r.1 := by
      have := World.ownsRow.cells h.ent (g := g) rfl i r.1 (by unfold enOf; rw [List.getElem?_map, hr]; rfl)
      simpa [Addr.add_lit] using this
    obtain ⟨ao, cp, hv, hm'⟩ := hbr.len
    have C := clone_any r.1 r.2 w hbr (by omega)
    rw [hv] at cn C
    have q1 : IntKind.i64.wrap ((i : Int) + 1 - 1) = (i : Int) := by rw [IntKind.wrap_i64]; omega
    have f1 : ¬ (i : Int) + 1 < 1 := by omega
    have f2 : ¬ (es.length : Int) < (i : Int) + 1 := by omega
    have f3 : (0 : Int) ≤ (i : Int) := by omega
    have f4 : (i : Int) < (es.length : Int) := by omega
    have HI : Hid (i < es.length) := hi
    clear h hr hm hbr hg hn hc hs ht hv hi
    generalize es.length = n at *
    generalize r.2 = zs at *
    go_enter Tryz.func25, Tryz.ntmps25
    go_wp2_with (go_at_call 50; refine C.mono ?_; rintro e w1 ⟨a1, c1, rfl, ho, hB⟩)
    go_ret2
    exact ⟨_, _, rfl, ho, hB⟩
set_option maxHeartbeats 2000000 in
set_option maxRecDepth 100000 in
theorem LNames_nil (w : World) : Calls Tryz.prog 33 #[.pointer none] w fun e w' => e = .returned (.slice none 0 0) ∧ w' = w := by
  go_enter Tryz.func33, Tryz.ntmps33
  go_wp2
  go_ret
  exact ⟨rfl, rfl⟩
theorem cloneN_any (v : Value) (ns : List (List UInt8)) (w : World) (h : Ot w 0 v ns) (hl : ns.length ≤ 10000000) :
    Calls Tryz.prog 72 #[v] w fun e w' => ∃ v', e = .returned v' ∧ Ot w' w.heap.size v' ns ∧ Below w.heap.size w w' := by
  rcases h.2 with ⟨rfl, h0⟩ | ⟨g, cap, cur, rfl, hb, hg, hn, hc, hs, ht⟩
  · obtain rfl : ns = [] := List.eq_nil_of_length_eq_zero h0
    refine (sh_slices_Clone_string_nil 0 0 w).mono ?_
    rintro e w' ⟨rfl, rfl⟩
    exact ⟨_, rfl, World.ownsRow_nil _ _ _ _, Below.refl _ _⟩
  · refine (sh_slices_Clone_string g 0 ns.length cap (ns.map fun l => ⟨l.toArray⟩) w (by simp) (by omega) ?_).mono ?_
    · intro j hj
      have hj' : j < ns.length := by simpa using hj
      have := World.ownsRow.cells h (g := g) rfl j (encStr ns[j]) (by rw [List.getElem?_map, List.getElem?_eq_getElem hj']; rfl)
      simp only [Addr.add_lit, Nat.zero_add] at this ⊢
      rw [this]
      simp [List.getD, hj']
    · rintro e w' ⟨v', rfl, ho, _, hB⟩
      refine ⟨v', rfl, ?_, hB⟩
      unfold Ot
      rw [List.take_of_length_le (by simp), List.map_map] at ho
      exact ho
set_option maxHeartbeats 2000000 in
set_option maxRecDepth 100000 in
theorem LNames_any (w : World) (h : Lg w F lb sb pre ev nv es las ns sz dead) :
    Calls Tryz.prog 33 #[.pointer (some ⟨lb, 0, none⟩)] w fun e w' => ∃ v', e = .returned v' ∧ Ot w' w.heap.size v' ns ∧ Below w.heap.size w w' := by
  have c4 : w.cell? ⟨lb, 4, none⟩ = some nv := h.blk.cell 4
  have C := cloneN_any nv ns w h.nam (by have := h.few; omega)
  clear h
  go_enter Tryz.func33, Tryz.ntmps33
  go_wp2_with (go_at_call 72; refine C.mono ?_; rintro e w1 ⟨v', rfl, ho, hB⟩)
  go_ret
  exact ⟨_, rfl, ho, hB⟩
set_option maxHeartbeats 2000000 in
set_option maxRecDepth 100000 in
theorem LSync_nil (w : World) : Calls Tryz.prog 18 #[.pointer none] w fun e w' => e = .returned (.int .i64 1) ∧ w' = w := by
  go_enter Tryz.func18, Tryz.ntmps18
  go_wp2
  go_ret
  exact ⟨rfl, rfl⟩
set_option maxHeartbeats 2000000 in
set_option maxRecDepth 100000 in
theorem LAppend_nil (v : Value) (w : World) : Calls Tryz.prog 16 #[.pointer none, v] w fun e w' => e = .returned (.tuple #[.int .i64 0, .int .i64 1]) ∧ w' = w := by
  go_enter Tryz.func16, Tryz.ntmps16
  go_wp2
  go_ret2
  exact ⟨rfl, rfl⟩
end Go.Proofs.YtnkjhooeklodcaaGreatDoor
end

section
/-
  A log and its disk (Ld); Sync.
-/
namespace Go.Proofs.YtnkjhooeklodcaaGreatDoor
open Go.RowKit Go.Maps Go.Sort

structure Ld (w : World) (D F : Nat → Prop) (lb sb : Nat) (u : Ud) (pre : List UInt8) (es : List En) (las : Nat) (ns : List (List UInt8)) (sz : Nat) (dead : Bool) : Prop where
  d : Pd w D sb u
  l : ∃ ev nv, Lg w F lb sb pre ev nv es las ns sz dead
  dl : ∀ k, D k → k < w.heap.size
  fl : ∀ k, F k → k < w.heap.size
  ap : ∀ k, D k → ¬ F k
def LRes (w : World) (D F : Nat → Prop) (lb sb : Nat) (pre : List UInt8) (u : Ud) (es : List En) (las : Nat) (ns : List (List UInt8)) (sz : Nat) (dead : Bool) (w' : World) : Prop :=
  ∃ D' F', Ld w' D' F' lb sb u pre es las ns sz dead ∧ (∀ k, D' k → D k ∨ w.heap.size ≤ k) ∧ (∀ k, F' k → F k ∨ w.heap.size ≤ k) ∧ Grows (fun k => D k ∨ F k) w w'
variable {w w' : World} {D F : Nat → Prop} {lb sb : Nat} {u : Ud} {pre : List UInt8} {es : List En} {las : Nat} {ns : List (List UInt8)} {sz : Nat} {dead : Bool}
theorem LRes.refl (h : Ld w D F lb sb u pre es las ns sz dead) (hs : Sm w w') : LRes w D F lb sb pre u es las ns sz dead w' := by
  obtain ⟨ev, nv, hl⟩ := h.l
  refine ⟨D, F, ⟨h.d.keep fun k _ _ => by rw [hs.heap], ⟨ev, nv, hl.sm hs⟩, fun k hk => by rw [hs.size]; exact h.dl k hk, fun k hk => by rw [hs.size]; exact h.fl k hk, h.ap⟩, fun k hk => Or.inl hk, fun k hk => Or.inl hk, ⟨hs.os, hs.tape, hs.output, by rw [hs.size]; exact Nat.le_refl _, fun k _ _ => by rw [hs.heap]⟩⟩
theorem Ld.disk (h : Ld w D F lb sb u pre es las ns sz dead) {u' : Ud} (hp : PRes D sb u' w w') : Ld w' (fun k => (D k ∨ w.heap.size ≤ k) ∧ k < w'.heap.size) F lb sb u' pre es las ns sz dead := by
  obtain ⟨ev, nv, hl⟩ := h.l
  refine ⟨hp.1.more fun k hk hlt => ⟨hk, hlt⟩, ⟨ev, nv, hl.keep hp.2.size fun k hk hlt => hp.2.block k hlt fun hd => h.ap k hd hk⟩, fun k hk => hk.2, fun k hk => Nat.lt_of_lt_of_le (h.fl k hk) hp.2.size, fun k hk hf => ?_⟩
  rcases hk.1 with h1 | h1
  · exact h.ap k h1 hf
  · have := h.fl k hf
    omega
theorem Ld.cell (h : Ld w D F lb sb u pre es las ns sz dead) (i : Nat) (v : Value) {las' : Nat} {sz' : Nat} {dead' : Bool} (hl : ∀ ev nv, Lg w F lb sb pre ev nv es las ns sz dead → Lg (w.setCell ⟨lb, i, none⟩ v) F lb sb pre ev nv es las' ns sz' dead') : Ld (w.setCell ⟨lb, i, none⟩ v) D F lb sb u pre es las' ns sz' dead' := by
  obtain ⟨ev, nv, h1⟩ := h.l
  refine ⟨h.d.keep fun k hk hlt => set_other _ _ _ _ _ (fun e => h.ap k hk (by rw [e]; exact h1.lF)), ⟨ev, nv, hl ev nv h1⟩, fun k hk => by rw [set_size]; exact h.dl k hk, fun k hk => by rw [set_size]; exact h.fl k hk, h.ap⟩
theorem Ld.sm (h : Ld w D F lb sb u pre es las ns sz dead) (hs : Sm w w') : Ld w' D F lb sb u pre es las ns sz dead := by
  obtain ⟨ev, nv, hl⟩ := h.l
  exact ⟨h.d.keep fun k _ _ => by rw [hs.heap], ⟨ev, nv, hl.sm hs⟩, fun k hk => by rw [hs.size]; exact h.dl k hk, fun k hk => by rw [hs.size]; exact h.fl k hk, h.ap⟩
theorem Grows.cell (w : World) (lb i : Nat) (v : Value) (hF : F lb) : Grows F w (w.setCell ⟨lb, i, none⟩ v) := ⟨rfl, rfl, rfl, by rw [set_size]; exact Nat.le_refl _, fun k _ hn => set_other _ _ _ _ _ fun e => hn (by rw [e]; exact hF)⟩
theorem LRes.of {w1 w2 w3 : World} {u' : Ud} {es' : List En} {las' : Nat} {ns' : List (List UInt8)} {sz' : Nat} {dead' : Bool} (hs : Sm w w1) (hp : Grows D w1 w2) (hg : Grows F w2 w3)
    (hl : Ld w3 (fun k => (D k ∨ w1.heap.size ≤ k) ∧ k < w2.heap.size) F lb sb u' pre es' las' ns' sz' dead') : LRes w D F lb sb pre u' es' las' ns' sz' dead' w3 := by
  refine ⟨_, F, hl, fun k hk => ?_, fun k hk => Or.inl hk, ?_⟩
  · have := hk.1
    rw [hs.size] at this
    exact this
  · refine ⟨hg.os.trans (hp.os.trans hs.os), hg.tape.trans (hp.tape.trans hs.tape), hg.output.trans (hp.output.trans hs.output), ?_, fun k hk hn => ?_⟩
    · have := hg.size
      have := hp.size
      rw [hs.size] at this
      omega
    · have h1 : k < w1.heap.size := by rw [hs.size]; exact hk
      rw [hg.block k (Nat.lt_of_lt_of_le h1 hp.size) fun e => hn (Or.inr e), hp.block k h1 fun e => hn (Or.inl e), hs.heap]
def syL (u : Ud) (n las : Nat) (x : List UInt8) (dead : Bool) : Int × Ud × Nat × Bool :=
  if dead = true then (9, u, las, dead) else if las = n then (0, u, las, dead)
  else ((u.five [x] (syU x)).1, (u.five [x] (syU x)).2, if (u.five [x] (syU x)).1 = 0 then n else las, if (u.five [x] (syU x)).1 = 0 ∨ (u.five [x] (syU x)).1 = 6 then dead else true)
theorem enters56 : ∀ args w, (callFunc 56 args).run Tryz.prog w = .ok (.enter 56 args) w := enters_of Tryz.func56 (by kernel_rfl) rfl
set_option maxHeartbeats 4000000 in
set_option maxRecDepth 100000 in
theorem LSync_any (w : World) (h : Ld w D F lb sb u pre es las ns sz dead) (hx : (lastN ns).length ≤ maxLen) :
    Calls Tryz.prog 18 #[.pointer (some ⟨lb, 0, none⟩)] w fun e w' => e = .returned (.int .i64 (syL u es.length las (lastN ns) dead).1) ∧
      LRes w D F lb sb pre (syL u es.length las (lastN ns) dead).2.1 es (syL u es.length las (lastN ns) dead).2.2.1 ns sz (syL u es.length las (lastN ns) dead).2.2.2 w' := by
  obtain ⟨ev, nv, hl⟩ := h.l
  obtain ⟨ae, ce, hee⟩ := hl.evform
  subst hee
  have c2 : w.cell? ⟨lb, 2, none⟩ = some (.slice ae es.length ce) := hl.blk.cell 2
  have c3 : w.cell? ⟨lb, 3, none⟩ = some (.int .i64 (las : Int)) := hl.blk.cell 3
  have c6 : w.cell? ⟨lb, 6, none⟩ = some (.bool dead) := hl.blk.cell 6
  cases dead with
  | true =>
    have HR : Hid (LRes w D F lb sb pre u es las ns sz true w) := LRes.refl h (Sm.refl _)
    clear h hl
    go_enter Tryz.func18, Tryz.ntmps18
    go_wp2_with fail
    go_ret
    exact ⟨rfl, HR.out⟩
  | false =>
    by_cases hle : las = es.length
    · have HE : Hid (syL u es.length las (lastN ns) false = (0, u, las, false)) := by
        show _ = _
        unfold syL
        rw [if_neg (by decide), if_pos hle]
      have HR : Hid (∀ w', Sm w w' → LRes w D F lb sb pre u es las ns sz false w') := fun w' hs => LRes.refl h hs
      have hq : ((las : Int) == (es.length : Int)) = true := by simp [hle]
      rw [HE.out]
      clear h hl HE hle
      go_enter Tryz.func18, Tryz.ntmps18
      go_wp2_with fail
      go_quiet (fail)
      go_wp2
      go_ret
      exact ⟨rfl, HR.out _ (Sm.drewN _ _)⟩
    · have HE : Hid (syL u es.length las (lastN ns) false = ((u.five [lastN ns] (syU (lastN ns))).1, (u.five [lastN ns] (syU (lastN ns))).2, if (u.five [lastN ns] (syU (lastN ns))).1 = 0 then es.length else las, if (u.five [lastN ns] (syU (lastN ns))).1 = 0 ∨ (u.five [lastN ns] (syU (lastN ns))).1 = 6 then false else true)) := by
        show _ = _
        unfold syL
        rw [if_neg (by decide), if_neg hle]
      have hq : ((las : Int) == (es.length : Int)) = false := by
        have : ¬ (las : Int) = (es.length : Int) := by omega
        simp [this]
      have HC : Hid (∀ w1, Sm w w1 → Calls Tryz.prog 55 #[.pointer (some ⟨lb, 0, none⟩), .func (.func 56) #[] #[], encStr (lastN ns)] w1 (GtP lb fun er w2 => er = (u.five [lastN ns] (syU (lastN ns))).1 ∧ PRes D sb (u.five [lastN ns] (syU (lastN ns))).2 w1 w2)) := by
        intro w1 hs
        refine lgate_any 56 #[] enters56 (lastN ns) w1 (hl.sm hs) _ ?_
        refine Calls.mono (pSync (h.sm hs).d (lastN ns) hx) ?_
        rintro e w2 ⟨rfl, hp⟩
        exact ⟨_, rfl, ⟨rfl, hp⟩, hp.2.block lb (hl.sm hs).blk.lt fun e => h.ap lb e hl.lF⟩
      have CL := fun (w1 : World) (hs : Sm w w1) => last_any w1 (hl.sm hs)
      rw [HE.out]
      have HH := hid_into h
      have HL := hid_into hl
      have hfew := hl.few
      clear h hl HE
      generalize u.five [lastN ns] (syU (lastN ns)) = r at *
      generalize lastN ns = x at *
      go_enter Tryz.func18, Tryz.ntmps18
      go_wp2_with fail
      go_quiet (fail)
      go_wp2_with fail
      refine (CL _ (Sm.drewN _ _)).mono ?_
      rintro e w1 ⟨rfl, hs1⟩
      have hs := (Sm.drewN w _).trans hs1
      go_wp2_with fail
      refine (HC.out w1 hs).mono ?_
      rintro e w3 ⟨er, w2, rfl, ⟨rfl, hp⟩, hcase⟩
      have hl2 := (HL.out.sm hs).keep hp.2.size fun k hk hlt => hp.2.block k hlt fun hd => HH.out.ap k hd hk
      have hld2 := (HH.out.sm hs).disk hp
      obtain ⟨r1, r2⟩ := r
      simp only at hp hcase hld2
      by_cases h0 : r1 = 0
      · obtain ⟨_, rfl⟩ : (r1 = 0 ∨ r1 = 6) ∧ w3 = w2 := hcase.resolve_right fun h => h.1 (Or.inl h0)
        have c2' : w3.cell? ⟨lb, 2, none⟩ = some (.slice ae es.length ce) := hl2.blk.cell 2
        have c3' : w3.cell? ⟨lb, 3, none⟩ = some (.int .i64 (las : Int)) := hl2.blk.cell 3
        have f3' : w3.frozen? ⟨lb, 3, none⟩ = false := hl2.blk.frozen 3
        have HR : Hid (LRes w D F lb sb pre r2 es es.length ns sz false (w3.setCell ⟨lb, 3, none⟩ (.int .i64 (es.length : Int)))) :=
          LRes.of hs hp.2 (Grows.cell _ _ _ _ hl2.lF) (hld2.cell 3 _ fun _ _ h => h.setLas _ hfew.1)
        subst h0
        clear hl2 hld2 hp hcase HH HL HC CL c2 c3 c6
        go_wp2_with fail
        go_ret
        exact ⟨rfl, HR.out⟩
      · have hb0 : (r1 == 0) = false := by simp [h0]
        by_cases h6 : r1 = 6
        · obtain ⟨_, rfl⟩ : (r1 = 0 ∨ r1 = 6) ∧ w3 = w2 := hcase.resolve_right fun h => h.1 (Or.inr h6)
          have HR : Hid (LRes w D F lb sb pre r2 es las ns sz false w3) := LRes.of hs hp.2 (Grows.refl _ _) hld2
          have HE4 : Hid ((!decide (r1 = 6)) = false) := by show _ = _; simp [h6]
          clear hl2 hld2 hp hcase HH HL HC CL c2 c3 c6 h6
          go_wp2_with fail
          go_ret
          exact ⟨rfl, by rw [HE4.out]; exact HR.out⟩
        · have hn : ¬ (r1 = 0 ∨ r1 = 6) := fun h => h.elim h0 h6
          obtain ⟨_, rfl⟩ : ¬ (r1 = 0 ∨ r1 = 6) ∧ w3 = w2.setCell ⟨lb, 6, none⟩ (.bool true) := hcase.resolve_left fun h => hn h.1
          have HR : Hid (LRes w D F lb sb pre r2 es las ns sz true (w2.setCell ⟨lb, 6, none⟩ (.bool true))) :=
            LRes.of hs hp.2 (Grows.cell _ _ _ _ hl2.lF) (hld2.cell 6 _ fun _ _ h => h.kill)
          have HE4 : Hid ((!decide (r1 = 6)) = true) := by show _ = _; simp [h6]
          generalize w2.setCell ⟨lb, 6, none⟩ (.bool true) = w4 at *
          clear hl2 hld2 hp hcase HH HL HC CL c2 c3 c6 h6 hn
          go_wp2_with fail
          go_ret
          exact ⟨rfl, by rw [HE4.out]; exact HR.out⟩
end Go.Proofs.YtnkjhooeklodcaaGreatDoor
end

section
/-
  What the log asks of its disk, through gate: Remove, Write, Cut, Read.
-/
namespace Go.Proofs.YtnkjhooeklodcaaGreatDoor
open Go.RowKit Go.Maps Go.Sort

variable {w w' : World} {D F : Nat → Prop} {lb sb : Nat} {u : Ud} {pre : List UInt8} {es : List En} {las : Nat} {ns : List (List UInt8)} {sz : Nat} {dead : Bool}
theorem enters113 : ∀ args w, (callFunc 113 args).run Tryz.prog w = .ok (.enter 113 args) w := enters_of Tryz.func113 (by kernel_rfl) rfl
theorem enters101 : ∀ args w, (callFunc 101 args).run Tryz.prog w = .ok (.enter 101 args) w := enters_of Tryz.func101 (by kernel_rfl) rfl
theorem enters132 : ∀ args w, (callFunc 132 args).run Tryz.prog w = .ok (.enter 132 args) w := enters_of Tryz.func132 (by kernel_rfl) rfl
theorem enters110 : ∀ args w, (callFunc 110 args).run Tryz.prog w = .ok (.enter 110 args) w := enters_of Tryz.func110 (by kernel_rfl) rfl
theorem enters29 : ∀ args w, (callFunc 29 args).run Tryz.prog w = .ok (.enter 29 args) w := enters_of Tryz.func29 (by kernel_rfl) rfl
theorem enters41 : ∀ args w, (callFunc 41 args).run Tryz.prog w = .ok (.enter 41 args) w := enters_of Tryz.func41 (by kernel_rfl) rfl
theorem enters34 : ∀ args w, (callFunc 34 args).run Tryz.prog w = .ok (.enter 34 args) w := enters_of Tryz.func34 (by kernel_rfl) rfl
theorem Ld.lbk (h : Ld w D F lb sb u pre es las ns sz dead) {u' : Ud} (hp : PRes D sb u' w w') : w'.heap[lb]? = w.heap[lb]? := by
  obtain ⟨ev, nv, hl⟩ := h.l
  exact hp.2.block lb hl.blk.lt fun e => h.ap lb e hl.lF
theorem askRemove (h : Ld w D F lb sb u pre es las ns sz dead) (x : List UInt8) (hx : x.length ≤ maxLen) :
    Calls Tryz.prog 55 #[.pointer (some ⟨lb, 0, none⟩), .func (.func 113) #[] #[], encStr x] w (GtP lb fun er w2 => er = (u.five [x] (rmU x)).1 ∧ PRes D sb (u.five [x] (rmU x)).2 w w2) := by
  obtain ⟨ev, nv, hl⟩ := h.l
  refine lgate_any 113 #[] enters113 x w hl _ ?_
  refine Calls.mono (pRemove h.d x hx) ?_
  rintro e w2 ⟨rfl, hp⟩
  exact ⟨_, rfl, ⟨rfl, hp⟩, h.lbk hp⟩
theorem askWrite (h : Ld w D F lb sb u pre es las ns sz dead) (x : List UInt8) (hx : x.length ≤ maxLen) (ap : Option Addr) (cp : Nat) (ps : List Int) (hps : Bs w (.slice ap ps.length cp) ps) (hby : Byt ps) (p : Nat)
    (c0 : w.cell? ⟨p, 0, none⟩ = some (.func (.func 29) #[] #[])) (c1 : w.cell? ⟨p + 1, 0, none⟩ = some (.slice ap ps.length cp)) :
    Calls Tryz.prog 55 #[.pointer (some ⟨lb, 0, none⟩), .func (.func 101) #[] #[.pointer (some ⟨p, 0, none⟩), .pointer (some ⟨p + 1, 0, none⟩)], encStr x] w
      (GtP lb fun er w2 => er = (u.five [x] (wrU x ps u.room)).1 ∧ PRes D sb (u.five [x] (wrU x ps u.room)).2 w w2) := by
  obtain ⟨ev, nv, hl⟩ := h.l
  refine lgate_any 101 _ enters101 x w hl _ ?_
  refine Calls.mono (cloB_any 29 enters29 ap ps.length cp (.pointer (some ⟨sb, 0, none⟩)) (encStr x) p w (fun er w2 => er = (u.five [x] (wrU x ps u.room)).1 ∧ PRes D sb (u.five [x] (wrU x ps u.room)).2 w w2) c0 c1 ?_) ?_
  · refine Calls.mono (pWrite h.d x hx ap cp ps hps hby) ?_
    rintro e w2 ⟨rfl, hp⟩
    exact ⟨_, rfl, rfl, hp⟩
  · rintro e w2 ⟨er, rfl, rfl, hp⟩
    exact ⟨_, rfl, ⟨rfl, hp⟩, h.lbk hp⟩
theorem askCut (h : Ld w D F lb sb u pre es las ns sz dead) (x : List UInt8) (hx : x.length ≤ maxLen) (m : Int) (hm : (Lit.int .i64 m).wf = true) (p : Nat)
    (c0 : w.cell? ⟨p, 0, none⟩ = some (.func (.func 41) #[] #[])) (c1 : w.cell? ⟨p + 1, 0, none⟩ = some (.int .i64 m)) :
    Calls Tryz.prog 55 #[.pointer (some ⟨lb, 0, none⟩), .func (.func 132) #[] #[.pointer (some ⟨p, 0, none⟩), .pointer (some ⟨p + 1, 0, none⟩)], encStr x] w
      (GtP lb fun er w2 => er = (u.five [x] (cuU x m)).1 ∧ PRes D sb (u.five [x] (cuU x m)).2 w w2) := by
  obtain ⟨ev, nv, hl⟩ := h.l
  refine lgate_any 132 _ enters132 x w hl _ ?_
  refine Calls.mono (cloI_any 41 enters41 m (.pointer (some ⟨sb, 0, none⟩)) (encStr x) p w (fun er w2 => er = (u.five [x] (cuU x m)).1 ∧ PRes D sb (u.five [x] (cuU x m)).2 w w2) c0 c1 ?_) ?_
  · refine Calls.mono (pCut h.d x hx m hm) ?_
    rintro e w2 ⟨rfl, hp⟩
    exact ⟨_, rfl, rfl, hp⟩
  · rintro e w2 ⟨er, rfl, rfl, hp⟩
    exact ⟨_, rfl, ⟨rfl, hp⟩, h.lbk hp⟩
theorem askRead (h : Ld w D F lb sb u pre es las ns sz dead) (x : List UInt8) (hx : x.length ≤ maxLen) (p t : Nat) (hp : p < w.heap.size) (htl : t ≠ lb) (u0 : Value) (hv : Cw w t [u0] 38)
    (c0 : w.cell? ⟨p, 0, none⟩ = some (.pointer (some ⟨t, 0, none⟩))) (c1 : w.cell? ⟨p + 1, 0, none⟩ = some (.func (.func 34) #[] #[])) :
    Calls Tryz.prog 55 #[.pointer (some ⟨lb, 0, none⟩), .func (.func 110) #[] #[.pointer (some ⟨p + 1, 0, none⟩), .pointer (some ⟨p, 0, none⟩)], encStr x] w
      (GtP lb fun er w2 => er = rdE u.us x ∧ ∃ v w1, Ow w1 w.heap.size v (at0U u.us x).1 ∧ Below w.heap.size w w1 ∧ w2 = w1.setCell ⟨t, 0, none⟩ v) := by
  obtain ⟨ev, nv, hl⟩ := h.l
  refine lgate_any 110 _ enters110 x w hl _ ?_
  refine Calls.mono (cloR_any 34 enters34 (.pointer (some ⟨sb, 0, none⟩)) (encStr x) p t w (fun v er w1 => er = rdE u.us x ∧ Ow w1 w.heap.size v (at0U u.us x).1 ∧ Below w.heap.size w w1) c0 c1 ?_) ?_
  · refine Calls.mono (pRead h.d x hx) ?_
    rintro e w1 ⟨ao, cap, rfl, ho, hB⟩
    exact ⟨ao, _, cap, _, rfl, ⟨rfl, ho, hB⟩, hB.block p hp, u0, hv.below hB hv.lt⟩
  · rintro e w2 ⟨v, er, w1, rfl, ⟨rfl, ho, hB⟩, _, rfl⟩
    refine ⟨_, rfl, ⟨rfl, v, w1, ho, hB, rfl⟩, ?_⟩
    rw [set_other _ _ _ _ _ (Ne.symm htl)]
    exact hB.block lb hl.blk.lt
end Go.Proofs.YtnkjhooeklodcaaGreatDoor
end

section
/-
  lay: a record is laid behind the last segment.
-/
namespace Go.Proofs.YtnkjhooeklodcaaGreatDoor
open Go.RowKit Go.Maps Go.Sort

variable {w w' w1 w2 : World} {D F D' F' : Nat → Prop} {lb sb : Nat} {u u' : Ud} {pre : List UInt8} {es es' : List En} {las las' : Nat} {ns ns' : List (List UInt8)} {sz sz' : Nat} {dead dead' : Bool}
theorem Ld.below (h : Ld w D F lb sb u pre es las ns sz dead) (hb : Below w.heap.size w w') : Ld w' D F lb sb u pre es las ns sz dead := by
  obtain ⟨ev, nv, hl⟩ := h.l
  exact ⟨h.d.keep fun k _ hk => hb.block k hk, ⟨ev, nv, hl.below hb⟩, fun k hk => Nat.lt_of_lt_of_le (h.dl k hk) hb.size, fun k hk => Nat.lt_of_lt_of_le (h.fl k hk) hb.size, h.ap⟩
theorem LRes.after (hb : Below w.heap.size w w1) (h : LRes w1 D F lb sb pre u es las ns sz dead w2) : LRes w D F lb sb pre u es las ns sz dead w2 := by
  obtain ⟨D', F', h1, h2, h3, h4⟩ := h
  have hs := hb.size
  refine ⟨D', F', h1, fun k hk => (h2 k hk).imp id fun e => Nat.le_trans hs e, fun k hk => (h3 k hk).imp id fun e => Nat.le_trans hs e, ⟨h4.os.trans hb.os, h4.tape.trans hb.tape, h4.output.trans hb.output, Nat.le_trans hs h4.size, fun k hk hn => (h4.block k (by omega) hn).trans (hb.block k hk)⟩⟩
theorem LRes.then (hd : ∀ k, D' k → D k ∨ w.heap.size ≤ k) (hf : ∀ k, F' k → F k ∨ w.heap.size ≤ k) (hg : Grows (fun k => D k ∨ F k) w w1) (h : LRes w1 D' F' lb sb pre u es las ns sz dead w2) : LRes w D F lb sb pre u es las ns sz dead w2 := by
  obtain ⟨D2, F2, h1, h2, h3, h4⟩ := h
  have hs := hg.size
  refine ⟨D2, F2, h1, fun k hk => ?_, fun k hk => ?_, ⟨h4.os.trans hg.os, h4.tape.trans hg.tape, h4.output.trans hg.output, Nat.le_trans hs h4.size, fun k hk hn => ?_⟩⟩
  · rcases h2 k hk with e | e
    · exact hd k e
    · exact Or.inr (Nat.le_trans hs e)
  · rcases h3 k hk with e | e
    · exact hf k e
    · exact Or.inr (Nat.le_trans hs e)
  · refine (h4.block k (by omega) fun e => ?_).trans (hg.block k hk hn)
    rcases e with e | e
    · rcases hd k e with e | e
      · exact hn (Or.inl e)
      · omega
    · rcases hf k e with e | e
      · exact hn (Or.inr e)
      · omega
theorem GtP.res (h : Ld w D F lb sb u pre es las ns sz dead) (r : Int × Ud) {e : Ending} (hG : GtP lb (fun er w2 => er = r.1 ∧ PRes D sb r.2 w w2) e w') :
    e = .returned (.int .i64 r.1) ∧ LRes w D F lb sb pre r.2 es las ns sz (if r.1 = 0 ∨ r.1 = 6 then dead else true) w' := by
  obtain ⟨er, w2, rfl, ⟨rfl, hp⟩, hc⟩ := hG
  refine ⟨rfl, ?_⟩
  have hld := h.disk hp
  rcases hc with ⟨hc, rfl⟩ | ⟨hc, rfl⟩
  · rw [if_pos hc]
    exact LRes.of (Sm.refl _) hp.2 (Grows.refl _ _) hld
  · rw [if_neg hc]
    obtain ⟨ev, nv, hl⟩ := hld.l
    exact LRes.of (Sm.refl _) hp.2 (Grows.cell _ _ _ _ hl.lF) (hld.cell 6 _ fun _ _ h => h.kill)
theorem LRes.cell (h : LRes w D F lb sb pre u es las ns sz dead w1) (i : Nat) (v : Value) (hl : ∀ F ev nv, Lg w1 F lb sb pre ev nv es las ns sz dead → Lg (w1.setCell ⟨lb, i, none⟩ v) F lb sb pre ev nv es las' ns sz' dead') : LRes w D F lb sb pre u es las' ns sz' dead' (w1.setCell ⟨lb, i, none⟩ v) := by
  obtain ⟨D', F', h1, h2, h3, h4⟩ := h
  obtain ⟨ev, nv, hh⟩ := h1.l
  refine ⟨D', F', h1.cell i v fun ev nv h => hl F' ev nv h, h2, h3, ⟨h4.os, h4.tape, h4.output, by rw [set_size]; exact h4.size, fun k hk hn => ?_⟩⟩
  rw [set_other _ _ _ _ _ fun e => by
    subst e
    rcases h3 k hh.lF with e | e
    · exact hn (Or.inr e)
    · omega]
  exact h4.block k hk hn
theorem LRes.log (h : LRes w D F lb sb pre u es las ns sz dead w1) : ∃ F' ev nv, Lg w1 F' lb sb pre ev nv es las ns sz dead := by
  obtain ⟨D', F', h1, _⟩ := h
  obtain ⟨ev, nv, hh⟩ := h1.l
  exact ⟨F', ev, nv, hh⟩
theorem LRes.bs (h : LRes w D F lb sb pre u es las ns sz dead w1) {v : Value} {zs : List Int} (hb : Bs w v zs) (hk : ∀ k, v.ownBlock = some k → ¬ D k ∧ ¬ F k) : Bs w1 v zs := by
  obtain ⟨D', F', _, _, _, h4⟩ := h
  exact hb.keep fun k hk' hlt => h4.block k hlt fun e => e.elim (hk k hk').1 (hk k hk').2
set_option maxHeartbeats 4000000 in
set_option maxRecDepth 100000 in
theorem lay_old (w : World) (h : Ld w D F lb sb u pre es las ns sz dead) (ap : Option Addr) (cp : Nat) (ps : List Int) (hps : Bs w (.slice ap ps.length cp) ps) (hby : Byt ps) (hpl : ps.length ≤ 70000) (hx : (lastN ns).length ≤ maxLen) (hn : ns ≠ []) (hz : sz < 512) :
    Calls Tryz.prog 47 #[.pointer (some ⟨lb, 0, none⟩), .slice ap ps.length cp] w fun e w' =>
      e = .returned (.int .i64 (u.five [lastN ns] (wrU (lastN ns) ps u.room)).1) ∧
      LRes w D F lb sb pre (u.five [lastN ns] (wrU (lastN ns) ps u.room)).2 es las ns (if (u.five [lastN ns] (wrU (lastN ns) ps u.room)).1 = 0 then sz + ps.length else sz) (if (u.five [lastN ns] (wrU (lastN ns) ps u.room)).1 = 0 ∨ (u.five [lastN ns] (wrU (lastN ns) ps u.room)).1 = 6 then dead else true) w' := by
  obtain ⟨ev, nv, hl⟩ := h.l
  have CL := last_any w hl
  have CW := fun (w1 : World) (hs : Sm w w1) => wants_any w1 (hl.sm hs)
  have hw : decide (ns = [] ∨ 512 ≤ sz) = false := by simp [hn]; omega
  rw [hw] at CW
  have HA : Hid (∀ w1 w2, Sm w w1 → Two w1 w2 (.func (.func 29) #[] #[]) (.slice ap ps.length cp) → Calls Tryz.prog 55 #[.pointer (some ⟨lb, 0, none⟩), .func (.func 101) #[] #[.pointer (some ⟨w1.heap.size, 0, none⟩), .pointer (some ⟨w1.heap.size + 1, 0, none⟩)], encStr (lastN ns)] w2 fun e w' => e = .returned (.int .i64 (u.five [lastN ns] (wrU (lastN ns) ps u.room)).1) ∧ LRes w D F lb sb pre (u.five [lastN ns] (wrU (lastN ns) ps u.room)).2 es las ns sz (if (u.five [lastN ns] (wrU (lastN ns) ps u.room)).1 = 0 ∨ (u.five [lastN ns] (wrU (lastN ns) ps u.room)).1 = 6 then dead else true) w') := by
    intro w1 w2 hs ht
    have hld := (h.sm hs).below ht.below
    have hps2 : Bs w2 (.slice ap ps.length cp) ps := (hps.keep (w' := w1) fun k _ _ => by rw [hs.heap]).keep fun k _ hk => ht.below.block k hk
    refine (askWrite hld (lastN ns) hx ap cp ps hps2 hby w1.heap.size ht.fst ht.snd).mono ?_
    intro e w' hG
    have := GtP.res hld _ hG
    have hb : Below w.heap.size w w2 := ⟨ht.below.os.trans hs.os, ht.below.tape.trans hs.tape, ht.below.output.trans hs.output, by have := ht.below.size; rw [hs.size] at this; exact this, fun k hk => (ht.below.block k (by rw [hs.size]; exact hk)).trans (by rw [hs.heap])⟩
    exact ⟨this.1, LRes.after hb this.2⟩
  have hfew := hl.few
  clear h hl
  generalize u.five [lastN ns] (wrU (lastN ns) ps u.room) = r at *
  obtain ⟨r1, r2⟩ := r
  simp only at HA
  generalize (if r1 = 0 ∨ r1 = 6 then dead else true) = dd at *
  generalize lastN ns = x at *
  go_enter Tryz.func47, Tryz.ntmps47
  go_wp2_with fail
  refine CL.mono ?_
  rintro e w1 ⟨rfl, hs1⟩
  go_wp2_with fail
  refine (CW w1 hs1).mono ?_
  rintro e w1' ⟨rfl, hw1⟩
  replace hw1 := hw1.symm
  subst hw1
  go_wp2_with fail
  refine (withB_any 29 ap ps.length cp _).mono ?_
  rintro e w2 ⟨rfl, ht⟩
  go_wp2_with fail
  refine (HA.out _ w2 hs1 ht).mono ?_
  rintro e w3 ⟨rfl, hR⟩
  obtain ⟨F3, ev3, nv3, hl3⟩ := hR.log
  by_cases h0 : r1 = 0
  · subst h0
    have c5 : w3.cell? ⟨lb, 5, none⟩ = some (.int .i64 (sz : Int)) := hl3.blk.cell 5
    have f5 : w3.frozen? ⟨lb, 5, none⟩ = false := hl3.blk.frozen 5
    have q1 : IntKind.i64.wrap ((sz : Int) + (ps.length : Int)) = ((sz + ps.length : Nat) : Int) := by rw [IntKind.wrap_i64]; omega
    have HR : Hid (LRes w D F lb sb pre r2 es las ns (sz + ps.length) dd (w3.setCell ⟨lb, 5, none⟩ (.int .i64 ((sz + ps.length : Nat) : Int)))) := hR.cell 5 _ fun _ _ _ h => h.setSz _ (by omega)
    clear hR hl3 ht hs1 HA CL CW
    go_wp2_with fail
    go_ret
    exact ⟨rfl, HR.out⟩
  · have hb0 : (r1 == 0) = false := by simp [h0]
    have HR := hid_into hR
    clear hR hl3 ht hs1 HA CL CW
    go_wp2_with fail
    go_ret
    exact ⟨rfl, HR.out⟩
end Go.Proofs.YtnkjhooeklodcaaGreatDoor
end
