/-
  Joined from: SegLayB, SegApp, SegAppB.
-/
import Derived.Test.YtnkjhooeklodcaaGreatDoorM32
import Derived.Test.YtnkjhooeklodcaaGreatDoorM15
section
/-
  lay: a record is laid as the first of a new segment.
-/
namespace Go.Proofs.YtnkjhooeklodcaaGreatDoor
open Go.RowKit Go.Maps Go.Sort

variable {w w' w1 w2 : World} {D F D' F' : Nat → Prop} {lb sb : Nat} {u u' : Ud} {pre : List UInt8} {ev nv : Value} {es es' : List En} {las las' : Nat} {ns ns' : List (List UInt8)} {sz sz' : Nat} {dead dead' : Bool}
theorem Lg.tight (h : Lg w F lb sb pre ev nv es las ns sz dead) : Lg w (fun k => F k ∧ k < w.heap.size) lb sb pre ev nv es las ns sz dead :=
  ⟨h.blk, ⟨h.lF, h.blk.lt⟩, h.ent, fun r hr => ⟨(h.each r hr).1, (h.each r hr).2.1, (h.each r hr).2.2.1, fun k hk => by
    have := (h.each r hr).2.2.2 k hk
    exact ⟨⟨this.1, this.2.2.2.2⟩, this.2⟩⟩, h.nam, ⟨fun k hk => ⟨⟨(h.sep.1 k hk).1, (World.ownsRow.lt h.ent k hk).2⟩, (h.sep.1 k hk).2⟩, fun k hk => ⟨⟨(h.sep.2 k hk).1, (World.ownsRow.lt h.nam k hk).2⟩, (h.sep.2 k hk).2⟩⟩, h.few⟩
theorem LRes.addN {w5 w6 : World} {D5 F5 : Nat → Prop} (h1 : Ld w5 D5 F5 lb sb u pre es las ns sz dead) (h2 : ∀ k, D5 k → D k ∨ w.heap.size ≤ k) (h3 : ∀ k, F5 k → F k ∨ w.heap.size ≤ k) (h4 : Grows (fun k => D k ∨ F k) w w5)
    (hl : Lg w5 F5 lb sb pre ev nv es las ns sz dead) (n : List UInt8) (nv' : Value) (hrow : Ot w6 0 nv' (ns ++ [n])) (hg : (w5.alloc (.cells #[encStr n] 9)).grownBy w6 nv.ownBlock) (hat : nv'.ownBlock = nv.ownBlock ∨ nv'.ownBlock = some (w5.heap.size + 1)) (hf : ns.length + 1 ≤ 10000000) :
    LRes w D F lb sb pre u es las (ns ++ [n]) sz dead (w6.setCell ⟨lb, 4, none⟩ nv') := by
  have hA : Below w5.heap.size w5 (w5.alloc (.cells #[encStr n] 9)) := (Below.refl _ _).alloc (Nat.le_refl _) _
  have hWs : (w5.alloc (.cells #[encStr n] 9)).heap.size = w5.heap.size + 1 := World.size_alloc _ _
  have hl2 : Lg (w5.alloc (.cells #[encStr n] 9)) (fun k => F5 k ∨ w5.heap.size ≤ k) lb sb pre ev nv es las ns sz dead := (hl.below hA).more fun k hk => Or.inl hk
  have hl3 := (hl2.addN n w6 nv' hrow hg (by rw [hWs]; exact hat) (Or.inr (by omega)) hf).tight
  have hs6 : w5.heap.size ≤ w6.heap.size := by have := hg.size; omega
  have h45 := h4.size
  have hblk : ∀ k, k < w5.heap.size → ¬ F5 k → (w6.setCell ⟨lb, 4, none⟩ nv').heap[k]? = w5.heap[k]? := fun k hk hn => by
    rw [set_other _ _ _ _ _ fun e => hn (by rw [e]; exact hl.lF), hg.block k (by omega) fun e => hn (hl.sep.2 k e.symm).1]
    exact hA.block k hk
  refine ⟨D5, _, ⟨h1.d.keep fun k hk hlt => hblk k hlt (h1.ap k hk), ⟨ev, nv', hl3⟩, fun k hk => by rw [set_size]; have := h1.dl k hk; omega, fun k hk => hk.2, fun k hk hf => ?_⟩, h2, fun k hk => ?_, ⟨?_, ?_, ?_, ?_, fun k hk hn => ?_⟩⟩
  · rcases hf.1 with e | e
    · exact h1.ap k hk e
    · have := h1.dl k hk
      omega
  · rcases hk.1 with e | e
    · exact h3 k e
    · exact Or.inr (by omega)
  · exact hg.os.trans (hA.os.trans h4.os)
  · exact hg.tape.trans (hA.tape.trans h4.tape)
  · exact hg.output.trans (hA.output.trans h4.output)
  · rw [set_size]; omega
  · refine (hblk k (by omega) fun e => ?_).trans (h4.block k hk hn)
    rcases h3 k e with e | e
    · exact hn (Or.inr e)
    · omega
theorem Sm.below' (hs : Sm w w1) : Below w.heap.size w w1 := ⟨hs.os, hs.tape, hs.output, by rw [hs.size]; exact Nat.le_refl _, fun k _ => by rw [hs.heap]⟩
def LayP (w : World) (D F : Nat → Prop) (lb sb : Nat) (pre : List UInt8) (es : List En) (ns : List (List UInt8)) (sz : Nat) (x : List UInt8) (n : Nat) (s : Int × Ud × Nat × Bool) (r : Int × Ud) (e : Ending) (w' : World) : Prop :=
  (s.1 ≠ 0 ∧ e = .returned (.int .i64 s.1) ∧ LRes w D F lb sb pre s.2.1 es s.2.2.1 ns sz s.2.2.2 w') ∨
  (s.1 = 0 ∧ r.1 ≠ 0 ∧ e = .returned (.int .i64 r.1) ∧ LRes w D F lb sb pre r.2 es s.2.2.1 ns sz (if r.1 = 0 ∨ r.1 = 6 then s.2.2.2 else true) w') ∨
  (s.1 = 0 ∧ r.1 = 0 ∧ e = .returned (.int .i64 0) ∧ LRes w D F lb sb pre r.2 es s.2.2.1 (ns ++ [x]) n s.2.2.2 w')
set_option maxHeartbeats 4000000 in
set_option maxRecDepth 100000 in
theorem lay_new (w : World) (h : Ld w D F lb sb u pre es las ns sz dead) (ap : Option Addr) (cp : Nat) (ps : List Int) (hps : Bs w (.slice ap ps.length cp) ps) (hby : Byt ps) (hpl : ps.length ≤ 70000) (hk : ∀ k, (Value.slice ap ps.length cp).ownBlock = some k → ¬ D k ∧ ¬ F k)
    (hp : Pw w) (hx : (lastN ns).length ≤ maxLen) (hx2 : (nameN pre (es.length + 1)).length ≤ maxLen) (hn : ns = [] ∨ 512 ≤ sz) (hf : ns.length + 1 ≤ 10000000) (s : Int × Ud × Nat × Bool) (hs : syL u es.length las (lastN ns) dead = s) (r : Int × Ud) (hr : s.2.1.five [nameN pre (es.length + 1)] (wrU (nameN pre (es.length + 1)) ps s.2.1.room) = r) :
    Calls Tryz.prog 47 #[.pointer (some ⟨lb, 0, none⟩), .slice ap ps.length cp] w (LayP w D F lb sb pre es ns sz (nameN pre (es.length + 1)) ps.length s r) := by
  obtain ⟨ev, nv, hl⟩ := h.l
  have CL := last_any w hl
  have CW := fun (w1 : World) (hs : Sm w w1) => wants_any w1 (hl.sm hs)
  have hw : decide (ns = [] ∨ 512 ≤ sz) = true := by simp [hn]
  rw [hw] at CW
  have CN := fun (w1 : World) (hs : Sm w w1) => nextName_any w1 (hl.sm hs) (hp.keep fun k hk => by rw [hs.heap])
  have HS : Hid (∀ w2, Below w.heap.size w w2 → Calls Tryz.prog 18 #[.pointer (some ⟨lb, 0, none⟩)] w2 fun e w' => e = .returned (.int .i64 s.1) ∧ LRes w D F lb sb pre s.2.1 es s.2.2.1 ns sz s.2.2.2 w') := by
    intro w2 hb
    refine (LSync_any w2 (h.below hb) hx).mono ?_
    rw [hs]
    rintro e w3 ⟨rfl, hR⟩
    exact ⟨rfl, LRes.after hb hR⟩
  have HA : Hid (∀ w3 w4, LRes w D F lb sb pre s.2.1 es s.2.2.1 ns sz s.2.2.2 w3 → Two w3 w4 (.func (.func 29) #[] #[]) (.slice ap ps.length cp) → Calls Tryz.prog 55 #[.pointer (some ⟨lb, 0, none⟩), .func (.func 101) #[] #[.pointer (some ⟨w3.heap.size, 0, none⟩), .pointer (some ⟨w3.heap.size + 1, 0, none⟩)], encStr (nameN pre (es.length + 1))] w4 fun e w' => e = .returned (.int .i64 r.1) ∧ LRes w D F lb sb pre r.2 es s.2.2.1 ns sz (if r.1 = 0 ∨ r.1 = 6 then s.2.2.2 else true) w') := by
    intro w3 w4 hR ht
    have hb3 := hR.bs hps hk
    obtain ⟨D3, F3, k1, k2, k3, k4⟩ := hR
    have hld := k1.below ht.below
    refine (askWrite hld _ hx2 ap cp ps (hb3.keep fun k _ hk => ht.below.block k hk) hby w3.heap.size ht.fst ht.snd).mono ?_
    intro e w' hG
    rw [hr] at hG
    have := GtP.res hld _ hG
    exact ⟨this.1, LRes.then k2 k3 k4 (LRes.after ht.below this.2)⟩
  have hfew := hl.few
  clear h hl hps hp hk hs hr hx hx2
  obtain ⟨s1, su, sl, sd⟩ := s
  obtain ⟨r1, r2⟩ := r
  simp only at HS HA ⊢
  generalize nameN pre (es.length + 1) = x at *
  generalize lastN ns = y at *
  go_enter Tryz.func47, Tryz.ntmps47
  go_wp2_with fail
  refine CL.mono ?_
  rintro e w1 ⟨rfl, hs1⟩
  go_wp2_with fail
  refine (CW w1 hs1).mono ?_
  rintro e w1' ⟨rfl, hw1⟩
  replace hw1 := hw1.symm
  subst hw1
  go_wp2_with fail
  refine (CN _ hs1).mono ?_
  rintro e w2 ⟨rfl, hb2⟩
  have hb : Below w.heap.size w w2 := (Sm.below' hs1).trans (hb2.mono (by rw [hs1.size]; exact Nat.le_refl _))
  go_wp2_with fail
  refine (HS.out _ hb).mono ?_
  rintro e w3 ⟨rfl, hR⟩
  clear hb hb2 hs1 CL CW CN HS
  by_cases hs0 : s1 = 0
  · subst hs0
    go_wp2_with fail
    refine (withB_any 29 ap ps.length cp _).mono ?_
    rintro e w4 ⟨rfl, ht⟩
    go_wp2_with fail
    refine (HA.out _ w4 hR ht).mono ?_
    rintro e w5 ⟨rfl, hR5⟩
    clear hR ht HA
    by_cases hr0 : r1 = 0
    · subst hr0
      obtain ⟨D5, F5, h1, h2, h3, h4⟩ := hR5
      rw [if_pos (Or.inl rfl)] at h1
      obtain ⟨ev5, nv5, hl5⟩ := h1.l
      obtain ⟨an, cn, hnn⟩ := hl5.nvform
      subst hnn
      have hA : Below w5.heap.size w5 (w5.alloc (.cells #[encStr x] 9)) := (Below.refl _ _).alloc (Nat.le_refl _) _
      have c4 : w5.cell? ⟨lb, 4, none⟩ = some (.slice an ns.length cn) := hl5.blk.cell 4
      have hnam : Ot (w5.alloc (.cells #[encStr x] 9)) 0 (.slice an ns.length cn) ns := (hl5.below hA).nam
      have hcl : (w5.alloc (.cells #[encStr x] 9)).cell? ⟨w5.heap.size, 0, none⟩ = some (encStr x) := by
        rw [cell_of_row _ _ 0 _ _ _ (heap_alloc_new w5 _)]; rfl
      have hn9 : ns.length ≤ 1000000000 := by omega
      have HH := hid_into h1
      have H2 := hid_into h2
      have H3 := hid_into h3
      have H4 := hid_into h4
      have HL := hid_into hl5
      clear h1 h2 h3 h4 hl5
      go_wp2_with (first
        | (refine wpList_made_str _ rfl (.tmp 35) rfl x rfl ?_)
        | (at_builtin; refine wpList_append_nm _ rfl (.tmp 34) (.tmp 36) rfl 0 (.slice an ns.length cn) ns (by rfl) hnam w5.heap.size x (by rfl) hcl hn9 (Nat.zero_le _) ?_))
      intro ao6 cap6 w6 hrow hg hat
      have hWs : (w5.alloc (.cells #[encStr x] 9)).heap.size = w5.heap.size + 1 := World.size_alloc _ _
      have hb3 := (HL.out.below hA).blk.keep (hg.block lb (HL.out.below hA).blk.lt fun e => (HL.out.sep.2 lb e.symm).2 rfl)
      have c6 : w6.cell? ⟨lb, 4, none⟩ = some (.slice an ns.length cn) := hb3.cell 4
      have f6 : w6.frozen? ⟨lb, 4, none⟩ = false := hb3.frozen 4
      have hR6 := LRes.addN HH.out H2.out H3.out H4.out HL.out x (.slice ao6 (ns.length + 1) cap6) hrow hg (by first | exact hat | (rw [hWs] at hat; exact hat)) hf
      obtain ⟨F7, ev7, nv7, hl7⟩ := hR6.log
      have c7 : (w6.setCell ⟨lb, 4, none⟩ (.slice ao6 (ns.length + 1) cap6)).cell? ⟨lb, 5, none⟩ = some (.int .i64 (sz : Int)) := hl7.blk.cell 5
      have f7 : (w6.setCell ⟨lb, 4, none⟩ (.slice ao6 (ns.length + 1) cap6)).frozen? ⟨lb, 5, none⟩ = false := hl7.blk.frozen 5
      clear hb3 hrow hg hat hA hWs hnam hcl HH H2 H3 H4 HL
      have hR8 := hR6.cell 5 (.int .i64 ((0 : Nat) : Int)) fun _ _ _ h => h.setSz 0 (by omega)
      obtain ⟨F8, ev8, nv8, hl8⟩ := hR8.log
      have c8 : ((w6.setCell ⟨lb, 4, none⟩ (.slice ao6 (ns.length + 1) cap6)).setCell ⟨lb, 5, none⟩ (.int .i64 0)).cell? ⟨lb, 5, none⟩ = some (.int .i64 0) := hl8.blk.cell 5
      have f8 : ((w6.setCell ⟨lb, 4, none⟩ (.slice ao6 (ns.length + 1) cap6)).setCell ⟨lb, 5, none⟩ (.int .i64 0)).frozen? ⟨lb, 5, none⟩ = false := hl8.blk.frozen 5
      have hR9 := hR8.cell 5 (.int .i64 (ps.length : Int)) fun _ _ _ h => h.setSz ps.length (by omega)
      have q1 : IntKind.i64.wrap (ps.length : Int) = (ps.length : Int) := by rw [IntKind.wrap_i64]; omega
      have HP : Hid (LayP w D F lb sb pre es ns sz x ps.length (0, su, sl, sd) (0, r2) (.returned (.int .i64 0)) (((w6.setCell ⟨lb, 4, none⟩ (.slice ao6 (ns.length + 1) cap6)).setCell ⟨lb, 5, none⟩ (.int .i64 0)).setCell ⟨lb, 5, none⟩ (.int .i64 (ps.length : Int)))) := Or.inr (Or.inr ⟨rfl, rfl, rfl, hR9⟩)
      clear hR6 hR8 hR9 hl7 hl8
      go_wp2_with fail
      go_ret
      exact HP.out
    · have hb0 : (r1 == 0) = false := by simp [hr0]
      have HP : Hid (LayP w D F lb sb pre es ns sz x ps.length (0, su, sl, sd) (r1, r2) (.returned (.int .i64 r1)) w5) := Or.inr (Or.inl ⟨rfl, hr0, rfl, hR5⟩)
      clear hR5
      go_wp2_with fail
      go_ret
      exact HP.out
  · have hb0 : (s1 == 0) = false := by simp [hs0]
    have HP : Hid (LayP w D F lb sb pre es ns sz x ps.length (s1, su, sl, sd) (r1, r2) (.returned (.int .i64 s1)) w3) := Or.inl ⟨hs0, rfl, hR⟩
    clear hR HA
    go_wp2_with fail
    go_ret
    exact HP.out
end Go.Proofs.YtnkjhooeklodcaaGreatDoor
end

section
/-
  Append: what it refuses.
-/
namespace Go.Proofs.YtnkjhooeklodcaaGreatDoor
open Go.RowKit Go.Maps Go.Sort

variable {F : Nat → Prop} {lb sb : Nat} {pre : List UInt8} {ev nv : Value} {es : List En} {las : Nat} {ns : List (List UInt8)} {sz : Nat}
set_option maxHeartbeats 2000000 in
set_option maxRecDepth 100000 in
theorem LAppend_dead (v : Value) (w : World) (h : Lg w F lb sb pre ev nv es las ns sz true) :
    Calls Tryz.prog 16 #[.pointer (some ⟨lb, 0, none⟩), v] w fun e w' => e = .returned (.tuple #[.int .i64 0, .int .i64 9]) ∧ w' = w := by
  have c6 : w.cell? ⟨lb, 6, none⟩ = some (.bool true) := h.blk.cell 6
  clear h
  go_enter Tryz.func16, Tryz.ntmps16
  go_wp2_with fail
  go_ret2
  exact ⟨rfl, rfl⟩
set_option maxHeartbeats 2000000 in
set_option maxRecDepth 100000 in
theorem LAppend_long (ao : Option Addr) (n cap : Nat) (hn : 65526 < n) (w : World) (h : Lg w F lb sb pre ev nv es las ns sz false) :
    Calls Tryz.prog 16 #[.pointer (some ⟨lb, 0, none⟩), .slice ao n cap] w fun e w' => e = .returned (.tuple #[.int .i64 0, .int .i64 5]) ∧ w' = w := by
  have c6 : w.cell? ⟨lb, 6, none⟩ = some (.bool false) := h.blk.cell 6
  have f1 : (65526 : Int) < (n : Int) := by omega
  clear h
  go_enter Tryz.func16, Tryz.ntmps16
  go_wp2_with fail
  go_ret2
  exact ⟨rfl, rfl⟩
end Go.Proofs.YtnkjhooeklodcaaGreatDoor
end

section
/-
  lay, whole (lay_any); Append, where it lays.
-/
namespace Go.Proofs.YtnkjhooeklodcaaGreatDoor
open Go.RowKit Go.Maps Go.Sort

variable {w w' w1 w2 : World} {D F D' F' : Nat → Prop} {lb sb : Nat} {u u' : Ud} {pre : List UInt8} {ev nv : Value} {es es' : List En} {las las' : Nat} {ns ns' : List (List UInt8)} {sz sz' : Nat} {dead dead' : Bool}
structure Ly where
  er : Int
  u : Ud
  las : Nat
  ns : List (List UInt8)
  sz : Nat
  dead : Bool
def lyOld (r : Int × Ud) (las : Nat) (ns : List (List UInt8)) (sz n : Nat) (dead : Bool) : Ly := ⟨r.1, r.2, las, ns, if r.1 = 0 then sz + n else sz, if r.1 = 0 ∨ r.1 = 6 then dead else true⟩
def lyNew (s : Int × Ud × Nat × Bool) (r : Int × Ud) (ns : List (List UInt8)) (sz n : Nat) (x : List UInt8) : Ly :=
  if s.1 ≠ 0 then ⟨s.1, s.2.1, s.2.2.1, ns, sz, s.2.2.2⟩ else if r.1 ≠ 0 then ⟨r.1, r.2, s.2.2.1, ns, sz, if r.1 = 0 ∨ r.1 = 6 then s.2.2.2 else true⟩ else ⟨0, r.2, s.2.2.1, ns ++ [x], n, s.2.2.2⟩
def lyL (u : Ud) (n las : Nat) (ns : List (List UInt8)) (sz : Nat) (dead : Bool) (pre : List UInt8) (b : List Int) : Ly :=
  if ns ≠ [] ∧ sz < 512 then lyOld (u.five [lastN ns] (wrU (lastN ns) b u.room)) las ns sz b.length dead
  else lyNew (syL u n las (lastN ns) dead) ((syL u n las (lastN ns) dead).2.1.five [nameN pre (n + 1)] (wrU (nameN pre (n + 1)) b (syL u n las (lastN ns) dead).2.1.room)) ns sz b.length (nameN pre (n + 1))
theorem lay_any (w : World) (h : Ld w D F lb sb u pre es las ns sz dead) (ap : Option Addr) (cp : Nat) (ps : List Int) (hps : Bs w (.slice ap ps.length cp) ps) (hby : Byt ps) (hpl : ps.length ≤ 70000) (hk : ∀ k, (Value.slice ap ps.length cp).ownBlock = some k → ¬ D k ∧ ¬ F k)
    (hp : Pw w) (hx : (lastN ns).length ≤ maxLen) (hx2 : (nameN pre (es.length + 1)).length ≤ maxLen) (hf : ns.length + 1 ≤ 10000000) :
    Calls Tryz.prog 47 #[.pointer (some ⟨lb, 0, none⟩), .slice ap ps.length cp] w fun e w' => e = .returned (.int .i64 (lyL u es.length las ns sz dead pre ps).er) ∧
      LRes w D F lb sb pre (lyL u es.length las ns sz dead pre ps).u es (lyL u es.length las ns sz dead pre ps).las (lyL u es.length las ns sz dead pre ps).ns (lyL u es.length las ns sz dead pre ps).sz (lyL u es.length las ns sz dead pre ps).dead w' := by
  by_cases hc : ns ≠ [] ∧ sz < 512
  · refine (lay_old w h ap cp ps hps hby hpl hx hc.1 hc.2).mono ?_
    rintro e w' ⟨rfl, hR⟩
    simp only [lyL, if_pos hc, lyOld]
    exact ⟨trivial, hR⟩
  · have hn : ns = [] ∨ 512 ≤ sz := by
      by_cases h0 : ns = []
      · exact Or.inl h0
      · exact Or.inr (by
          have : ¬ sz < 512 := fun h1 => hc ⟨h0, h1⟩
          omega)
    refine (lay_new w h ap cp ps hps hby hpl hk hp hx hx2 hn hf _ rfl _ rfl).mono ?_
    intro e w' hP
    simp only [lyL, if_neg hc]
    generalize syL u es.length las (lastN ns) dead = s at *
    generalize s.2.1.five [nameN pre (es.length + 1)] (wrU (nameN pre (es.length + 1)) ps s.2.1.room) = r at *
    rcases hP with ⟨h1, rfl, hR⟩ | ⟨h1, h2, rfl, hR⟩ | ⟨h1, h2, rfl, hR⟩
    · simp only [lyNew, if_pos h1]; exact ⟨trivial, hR⟩
    · simp only [lyNew, if_neg (show ¬ s.1 ≠ 0 from fun e => e h1), if_pos h2]; exact ⟨trivial, hR⟩
    · simp only [lyNew, if_neg (show ¬ s.1 ≠ 0 from fun e => e h1), if_neg (show ¬ r.1 ≠ 0 from fun e => e h2)]; exact ⟨trivial, hR⟩
section
variable {ops : Array Oper} {o : Oper} {a : Act} {K : Act → World → Prop} {Q : Exit → Act → World → Prop} {E : Prop}
theorem step_made_row (hgd : o.guard = none) (x : Operand) (ho : o.op = .buildSlice 29 1 #[(0, x)]) (ap : Option Addr) (l cp : Nat) (hx : a.eval x = .slice ap l cp)
    (h : K (a.put o.dst (.slice (some ⟨w.heap.size, 0, none⟩) 1 1)) (w.alloc (.cells #[.slice ap l cp] 38))) : if Region.wanted o (yielded ops a.tmps) = true then Oper.wp Tryz.prog o a w K Q else E := by
  have hw : Region.wanted o (yielded ops a.tmps) = true := by simp [Region.wanted, hgd]
  rw [if_pos hw]
  unfold Oper.wp execOp
  simp only [ho, Sem.run_bind, List.map_toArray, List.map_cons, List.map_nil, hx, Fr.mk_row1, Result.andThen_ok]
  exact h
theorem step_append_en (hgd : o.guard = none) (s x : Operand)
    (ho : o.op = .call { callee := .builtin .append, args := #[s, x], argTypes := #[29, 29] })
    (v : Value) (n : Nat) (us : List Value) (hs : a.eval s = v) (hown : w.ownsRow 0 38 1 v n us) (B : Nat) (u : Value) (hu1 : u.oneCell' = true) (hx : a.eval x = .slice (some ⟨B, 0, none⟩) 1 1) (hb : w.cell? ⟨B, 0, none⟩ = some u)
    (h63 : n ≤ 1000000000)
    (h : ∀ ao cap w', w'.ownsRow 0 38 1 (.slice ao (n + 1) cap) (n + 1) (us ++ [u]) → w.grownBy w' v.ownBlock → ((Value.slice ao (n + 1) cap).ownBlock = v.ownBlock ∨ (Value.slice ao (n + 1) cap).ownBlock = some w.heap.size) →
      K (a.put o.dst (.slice ao (n + 1) cap)) w') : if Region.wanted o (yielded ops a.tmps) = true then Oper.wp Tryz.prog o a w K Q else E := by
  have hw : Region.wanted o (yielded ops a.tmps) = true := by simp [Region.wanted, hgd]
  rw [if_pos hw]
  obtain ⟨i0, hi, hz0, hz1, hz2⟩ := info_parts Fr.Tz.info22
  obtain ⟨v', w', hrun, h2, h3, _, h5⟩ := run_append_own_at (P := Tryz.prog) w 0 29 o.type 38 i0 (.slice none 0 0) 1 24 Tryz.underlying29 hi hz0 hz1 hz2 rfl (by decide) v n us hown ⟨B, 0, none⟩ 1 1 [u] rfl
    (by intro j y hy
        cases j with
        | zero => rw [Addr.add_lit]; simp at hy; subst hy; exact hb
        | succ j => simp at hy) (by intro y hy; simp at hy; subst hy; exact hu1) (by unfold maxLen; omega) (by omega) (Nat.zero_le _)
  have hv' : ∃ ao cap, v' = .slice ao (n + 1) cap := by
    rcases h2.2 with ⟨_, h6⟩ | ⟨g, cap, cur, h6, _⟩
    · omega
    · exact ⟨some ⟨g, 0, none⟩, cap, h6⟩
  obtain ⟨ao, cap, rfl⟩ := hv'
  unfold Oper.wp execOp
  simp only [ho, resolve, invoke, builtin, Sem.run_bind, Sem.run_pure, Result.andThen_ok, List.map_toArray, List.map_cons, List.map_nil, hs, hx, hrun]
  exact h ao cap w' h2 h3 h5
end
theorem LRes.addE {w5 w6 W : World} {D5 F5 : Nat → Prop} (h1 : Ld w5 D5 F5 lb sb u pre es las ns sz dead) (h2 : ∀ k, D5 k → D k ∨ w.heap.size ≤ k) (h3 : ∀ k, F5 k → F k ∨ w.heap.size ≤ k) (h4 : Grows (fun k => D k ∨ F k) w w5)
    (hl : Lg w5 F5 lb sb pre ev nv es las ns sz dead) (hA : Below w5.heap.size w5 W) (cv : Value) (p : List Int) (hcv : Bs W cv p) (hy : Byt p) (hpl : p.length ≤ 65536) (hcb : ∀ k, cv.ownBlock = some k → w5.heap.size ≤ k ∧ k < W.heap.size)
    (ev' : Value) (hrow : w6.ownsRow 0 38 1 ev' (es.length + 1) (enOf es ++ [cv])) (hg : W.grownBy w6 ev.ownBlock) (hat : ev'.ownBlock = ev.ownBlock ∨ ev'.ownBlock = some W.heap.size) (hf : es.length + 1 ≤ 10000000) :
    LRes w D F lb sb pre u (es ++ [(cv, p)]) las ns sz dead (w6.setCell ⟨lb, 2, none⟩ ev') := by
  have hWs := hA.size
  have hl2 : Lg W (fun k => F5 k ∨ w5.heap.size ≤ k) lb sb pre ev nv es las ns sz dead := (hl.below hA).more fun k hk => Or.inl hk
  have hlb := hl.blk.lt
  have hl3 := (hl2.add cv p hcv hy hpl (fun k hk => by
    obtain ⟨k1, k2⟩ := hcb k hk
    refine ⟨Or.inr k1, by omega, fun e => ?_, fun e => ?_, k2⟩
    · have := (World.ownsRow.lt hl.ent k e).2; omega
    · have := (World.ownsRow.lt hl.nam k e).2; omega) w6 ev' hrow hg hat (Or.inr (by omega)) hf).tight
  have hs6 : w5.heap.size ≤ w6.heap.size := by have := hg.size; omega
  have h45 := h4.size
  have hblk : ∀ k, k < w5.heap.size → ¬ F5 k → (w6.setCell ⟨lb, 2, none⟩ ev').heap[k]? = w5.heap[k]? := fun k hk hn => by
    rw [set_other _ _ _ _ _ fun e => hn (by rw [e]; exact hl.lF), hg.block k (by omega) fun e => hn (hl.sep.1 k e.symm).1]
    exact hA.block k hk
  refine ⟨D5, _, ⟨h1.d.keep fun k hk hlt => hblk k hlt (h1.ap k hk), ⟨ev', nv, hl3⟩, fun k hk => by rw [set_size]; have := h1.dl k hk; omega, fun k hk => hk.2, fun k hk hf => ?_⟩, h2, fun k hk => ?_, ⟨?_, ?_, ?_, ?_, fun k hk hn => ?_⟩⟩
  · rcases hf.1 with e | e
    · exact h1.ap k hk e
    · have := h1.dl k hk
      omega
  · rcases hk.1 with e | e
    · exact h3 k e
    · exact Or.inr (by omega)
  · exact hg.os.trans (hA.os.trans h4.os)
  · exact hg.tape.trans (hA.tape.trans h4.tape)
  · exact hg.output.trans (hA.output.trans h4.output)
  · rw [set_size]; omega
  · refine (hblk k (by omega) fun e => ?_).trans (h4.block k hk hn)
    rcases h3 k e with e | e
    · exact hn (Or.inr e)
    · omega
set_option maxHeartbeats 4000000 in
set_option maxRecDepth 100000 in
theorem LAppend_any (sv : Value) (zs : List Int) (w : World) (h : Ld w D F lb sb u pre es las ns sz false) (hb : Bs w sv zs) (hy : Byt zs) (hz : zs.length ≤ 65526) (hk : zs ≠ [] → ∀ k, sv.ownBlock = some k → ¬ D k ∧ ¬ F k) (ht : Fr.Tab w)
    (hp : Pw w) (h8 : 8 ≤ w.heap.size) (hx : (lastN ns).length ≤ maxLen) (hx2 : (nameN pre (es.length + 1)).length ≤ maxLen) (hf : ns.length + 1 ≤ 10000000) (hfe : es.length + 1 ≤ 10000000) (y : Ly) (hyy : lyL u es.length las ns sz false pre (Fr.entN ((es.length : Int) + 1) zs) = y) (hel : (Fr.entN ((es.length : Int) + 1) zs).length ≤ 70000) (hey : Byt (Fr.entN ((es.length : Int) + 1) zs)) :
    Calls Tryz.prog 16 #[.pointer (some ⟨lb, 0, none⟩), sv] w fun e w' => (y.er ≠ 0 ∧ e = .returned (.tuple #[.int .i64 0, .int .i64 y.er]) ∧ LRes w D F lb sb pre y.u es y.las y.ns y.sz y.dead w') ∨
      (y.er = 0 ∧ e = .returned (.tuple #[.int .i64 ((es.length : Int) + 1), .int .i64 0]) ∧ ∃ cv, LRes w D F lb sb pre y.u (es ++ [(cv, zs)]) y.las y.ns y.sz y.dead w') := by
  obtain ⟨ev, nv, hl⟩ := h.l
  obtain ⟨ao, cap, hsv, hml⟩ := hb.len
  subst hsv
  have c6 : w.cell? ⟨lb, 6, none⟩ = some (.bool false) := hl.blk.cell 6
  have CN := next_any w hl
  have CR := Fr.record_any ((es.length : Int) + 1) (.slice ao zs.length cap) zs w hb hy hz ht (by omega) (by omega)
  have f1 : ¬ (65526 : Int) < (zs.length : Int) := by omega
  have HA : Hid (∀ ar cr w2, Fr.Ow w2 w.heap.size (.slice ar (Fr.entN ((es.length : Int) + 1) zs).length cr) (Fr.entN ((es.length : Int) + 1) zs) → Below w.heap.size w w2 → Calls Tryz.prog 47 #[.pointer (some ⟨lb, 0, none⟩), .slice ar (Fr.entN ((es.length : Int) + 1) zs).length cr] w2 fun e w' => e = .returned (.int .i64 y.er) ∧ LRes w D F lb sb pre y.u es y.las y.ns y.sz y.dead w') := by
    intro ar cr w2 ho hB
    have := lay_any w2 (h.below hB) ar cr _ (Ow.bs ho) hey hel (fun k hk => by
      have h1 := (World.ownsRow.lt ho k hk).1
      exact ⟨fun e => by have := h.dl k e; omega, fun e => by have := h.fl k e; omega⟩) (hp.keep fun k hk => hB.block k (by omega)) hx hx2 hf
    rw [hyy] at this
    refine this.mono ?_
    rintro e w3 ⟨rfl, hR⟩
    exact ⟨rfl, LRes.after hB hR⟩
  have HB := hid_into hb
  clear h hl hb hp ht hyy hel hey hx hx2
  generalize Fr.entN ((es.length : Int) + 1) zs = rc at *
  go_enter Tryz.func16, Tryz.ntmps16
  go_wp2_with fail
  refine CN.mono ?_
  rintro e w1 ⟨rfl, hw1⟩
  replace hw1 := hw1.symm
  subst hw1
  go_wp2_with fail
  refine CR.mono ?_
  rintro e w2 ⟨ar, cr, rfl, ho2, hB2⟩
  go_wp2_with fail
  refine (HA.out ar cr w2 ho2 hB2).mono ?_
  rintro e w3 ⟨rfl, hR⟩
  clear CN CR HA ho2 hB2
  by_cases h0 : y.er = 0
  · have hb3 : Bs w3 (.slice ao zs.length cap) zs := by
      by_cases hne : zs = []
      · rcases HB.out with hn | ⟨hn, _⟩
        · exact Or.inl hn
        · exact absurd hne hn
      · exact hR.bs HB.out (hk hne)
    obtain ⟨D3, F3, h1, h2, h3, h4⟩ := hR
    obtain ⟨ev3, nv3, hl3⟩ := h1.l
    obtain ⟨ae, ce, hev⟩ := hl3.evform
    subst hev
    have c2 : w3.cell? ⟨lb, 2, none⟩ = some (.slice ae es.length ce) := hl3.blk.cell 2
    have hn0 : (y.er != 0) = false := by simp [h0]
    have HH := hid_into h1
    have H2 := hid_into h2
    have H3 := hid_into h3
    have H4 := hid_into h4
    have HL := hid_into hl3
    have HB3 := hid_into hb3
    have h0' := hid_into h0
    clear h1 h2 h3 h4 hl3 hb3 h0
    go_wp2_with fail
    have hS : w3.drew.cell? ⟨lb, 2, none⟩ = some (.slice ae es.length ce) := c2
    refine wp_region_L 11 (fun w' => w'.cell? ⟨lb, 2, none⟩ = some (.slice ae es.length ce)) (by kernel_rfl) ?_
    refine' wpL_take 0 28 rfl rfl (by kernel_rfl) (by kernel_rfl) (by kernel_rfl) (by kernel_rfl) (fun _ _ _ h => h) (by rfl) hS ?y28 ?r28
    case y28 => (intro u hSu; (try dsimp only at hSu); go_simp; try with_reducible rfl)
    simp only [Act.put, List.setIfInBounds_toArray, List.set_cons_zero, List.set_cons_succ]
    refine' wpL_take 1 29 rfl rfl (by kernel_rfl) (by kernel_rfl) (by kernel_rfl) (by kernel_rfl) (fun _ _ _ h => h) (by rfl) hS ?y29 ?r29
    case y29 => (intro u hSu; (try dsimp only at hSu); go_simp; try with_reducible rfl)
    simp only [Act.put, List.setIfInBounds_toArray, List.set_cons_zero, List.set_cons_succ]
    refine' wpL_take 2 30 rfl rfl (by kernel_rfl) (by kernel_rfl) (by kernel_rfl) (by kernel_rfl) (fun _ _ _ h => h) (by rfl) hS ?y30 ?r30
    case y30 => (intro u hSu; (try dsimp only at hSu); go_simp; try with_reducible rfl)
    simp only [Act.put, List.setIfInBounds_toArray, List.set_cons_zero, List.set_cons_succ]
    refine' wpL_take 3 31 rfl rfl (by kernel_rfl) (by kernel_rfl) (by kernel_rfl) (by kernel_rfl) (fun _ _ _ h => h) (by rfl) hS ?y31 ?r31
    case y31 => (intro u hSu; (try dsimp only at hSu); go_simp; try with_reducible rfl)
    simp only [Act.put, List.setIfInBounds_toArray, List.set_cons_zero, List.set_cons_succ]
    refine' wpL_take 4 32 rfl rfl (by kernel_rfl) (by kernel_rfl) (by kernel_rfl) (by kernel_rfl) (fun _ _ _ h => h) (by rfl) hS ?y32 ?r32
    case y32 => (intro u hSu; (try dsimp only at hSu); go_simp; try with_reducible rfl)
    simp only [Act.put, List.setIfInBounds_toArray, List.set_cons_zero, List.set_cons_succ]
    refine' wpL_take 5 33 rfl rfl (by kernel_rfl) (by kernel_rfl) (by kernel_rfl) (by kernel_rfl) (fun _ _ _ h => h) (by rfl) hS ?y33 ?r33
    case y33 => (intro u hSu; (try dsimp only at hSu); go_simp; try with_reducible rfl)
    simp only [Act.put, List.setIfInBounds_toArray, List.set_cons_zero, List.set_cons_succ]
    refine wpL_one (i := 6) (by kernel_rfl) rfl (fun K hK => ?_)
    rw [if_pos (by rfl)]
    go_simp
    refine (clone_any (.slice ao zs.length cap) zs w3.drew (HB3.out.keep fun k _ _ => rfl) (by omega)).mono ?_
    rintro e w4 ⟨ac, cc, rfl, ho4, hB4⟩
    have hB4' : Below w3.heap.size w3 w4 := ⟨hB4.os, hB4.tape, hB4.output, hB4.size, hB4.block⟩
    have hl4 := HL.out.below hB4'
    refine hK.out _ _ (fun _ => hl4.blk.cell 2) ?_
    clear hK K
    refine wpL_one (i := 7) (by kernel_rfl) rfl (fun K hK => ?_)
    refine step_made_row rfl (.tmp 34) rfl ac zs.length cc rfl ?_
    have hA5 : Below w3.heap.size w3 (w4.alloc (.cells #[.slice ac zs.length cc] 38)) := hB4'.alloc hB4'.size _
    have hl5 := HL.out.below hA5
    refine hK.out _ _ (fun _ => hl5.blk.cell 2) ?_
    change wpL Tryz.prog _ _ _ _ _ _ _ (Act.put _ (some 35) _) _
    clear hK K
    simp only [Act.put, List.setIfInBounds_toArray, List.set_cons_zero, List.set_cons_succ]
    refine wpL_one (i := 8) (by kernel_rfl) rfl (fun K hK => ?_)
    refine step_append_en rfl (.tmp 32) (.tmp 35) rfl (.slice ae es.length ce) es.length (enOf es) rfl hl5.ent w4.heap.size (.slice ac zs.length cc) rfl rfl (by rw [cell_of_row _ _ 0 _ _ _ (heap_alloc_new w4 _)]; rfl) (by omega) ?_
    intro ao6 cap6 w6 ho6 hg6 hat6
    have hb6 := hl5.blk.keep (hg6.block lb hl5.blk.lt fun e => (hl5.sep.1 lb e.symm).2.1 rfl)
    have c6b : w6.cell? ⟨lb, 2, none⟩ = some (.slice ae es.length ce) := hb6.cell 2
    have f6b := hb6.frozen 2
    refine hK.out _ _ (fun _ => c6b) ?_
    change wpL Tryz.prog _ _ _ _ _ _ _ (Act.put _ (some 36) _) _
    clear hK K
    simp only [Act.put, List.setIfInBounds_toArray, List.set_cons_zero, List.set_cons_succ]
    have hcb : ∀ k, (Value.slice ac zs.length cc).ownBlock = some k → w3.heap.size ≤ k ∧ k < (w4.alloc (.cells #[.slice ac zs.length cc] 38)).heap.size := fun k hk => by
      have := World.ownsRow.lt ho4 k hk
      rw [World.size_alloc]
      exact ⟨this.1, by omega⟩
    have hcv : Bs (w4.alloc (.cells #[.slice ac zs.length cc] 38)) (.slice ac zs.length cc) zs := (Ow.bs ho4).keep fun k _ hk => Below.heap_alloc _ _ _ hk
    have HR : Hid (LRes w D F lb sb pre y.u (es ++ [(.slice ac zs.length cc, zs)]) y.las y.ns y.sz y.dead (w6.setCell ⟨lb, 2, none⟩ (.slice ao6 (es.length + 1) cap6))) := LRes.addE HH.out H2.out H3.out H4.out HL.out hA5 _ zs hcv hy (by omega) hcb _ ho6 hg6 hat6 hfe
    have c7 : (w6.setCell ⟨lb, 2, none⟩ (.slice ao6 (es.length + 1) cap6)).cell? ⟨lb, 2, none⟩ = some (.slice ao6 (es.length + 1) cap6) := (hb6.set 2 _).cell 2
    clear HH H2 H3 H4 HL hA5 hcv hcb ho6 hg6 hat6 hb6 hl4 hl5 ho4 hB4 hB4'
    refine wpL_one (i := 9) (by kernel_rfl) rfl (fun K hK => ?_)
    rw [if_pos (by rfl)]
    go_simp
    refine hK.out _ _ (fun _ => c6b) ?_
    clear hK K
    refine wpL_one (i := 10) (by kernel_rfl) rfl (fun K hK => ?_)
    rw [if_pos (by rfl)]
    go_simp
    refine hK.out _ _ (fun _ => c6b) ?_
    clear hK K
    refine wpL_one (i := 11) (by kernel_rfl) rfl (fun K hK => ?_)
    rw [if_pos (by rfl)]
    go_simp
    refine hK.out _ _ (fun e => absurd rfl e) ?_
    clear hK K
    refine wpL_done (by kernel_rfl) ?_ _
    go_wp2_with fail
    go_ret2
    exact Or.inr ⟨h0'.out, rfl, _, HR.out⟩
  · have hn0 : (y.er != 0) = true := by simp [h0]
    have HR := hid_into hR
    clear hR
    go_wp2_with fail
    go_ret2
    exact Or.inl ⟨h0, rfl, HR.out⟩
end Go.Proofs.YtnkjhooeklodcaaGreatDoor
end
