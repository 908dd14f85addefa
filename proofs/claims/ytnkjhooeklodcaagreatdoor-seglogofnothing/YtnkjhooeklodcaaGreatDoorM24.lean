/-
  Joined from: SegAppB, SegSegs.
-/
import Derived.Test.YtnkjhooeklodcaaGreatDoorM23
import Derived.Test.YtnkjhooeklodcaaGreatDoorM09
section
/-
  lay, whole (lay_any); Append, where it lays.
-/
namespace Go.Proofs.YtnkjhooeklodcaaGreatDoor
open Go.RowKit Go.Maps Go.Sort

variable {w w' w1 w2 : World} {D F D' F' : Nat → Prop} {lb sb : Nat} {u u' : Ud} {pre : List UInt8} {ev nv : Value} {es es' : List En} {las las' : Nat} {ns ns' : List (List UInt8)} {sz sz' : Nat} {dead dead' : Bool}
/-- What lay answers, and how the log stands behind it. -/
structure Ly where
  er : Int
  u : Ud
  las : Nat
  ns : List (List UInt8)
  sz : Nat
  dead : Bool
def lyOld (r : Int × Ud) (las : Nat) (ns : List (List UInt8)) (sz n : Nat) (dead : Bool) : Ly := ⟨r.1, r.2, las, ns, if r.1 = 0 then sz + n else sz, if r.1 = 0 ∨ r.1 = 6 then dead else true⟩
def lyNew (s : Int × Ud × Nat × Bool) (r : Int × Ud) (ns : List (List UInt8)) (sz n : Nat) (x : List UInt8) : Ly :=
  if s.1 ≠ 0 then ⟨s.1, s.2.1, s.2.2.1, ns, sz, s.2.2.2⟩ else if r.1 ≠ 0 then ⟨r.1, r.2, s.2.2.1, ns, sz, if r.1 = 0 ∨ r.1 = 6 then s.2.2.2 else true⟩ else ⟨0, r.2, s.2.2.1, ns ++ [x], n, s.2.2.2⟩
def lyL (u : Ud) (n las : Nat) (ns : List (List UInt8)) (sz : Nat) (dead : Bool) (pre : List UInt8) (b : List Int) : Ly :=
  if ns ≠ [] ∧ sz < 512 then lyOld (u.five [lastN ns] (wrU (lastN ns) b u.room)) las ns sz b.length dead
  else lyNew (syL u n las (lastN ns) dead) ((syL u n las (lastN ns) dead).2.1.five [nameN pre (n + 1)] (wrU (nameN pre (n + 1)) b (syL u n las (lastN ns) dead).2.1.room)) ns sz b.length (nameN pre (n + 1))
theorem lay_any (w : World) (h : Ld w D F lb sb u pre es las ns sz dead) (ap : Option Addr) (cp : Nat) (ps : List Int) (hps : Bs w (.slice ap ps.length cp) ps) (hby : Byt ps) (hpl : ps.length ≤ 70000) (hk : ∀ k, (Value.slice ap ps.length cp).ownBlock = some k → ¬ D k ∧ ¬ F k)
    (hp : Pw w) (hx : (lastN ns).length ≤ maxLen) (hx2 : (nameN pre (es.length + 1)).length ≤ maxLen) (hf : ns.length + 1 ≤ 10000000) :
    Calls Tryz.prog 47 #[.pointer (some ⟨lb, 0, none⟩), .slice ap ps.length cp] w fun e w' => e = .returned (.int .i64 (lyL u es.length las ns sz dead pre ps).er) ∧
      LRes w D F lb sb pre (lyL u es.length las ns sz dead pre ps).u es (lyL u es.length las ns sz dead pre ps).las (lyL u es.length las ns sz dead pre ps).ns (lyL u es.length las ns sz dead pre ps).sz (lyL u es.length las ns sz dead pre ps).dead w' := by
  by_cases hc : ns ≠ [] ∧ sz < 512
  · refine (lay_old w h ap cp ps hps hby hpl hx hc.1 hc.2).mono ?_
    rintro e w' ⟨rfl, hR⟩
    simp only [lyL, if_pos hc, lyOld]
    exact ⟨trivial, hR⟩
  · have hn : ns = [] ∨ 512 ≤ sz := by
      by_cases h0 : ns = []
      · exact Or.inl h0
      · exact Or.inr (by
          have : ¬ sz < 512 := fun h1 => hc ⟨h0, h1⟩
          omega)
    refine (lay_new w h ap cp ps hps hby hpl hk hp hx hx2 hn hf _ rfl _ rfl).mono ?_
    intro e w' hP
    simp only [lyL, if_neg hc]
    generalize syL u es.length las (lastN ns) dead = s at *
    generalize s.2.1.five [nameN pre (es.length + 1)] (wrU (nameN pre (es.length + 1)) ps s.2.1.room) = r at *
    rcases hP with ⟨h1, rfl, hR⟩ | ⟨h1, h2, rfl, hR⟩ | ⟨h1, h2, rfl, hR⟩
    · simp only [lyNew, if_pos h1]; exact ⟨trivial, hR⟩
    · simp only [lyNew, if_neg (show ¬ s.1 ≠ 0 from fun e => e h1), if_pos h2]; exact ⟨trivial, hR⟩
    · simp only [lyNew, if_neg (show ¬ s.1 ≠ 0 from fun e => e h1), if_neg (show ¬ r.1 ≠ 0 from fun e => e h2)]; exact ⟨trivial, hR⟩
section
variable {ops : Array Oper} {o : Oper} {a : Act} {K : Act → World → Prop} {Q : Exit → Act → World → Prop} {E : Prop}
theorem step_made_row (hgd : o.guard = none) (x : Operand) (ho : o.op = .buildSlice 29 1 #[(0, x)]) (ap : Option Addr) (l cp : Nat) (hx : a.eval x = .slice ap l cp)
    (h : K (a.put o.dst (.slice (some ⟨w.heap.size, 0, none⟩) 1 1)) (w.alloc (.cells #[.slice ap l cp] 38))) : if Region.wanted o (yielded ops a.tmps) = true then Oper.wp Tryz.prog o a w K Q else E := by
  have hw : Region.wanted o (yielded ops a.tmps) = true := by simp [Region.wanted, hgd]
  rw [if_pos hw]
  unfold Oper.wp execOp
  simp only [ho, Sem.run_bind, List.map_toArray, List.map_cons, List.map_nil, hx, Fr.mk_row1, Result.andThen_ok]
  exact h
theorem step_append_en (hgd : o.guard = none) (s x : Operand)
    (ho : o.op = .call { callee := .builtin .append, args := #[s, x], argTypes := #[29, 29] })
    (v : Value) (n : Nat) (us : List Value) (hs : a.eval s = v) (hown : w.ownsRow 0 38 1 v n us) (B : Nat) (u : Value) (hu1 : u.oneCell' = true) (hx : a.eval x = .slice (some ⟨B, 0, none⟩) 1 1) (hb : w.cell? ⟨B, 0, none⟩ = some u)
    (h63 : n ≤ 1000000000)
    (h : ∀ ao cap w', w'.ownsRow 0 38 1 (.slice ao (n + 1) cap) (n + 1) (us ++ [u]) → w.grownBy w' v.ownBlock → ((Value.slice ao (n + 1) cap).ownBlock = v.ownBlock ∨ (Value.slice ao (n + 1) cap).ownBlock = some w.heap.size) →
      K (a.put o.dst (.slice ao (n + 1) cap)) w') : if Region.wanted o (yielded ops a.tmps) = true then Oper.wp Tryz.prog o a w K Q else E := by
  have hw : Region.wanted o (yielded ops a.tmps) = true := by simp [Region.wanted, hgd]
  rw [if_pos hw]
  obtain ⟨i0, hi, hz0, hz1, hz2⟩ := info_parts Fr.Tz.info22
  obtain ⟨v', w', hrun, h2, h3, _, h5⟩ := run_append_own_at (P := Tryz.prog) w 0 29 o.type 38 i0 (.slice none 0 0) 1 24 Tryz.underlying29 hi hz0 hz1 hz2 rfl (by decide) v n us hown ⟨B, 0, none⟩ 1 1 [u] rfl
    (by intro j y hy
        cases j with
        | zero => rw [Addr.add_lit]; simp at hy; subst hy; exact hb
        | succ j => simp at hy) (by intro y hy; simp at hy; subst hy; exact hu1) (by unfold maxLen; omega) (by omega) (Nat.zero_le _)
  have hv' : ∃ ao cap, v' = .slice ao (n + 1) cap := by
    rcases h2.2 with ⟨_, h6⟩ | ⟨g, cap, cur, h6, _⟩
    · omega
    · exact ⟨some ⟨g, 0, none⟩, cap, h6⟩
  obtain ⟨ao, cap, rfl⟩ := hv'
  unfold Oper.wp execOp
  simp only [ho, resolve, invoke, builtin, Sem.run_bind, Sem.run_pure, Result.andThen_ok, List.map_toArray, List.map_cons, List.map_nil, hs, hx, hrun]
  exact h ao cap w' h2 h3 h5
end
/-- An entry more, of a log over its disk. -/
theorem LRes.addE {w5 w6 W : World} {D5 F5 : Nat → Prop} (h1 : Ld w5 D5 F5 lb sb u pre es las ns sz dead) (h2 : ∀ k, D5 k → D k ∨ w.heap.size ≤ k) (h3 : ∀ k, F5 k → F k ∨ w.heap.size ≤ k) (h4 : Grows (fun k => D k ∨ F k) w w5)
    (hl : Lg w5 F5 lb sb pre ev nv es las ns sz dead) (hA : Below w5.heap.size w5 W) (cv : Value) (p : List Int) (hcv : Bs W cv p) (hy : Byt p) (hpl : p.length ≤ 65536) (hcb : ∀ k, cv.ownBlock = some k → w5.heap.size ≤ k ∧ k < W.heap.size)
    (ev' : Value) (hrow : w6.ownsRow 0 38 1 ev' (es.length + 1) (enOf es ++ [cv])) (hg : W.grownBy w6 ev.ownBlock) (hat : ev'.ownBlock = ev.ownBlock ∨ ev'.ownBlock = some W.heap.size) (hf : es.length + 1 ≤ 10000000) :
    LRes w D F lb sb pre u (es ++ [(cv, p)]) las ns sz dead (w6.setCell ⟨lb, 2, none⟩ ev') := by
  have hWs := hA.size
  have hl2 : Lg W (fun k => F5 k ∨ w5.heap.size ≤ k) lb sb pre ev nv es las ns sz dead := (hl.below hA).more fun k hk => Or.inl hk
  have hlb := hl.blk.lt
  have hl3 := (hl2.add cv p hcv hy hpl (fun k hk => by
    obtain ⟨k1, k2⟩ := hcb k hk
    refine ⟨Or.inr k1, by omega, fun e => ?_, fun e => ?_, k2⟩
    · have := (World.ownsRow.lt hl.ent k e).2; omega
    · have := (World.ownsRow.lt hl.nam k e).2; omega) w6 ev' hrow hg hat (Or.inr (by omega)) hf).tight
  have hs6 : w5.heap.size ≤ w6.heap.size := by have := hg.size; omega
  have h45 := h4.size
  have hblk : ∀ k, k < w5.heap.size → ¬ F5 k → (w6.setCell ⟨lb, 2, none⟩ ev').heap[k]? = w5.heap[k]? := fun k hk hn => by
    rw [set_other _ _ _ _ _ fun e => hn (by rw [e]; exact hl.lF), hg.block k (by omega) fun e => hn (hl.sep.1 k e.symm).1]
    exact hA.block k hk
  refine ⟨D5, _, ⟨h1.d.keep fun k hk hlt => hblk k hlt (h1.ap k hk), ⟨ev', nv, hl3⟩, fun k hk => by rw [set_size]; have := h1.dl k hk; omega, fun k hk => hk.2, fun k hk hf => ?_⟩, h2, fun k hk => ?_, ⟨?_, ?_, ?_, ?_, fun k hk hn => ?_⟩⟩
  · rcases hf.1 with e | e
    · exact h1.ap k hk e
    · have := h1.dl k hk
      omega
  · rcases hk.1 with e | e
    · exact h3 k e
    · exact Or.inr (by omega)
  · exact hg.os.trans (hA.os.trans h4.os)
  · exact hg.tape.trans (hA.tape.trans h4.tape)
  · exact hg.output.trans (hA.output.trans h4.output)
  · rw [set_size]; omega
  · refine (hblk k (by omega) fun e => ?_).trans (h4.block k hk hn)
    rcases h3 k e with e | e
    · exact hn (Or.inr e)
    · omega
set_option maxHeartbeats 4000000 in
set_option maxRecDepth 100000 in
theorem LAppend_any (sv : Value) (zs : List Int) (w : World) (h : Ld w D F lb sb u pre es las ns sz false) (hb : Bs w sv zs) (hy : Byt zs) (hz : zs.length ≤ 65526) (hk : ∀ k, sv.ownBlock = some k → ¬ D k ∧ ¬ F k) (ht : Fr.Tab w)
    (hp : Pw w) (h8 : 8 ≤ w.heap.size) (hx : (lastN ns).length ≤ maxLen) (hx2 : (nameN pre (es.length + 1)).length ≤ maxLen) (hf : ns.length + 1 ≤ 10000000) (hfe : es.length + 1 ≤ 10000000) (y : Ly) (hyy : lyL u es.length las ns sz false pre (Fr.entN ((es.length : Int) + 1) zs) = y) (hel : (Fr.entN ((es.length : Int) + 1) zs).length ≤ 70000) (hey : Byt (Fr.entN ((es.length : Int) + 1) zs)) :
    Calls Tryz.prog 16 #[.pointer (some ⟨lb, 0, none⟩), sv] w fun e w' => (y.er ≠ 0 ∧ e = .returned (.tuple #[.int .i64 0, .int .i64 y.er]) ∧ LRes w D F lb sb pre y.u es y.las y.ns y.sz y.dead w') ∨
      (y.er = 0 ∧ e = .returned (.tuple #[.int .i64 ((es.length : Int) + 1), .int .i64 0]) ∧ ∃ cv, LRes w D F lb sb pre y.u (es ++ [(cv, zs)]) y.las y.ns y.sz y.dead w') := by
  obtain ⟨ev, nv, hl⟩ := h.l
  obtain ⟨ao, cap, hsv, hml⟩ := hb.len
  subst hsv
  have c6 : w.cell? ⟨lb, 6, none⟩ = some (.bool false) := hl.blk.cell 6
  have CN := next_any w hl
  have CR := Fr.record_any ((es.length : Int) + 1) (.slice ao zs.length cap) zs w hb hy hz ht (by omega) (by omega)
  have f1 : ¬ (65526 : Int) < (zs.length : Int) := by omega
  have HA : Hid (∀ ar cr w2, Fr.Ow w2 w.heap.size (.slice ar (Fr.entN ((es.length : Int) + 1) zs).length cr) (Fr.entN ((es.length : Int) + 1) zs) → Below w.heap.size w w2 → Calls Tryz.prog 47 #[.pointer (some ⟨lb, 0, none⟩), .slice ar (Fr.entN ((es.length : Int) + 1) zs).length cr] w2 fun e w' => e = .returned (.int .i64 y.er) ∧ LRes w D F lb sb pre y.u es y.las y.ns y.sz y.dead w') := by
    intro ar cr w2 ho hB
    have := lay_any w2 (h.below hB) ar cr _ (Ow.bs ho) hey hel (fun k hk => by
      have h1 := (World.ownsRow.lt ho k hk).1
      exact ⟨fun e => by have := h.dl k e; omega, fun e => by have := h.fl k e; omega⟩) (hp.keep fun k hk => hB.block k (by omega)) hx hx2 hf
    rw [hyy] at this
    refine this.mono ?_
    rintro e w3 ⟨rfl, hR⟩
    exact ⟨rfl, LRes.after hB hR⟩
  have HB := hid_into hb
  clear h hl hb hp ht hyy hel hey hx hx2
  generalize Fr.entN ((es.length : Int) + 1) zs = rc at *
  go_enter Tryz.func16, Tryz.ntmps16
  go_wp2_with fail
  refine CN.mono ?_
  rintro e w1 ⟨rfl, hw1⟩
  replace hw1 := hw1.symm
  subst hw1
  go_wp2_with fail
  refine CR.mono ?_
  rintro e w2 ⟨ar, cr, rfl, ho2, hB2⟩
  go_wp2_with fail
  refine (HA.out ar cr w2 ho2 hB2).mono ?_
  rintro e w3 ⟨rfl, hR⟩
  clear CN CR HA ho2 hB2
  by_cases h0 : y.er = 0
  · have hb3 := hR.bs HB.out hk
    obtain ⟨D3, F3, h1, h2, h3, h4⟩ := hR
    obtain ⟨ev3, nv3, hl3⟩ := h1.l
    obtain ⟨ae, ce, hev⟩ := hl3.evform
    subst hev
    have c2 : w3.cell? ⟨lb, 2, none⟩ = some (.slice ae es.length ce) := hl3.blk.cell 2
    have hn0 : (y.er != 0) = false := by simp [h0]
    have HH := hid_into h1
    have H2 := hid_into h2
    have H3 := hid_into h3
    have H4 := hid_into h4
    have HL := hid_into hl3
    have HB3 := hid_into hb3
    have h0' := hid_into h0
    clear h1 h2 h3 h4 hl3 hb3 h0
    go_wp2_with fail
    have hS : w3.drew.cell? ⟨lb, 2, none⟩ = some (.slice ae es.length ce) := c2
    refine wp_region_L 11 (fun w' => w'.cell? ⟨lb, 2, none⟩ = some (.slice ae es.length ce)) (by kernel_rfl) ?_
    refine' wpL_take 0 28 rfl rfl (by kernel_rfl) (by kernel_rfl) (by kernel_rfl) (by kernel_rfl) (fun _ _ _ h => h) (by rfl) hS ?y28 ?r28
    case y28 => (intro u hSu; (try dsimp only at hSu); go_simp; try with_reducible rfl)
    simp only [Act.put, List.setIfInBounds_toArray, List.set_cons_zero, List.set_cons_succ]
    refine' wpL_take 1 29 rfl rfl (by kernel_rfl) (by kernel_rfl) (by kernel_rfl) (by kernel_rfl) (fun _ _ _ h => h) (by rfl) hS ?y29 ?r29
    case y29 => (intro u hSu; (try dsimp only at hSu); go_simp; try with_reducible rfl)
    simp only [Act.put, List.setIfInBounds_toArray, List.set_cons_zero, List.set_cons_succ]
    refine' wpL_take 2 30 rfl rfl (by kernel_rfl) (by kernel_rfl) (by kernel_rfl) (by kernel_rfl) (fun _ _ _ h => h) (by rfl) hS ?y30 ?r30
    case y30 => (intro u hSu; (try dsimp only at hSu); go_simp; try with_reducible rfl)
    simp only [Act.put, List.setIfInBounds_toArray, List.set_cons_zero, List.set_cons_succ]
    refine' wpL_take 3 31 rfl rfl (by kernel_rfl) (by kernel_rfl) (by kernel_rfl) (by kernel_rfl) (fun _ _ _ h => h) (by rfl) hS ?y31 ?r31
    case y31 => (intro u hSu; (try dsimp only at hSu); go_simp; try with_reducible rfl)
    simp only [Act.put, List.setIfInBounds_toArray, List.set_cons_zero, List.set_cons_succ]
    refine' wpL_take 4 32 rfl rfl (by kernel_rfl) (by kernel_rfl) (by kernel_rfl) (by kernel_rfl) (fun _ _ _ h => h) (by rfl) hS ?y32 ?r32
    case y32 => (intro u hSu; (try dsimp only at hSu); go_simp; try with_reducible rfl)
    simp only [Act.put, List.setIfInBounds_toArray, List.set_cons_zero, List.set_cons_succ]
    refine' wpL_take 5 33 rfl rfl (by kernel_rfl) (by kernel_rfl) (by kernel_rfl) (by kernel_rfl) (fun _ _ _ h => h) (by rfl) hS ?y33 ?r33
    case y33 => (intro u hSu; (try dsimp only at hSu); go_simp; try with_reducible rfl)
    simp only [Act.put, List.setIfInBounds_toArray, List.set_cons_zero, List.set_cons_succ]
    refine wpL_one (i := 6) (by kernel_rfl) rfl (fun K hK => ?_)
    rw [if_pos (by rfl)]
    go_simp
    refine (clone_any (.slice ao zs.length cap) zs w3.drew (HB3.out.keep fun k _ _ => rfl) (by omega)).mono ?_
    rintro e w4 ⟨ac, cc, rfl, ho4, hB4⟩
    have hB4' : Below w3.heap.size w3 w4 := ⟨hB4.os, hB4.tape, hB4.output, hB4.size, hB4.block⟩
    have hl4 := HL.out.below hB4'
    refine hK.out _ _ (fun _ => hl4.blk.cell 2) ?_
    clear hK K
    refine wpL_one (i := 7) (by kernel_rfl) rfl (fun K hK => ?_)
    refine step_made_row rfl (.tmp 34) rfl ac zs.length cc rfl ?_
    have hA5 : Below w3.heap.size w3 (w4.alloc (.cells #[.slice ac zs.length cc] 38)) := hB4'.alloc hB4'.size _
    have hl5 := HL.out.below hA5
    refine hK.out _ _ (fun _ => hl5.blk.cell 2) ?_
    change wpL Tryz.prog _ _ _ _ _ _ _ (Act.put _ (some 35) _) _
    clear hK K
    simp only [Act.put, List.setIfInBounds_toArray, List.set_cons_zero, List.set_cons_succ]
    refine wpL_one (i := 8) (by kernel_rfl) rfl (fun K hK => ?_)
    refine step_append_en rfl (.tmp 32) (.tmp 35) rfl (.slice ae es.length ce) es.length (enOf es) rfl hl5.ent w4.heap.size (.slice ac zs.length cc) rfl rfl (by rw [cell_of_row _ _ 0 _ _ _ (heap_alloc_new w4 _)]; rfl) (by omega) ?_
    intro ao6 cap6 w6 ho6 hg6 hat6
    have hb6 := hl5.blk.keep (hg6.block lb hl5.blk.lt fun e => (hl5.sep.1 lb e.symm).2.1 rfl)
    have c6b : w6.cell? ⟨lb, 2, none⟩ = some (.slice ae es.length ce) := hb6.cell 2
    have f6b := hb6.frozen 2
    refine hK.out _ _ (fun _ => c6b) ?_
    change wpL Tryz.prog _ _ _ _ _ _ _ (Act.put _ (some 36) _) _
    clear hK K
    simp only [Act.put, List.setIfInBounds_toArray, List.set_cons_zero, List.set_cons_succ]
    have hcb : ∀ k, (Value.slice ac zs.length cc).ownBlock = some k → w3.heap.size ≤ k ∧ k < (w4.alloc (.cells #[.slice ac zs.length cc] 38)).heap.size := fun k hk => by
      have := World.ownsRow.lt ho4 k hk
      rw [World.size_alloc]
      exact ⟨this.1, by omega⟩
    have hcv : Bs (w4.alloc (.cells #[.slice ac zs.length cc] 38)) (.slice ac zs.length cc) zs := (Ow.bs ho4).keep fun k _ hk => Below.heap_alloc _ _ _ hk
    have HR : Hid (LRes w D F lb sb pre y.u (es ++ [(.slice ac zs.length cc, zs)]) y.las y.ns y.sz y.dead (w6.setCell ⟨lb, 2, none⟩ (.slice ao6 (es.length + 1) cap6))) := LRes.addE HH.out H2.out H3.out H4.out HL.out hA5 _ zs hcv hy (by omega) hcb _ ho6 hg6 hat6 hfe
    have c7 : (w6.setCell ⟨lb, 2, none⟩ (.slice ao6 (es.length + 1) cap6)).cell? ⟨lb, 2, none⟩ = some (.slice ao6 (es.length + 1) cap6) := (hb6.set 2 _).cell 2
    clear HH H2 H3 H4 HL hA5 hcv hcb ho6 hg6 hat6 hb6 hl4 hl5 ho4 hB4 hB4'
    refine wpL_one (i := 9) (by kernel_rfl) rfl (fun K hK => ?_)
    rw [if_pos (by rfl)]
    go_simp
    refine hK.out _ _ (fun _ => c6b) ?_
    clear hK K
    refine wpL_one (i := 10) (by kernel_rfl) rfl (fun K hK => ?_)
    rw [if_pos (by rfl)]
    go_simp
    refine hK.out _ _ (fun _ => c6b) ?_
    clear hK K
    refine wpL_one (i := 11) (by kernel_rfl) rfl (fun K hK => ?_)
    rw [if_pos (by rfl)]
    go_simp
    refine hK.out _ _ (fun e => absurd rfl e) ?_
    clear hK K
    refine wpL_done (by kernel_rfl) ?_ _
    go_wp2_with fail
    go_ret2
    exact Or.inr ⟨h0'.out, rfl, _, HR.out⟩
  · have hn0 : (y.er != 0) = true := by simp [h0]
    have HR := hid_into hR
    clear hR
    go_wp2_with fail
    go_ret2
    exact Or.inl ⟨h0, rfl, HR.out⟩
end Go.Proofs.YtnkjhooeklodcaaGreatDoor
end

section
/-
  segments: the names that are a prefix's segments, out of all names of the disk.
-/
namespace Go.Proofs.YtnkjhooeklodcaaGreatDoor
open Go.RowKit Go.Maps Go.Sort

/-- The names that are segments of a prefix. -/
def segsN (ns : List (List UInt8)) (pre : List UInt8) : List (List UInt8) := ns.filter fun n => isSeg n pre
/-- The variable at block t holds the names L; all else is as it was. -/
structure Sg (w1 : World) (t : Nat) (wr : World) (tv : Value) (L : List (List UInt8)) : Prop where
  blk : Cw wr t [tv] 69
  row : Ot wr 0 tv L
  own : ∀ k, tv.ownBlock = some k → w1.heap.size ≤ k
  g : Grows (fun k => k = t) w1 wr
variable {w1 wr w2 : World} {t : Nat} {tv : Value} {L : List (List UInt8)}
theorem Sg.below (h : Sg w1 t wr tv L) (hb : Below wr.heap.size wr w2) : Sg w1 t w2 tv L :=
  ⟨h.blk.below hb h.blk.lt, Fr.ownsRow_keep h.row fun k _ hlt => hb.block k hlt, h.own, ⟨hb.os.trans h.g.os, hb.tape.trans h.g.tape, hb.output.trans h.g.output, Nat.le_trans h.g.size hb.size, fun k hk hn => (hb.block k (Nat.lt_of_lt_of_le hk h.g.size)).trans (h.g.block k hk hn)⟩⟩
theorem Ot.cell {w : World} {base : Nat} {ns : List (List UInt8)} {g n cap : Nat} (h : Ot w base (.slice (some ⟨g, 0, none⟩) n cap) ns) {i : Nat} {x : List UInt8} (hx : ns[i]? = some x) : w.cell? ⟨g, i, none⟩ = some (encStr x) := by
  have := World.ownsRow.cells h (g := g) rfl i (encStr x) (by simp [hx])
  simpa [Addr.add_lit] using this
section
variable {w : World} {ops : Array Oper} {o : Oper} {a : Act} {K : Act → World → Prop} {Q : Exit → Act → World → Prop} {E : Prop}
theorem step_made_str (hgd : o.guard = none) (x : Operand) (ho : o.op = .buildSlice 69 1 #[(0, x)]) (s : List UInt8) (hx : a.eval x = encStr s)
    (h : K (a.put o.dst (.slice (some ⟨w.heap.size, 0, none⟩) 1 1)) (w.alloc (.cells #[encStr s] 9))) : if Region.wanted o (yielded ops a.tmps) = true then Oper.wp Tryz.prog o a w K Q else E := by
  have hw : Region.wanted o (yielded ops a.tmps) = true := by simp [Region.wanted, hgd]
  rw [if_pos hw]
  unfold Oper.wp execOp
  simp only [ho, Sem.run_bind, List.map_toArray, List.map_cons, List.map_nil, hx, mk_str1, Result.andThen_ok]
  exact h
theorem step_append_nm (hgd : o.guard = none) (s x : Operand)
    (ho : o.op = .call { callee := .builtin .append, args := #[s, x], argTypes := #[69, 69] })
    (base : Nat) (v : Value) (ss : List (List UInt8)) (hs : a.eval s = v) (hown : Ot w base v ss) (B : Nat) (n : List UInt8) (hx : a.eval x = .slice (some ⟨B, 0, none⟩) 1 1) (hb : w.cell? ⟨B, 0, none⟩ = some (encStr n))
    (h63 : ss.length ≤ 1000000000) (hbase : base ≤ w.heap.size)
    (h : ∀ ao cap w', Ot w' base (.slice ao (ss.length + 1) cap) (ss ++ [n]) → w.grownBy w' v.ownBlock → ((Value.slice ao (ss.length + 1) cap).ownBlock = v.ownBlock ∨ (Value.slice ao (ss.length + 1) cap).ownBlock = some w.heap.size) →
      K (a.put o.dst (.slice ao (ss.length + 1) cap)) w') : if Region.wanted o (yielded ops a.tmps) = true then Oper.wp Tryz.prog o a w K Q else E := by
  have hw : Region.wanted o (yielded ops a.tmps) = true := by simp [Region.wanted, hgd]
  rw [if_pos hw]
  obtain ⟨i0, hi, hz0, hz1, hz2⟩ := info_parts Tryz.info9p
  obtain ⟨v', w', hrun, h2, h3, _, h5⟩ := run_append_own_at (P := Tryz.prog) w base 69 o.type 9 i0 (.string ⟨#[]⟩) 1 16 Tryz.underlying69 hi hz0 hz1 hz2 rfl (by decide) v ss.length (ss.map encStr) hown ⟨B, 0, none⟩ 1 1 [encStr n] rfl
    (by intro j u hu
        cases j with
        | zero => rw [Addr.add_lit]; simp at hu; subst hu; exact hb
        | succ j => simp at hu) (by intro u hu; simp at hu; subst hu; rfl) (by unfold maxLen; omega) (by omega) hbase
  have h2' : Ot w' base v' (ss ++ [n]) := by
    unfold Ot
    rw [List.length_append]
    simpa using h2
  obtain ⟨ao, cap, hv⟩ := h2'.form
  rw [List.length_append] at hv
  subst hv
  unfold Oper.wp execOp
  simp only [ho, resolve, invoke, builtin, Sem.run_bind, Sem.run_pure, Result.andThen_ok, List.map_toArray, List.map_cons, List.map_nil, hs, hx, hrun]
  exact h ao cap w' h2' h3 h5
end
theorem enters44 : ∀ args w, (callFunc 44 args).run Tryz.prog w = .ok (.enter 44 args) w := enters_of Tryz.func44 (by kernel_rfl) rfl
/-- A name more. -/
theorem Sg.add (h : Sg w1 t wr tv L) (x : List UInt8) {w6 : World} {tv' : Value} (ho : Ot w6 0 tv' (L ++ [x])) (hg : (wr.alloc (.cells #[encStr x] 9)).grownBy w6 tv.ownBlock) (hat : tv'.ownBlock = tv.ownBlock ∨ tv'.ownBlock = some (wr.alloc (.cells #[encStr x] 9)).heap.size) (ht : t < w1.heap.size) : Sg w1 t (w6.setCell ⟨t, 0, none⟩ tv') tv' (L ++ [x]) ∧ Cw w6 t [tv] 69 := by
  have hA : Below wr.heap.size wr (wr.alloc (.cells #[encStr x] 9)) := (Below.refl _ _).alloc (Nat.le_refl _) _
  have h2 := h.below hA
  have hsz := h2.g.size
  have hno : ∀ k, tv'.ownBlock = some k → w1.heap.size ≤ k := fun k hk => by
    rcases hat with e | e
    · exact h.own k (by rw [← e]; exact hk)
    · rw [e] at hk
      have := Option.some.inj hk
      omega
  have hb6 : Cw w6 t [tv] 69 := h2.blk.keep (hg.block t h2.blk.lt fun e => by have := h.own t e.symm; omega)
  refine ⟨⟨hb6.set 0 tv', Fr.ownsRow_keep ho fun k hk _ => set_other _ _ _ _ _ fun e => by have := hno k hk; omega, hno, ⟨hg.os.trans h2.g.os, hg.tape.trans h2.g.tape, hg.output.trans h2.g.output, by rw [set_size]; exact Nat.le_trans hsz hg.size, fun k hk hn => ?_⟩⟩, hb6⟩
  rw [set_other _ _ _ _ _ hn, hg.block k (Nat.lt_of_lt_of_le hk hsz) fun e => by have := h.own k e.symm; omega]
  exact h2.g.block k hk hn
set_option maxHeartbeats 4000000 in
set_option maxRecDepth 100000 in
theorem segClo_any {w : World} {D : Nat → Prop} {sb : Nat} {u : Ud} (h : Pd w D sb u) (pre : List UInt8) (p t : Nat) (c0 : w.cell? ⟨p, 0, none⟩ = some (.pointer (some ⟨t, 0, none⟩))) (c1 : w.cell? ⟨p + 1, 0, none⟩ = some (.func (.func 44) #[] #[])) (ht : Cw w t [.slice none 0 0] 69) (hpt : p ≠ t)
    (hnl : ∀ n ∈ u.us.map (·.1), n.length ≤ 140737488355328) (hcn : u.us.length ≤ 1000000) :
    Calls Tryz.prog 108 #[.pointer (some ⟨sb, 0, none⟩), encStr pre, .pointer (some ⟨p + 1, 0, none⟩), .pointer (some ⟨p, 0, none⟩)] w fun e w' => e = .returned (.int .i64 0) ∧ ∃ tv, Sg w t w' tv (segsN (u.us.map (·.1)) pre) := by
  have CNm := pNames h
  have hpl := World.block_lt_of_cell? w _ c0
  have eg := enters44
  obtain ⟨ns, hns⟩ : ∃ ns, ns = u.us.map (·.1) := ⟨_, rfl⟩
  rw [← hns] at CNm hnl ⊢
  have hlen : ns.length ≤ 1000000 := by rw [hns, List.length_map]; exact hcn
  have HNL := hid_into hnl
  clear h hns hnl hcn
  go_enter Tryz.func108, Tryz.ntmps108
  go_wp2_with fail
  refine CNm.mono ?_
  rintro e w1 ⟨v1, rfl, ho1, hB1⟩
  have ht1 := ht.below hB1 ht.lt
  have hs1 := hB1.size
  have hptl := ht.lt
  obtain ⟨ao1, cap1, hv1⟩ := ho1.form
  subst hv1
  have hnb : ∀ k, (Value.slice ao1 ns.length cap1).ownBlock = some k → w.heap.size ≤ k ∧ k < w1.heap.size := fun k hk => World.ownsRow.lt ho1 k hk
  have hst : Hid (Sg w1 t w1 (.slice none 0 0) (segsN (ns.take 0) pre)) := ⟨ht1, World.ownsRow_nil _ _ _ _, (fun k hk => by cases hk), Grows.refl _ _⟩
  have HO := hid_into ho1
  have HNB := hid_into hnb
  have HBB := hid_into hB1
  clear ho1 hnb ht1 CNm hB1 ht
  go_wp2_with fail
  go_loopw [13] (fun i wr => ∃ k : Nat, k ≤ ns.length ∧ i = .int .i64 (k : Int) ∧ Hid (∃ tv, Sg w1 t wr tv (segsN (ns.take k) pre))) (fun i _ => ns.length - (intOf i).toNat)
  case atStart => exact ⟨0, Nat.zero_le _, rfl, ⟨_, hst.out⟩⟩
  case round =>
    clear hst
    obtain ⟨k, hk, rfl, HS⟩ := hrel
    by_cases hlt : k < ns.length
    · obtain ⟨x, hx⟩ : ∃ x, ns[k]? = some x := ⟨_, List.getElem?_eq_getElem hlt⟩
      obtain ⟨tv, hS⟩ := HS.out
      have hrow : Ot wr w.heap.size (.slice ao1 ns.length cap1) ns := Fr.ownsRow_keep HO.out fun k2 hk2 _ => hS.g.block k2 (HNB.out k2 hk2).2 fun e => by have := (HNB.out k2 hk2).1; omega
      obtain ⟨g, hg⟩ : ∃ g, ao1 = some ⟨g, 0, none⟩ := by
        rcases hrow.2 with ⟨_, h2⟩ | ⟨g, cap, cur, h2, _⟩
        · omega
        · simp only [Value.slice.injEq] at h2
          exact ⟨g, h2.1⟩
      subst hg
      have y1 := hrow.cell hx
      have hxl := HNL.out x (List.mem_of_getElem? hx)
      have htake : ns.take (k + 1) = ns.take k ++ [x] := by rw [List.take_add_one, hx]; rfl
      have CS := isSeg_any x pre wr hxl
      have HT := hid_into htake
      have HSg := hid_into hS
      clear HS hS hrow hx htake
      cases hseg : isSeg x pre with
      | false =>
        rw [hseg] at CS
        have HX : Hid (segsN (ns.take (k + 1)) pre = segsN (ns.take k) pre) := by show _ = _; rw [HT.out]; simp [segsN, hseg]
        clear hseg
        go_wp2_with fail
        refine CS.mono ?_
        rintro e w3 ⟨rfl, hB3⟩
        go_wp2_with fail
        go_roundw
        case rel => exact ⟨k + 1, by omega, by go_num, ⟨tv, by rw [HX.out]; exact HSg.out.below hB3⟩⟩
        case measure => simp [intOf]; omega
      | true =>
        rw [hseg] at CS
        have HX : Hid (segsN (ns.take (k + 1)) pre = segsN (ns.take k) pre ++ [x]) := by show _ = _; rw [HT.out]; simp [segsN, hseg]
        clear hseg
        go_wp2_with fail
        refine CS.mono ?_
        rintro e w3 ⟨rfl, hB3⟩
        have hS3 := HSg.out.below hB3
        obtain ⟨at3, ct3, htv⟩ := hS3.row.form
        subst htv
        have ct : w3.cell? ⟨t, 0, none⟩ = some (.slice at3 (segsN (ns.take k) pre).length ct3) := hS3.blk.cell 0
        have cp : w3.cell? ⟨p, 0, none⟩ = some (.pointer (some ⟨t, 0, none⟩)) := by
          rw [World.cell?_of_block (w := w1) (hS3.g.block p (by omega) hpt), HBB.out.cell (p := ⟨p, 0, none⟩) hpl]
          exact c0
        have hll : (segsN (ns.take k) pre).length ≤ 1000000 := by
          have h1 : (segsN (ns.take k) pre).length ≤ (ns.take k).length := List.length_filter_le _ _
          rw [List.length_take] at h1
          omega
        have htl : t < w1.heap.size := by omega
        have H3 := hid_into hS3
        clear hS3 CS hB3 HSg y1 c0
        generalize segsN (ns.take k) pre = L3 at *
        go_wp2_with fail
        have hS : w3.drew.cell? ⟨p, 0, none⟩ = some (.pointer (some ⟨t, 0, none⟩)) ∧ w3.drew.cell? ⟨t, 0, none⟩ = some (.slice at3 L3.length ct3) := ⟨cp, ct⟩
        refine wp_region_L 8 (fun w' => w'.cell? ⟨p, 0, none⟩ = some (.pointer (some ⟨t, 0, none⟩)) ∧ w'.cell? ⟨t, 0, none⟩ = some (.slice at3 L3.length ct3)) (by kernel_rfl) ?_
        refine' wpL_take 0 20 rfl rfl (by kernel_rfl) (by kernel_rfl) (by kernel_rfl) (by kernel_rfl) (fun _ _ _ h => h) (by rfl) hS ?y20 ?r20
        case y20 => (intro u hSu; obtain ⟨hSu1, hSu2⟩ := hSu; (try dsimp only at hSu1 hSu2); go_simp; try with_reducible rfl)
        simp only [Act.put, List.setIfInBounds_toArray, List.set_cons_zero, List.set_cons_succ]
        refine' wpL_take 1 21 rfl rfl (by kernel_rfl) (by kernel_rfl) (by kernel_rfl) (by kernel_rfl) (fun _ _ _ h => h) (by rfl) hS ?y21 ?r21
        case y21 => (intro u hSu; obtain ⟨hSu1, hSu2⟩ := hSu; (try dsimp only at hSu1 hSu2); go_simp; try with_reducible rfl)
        simp only [Act.put, List.setIfInBounds_toArray, List.set_cons_zero, List.set_cons_succ]
        refine' wpL_take 2 22 rfl rfl (by kernel_rfl) (by kernel_rfl) (by kernel_rfl) (by kernel_rfl) (fun _ _ _ h => h) (by rfl) hS ?y22 ?r22
        case y22 => (intro u hSu; obtain ⟨hSu1, hSu2⟩ := hSu; (try dsimp only at hSu1 hSu2); go_simp; try with_reducible rfl)
        simp only [Act.put, List.setIfInBounds_toArray, List.set_cons_zero, List.set_cons_succ]
        refine' wpL_take 3 23 rfl rfl (by kernel_rfl) (by kernel_rfl) (by kernel_rfl) (by kernel_rfl) (fun _ _ _ h => h) (by rfl) hS ?y23 ?r23
        case y23 => (intro u hSu; obtain ⟨hSu1, hSu2⟩ := hSu; (try dsimp only at hSu1 hSu2); go_simp; try with_reducible rfl)
        simp only [Act.put, List.setIfInBounds_toArray, List.set_cons_zero, List.set_cons_succ]
        refine' wpL_take 4 24 rfl rfl (by kernel_rfl) (by kernel_rfl) (by kernel_rfl) (by kernel_rfl) (fun _ _ _ h => h) (by rfl) hS ?y24 ?r24
        case y24 => (intro u hSu; obtain ⟨hSu1, hSu2⟩ := hSu; (try dsimp only at hSu1 hSu2); go_simp; try with_reducible rfl)
        simp only [Act.put, List.setIfInBounds_toArray, List.set_cons_zero, List.set_cons_succ]
        have hA4 : Below w3.heap.size w3 (w3.alloc (.cells #[encStr x] 9)) := (Below.refl _ _).alloc (Nat.le_refl _) _
        have h4 := H3.out.below hA4
        have cp4 : (w3.alloc (.cells #[encStr x] 9)).cell? ⟨p, 0, none⟩ = some (.pointer (some ⟨t, 0, none⟩)) := by
          rw [hA4.cell (p := ⟨p, 0, none⟩) (World.block_lt_of_cell? w3 _ cp)]; exact cp
        refine wpL_one (i := 5) (by kernel_rfl) rfl (fun K hK => ?_)
        refine step_made_str rfl (.tmp 24) rfl x rfl ?_
        refine hK.out _ _ (fun _ => ⟨cp4, h4.blk.cell 0⟩) ?_
        change wpL Tryz.prog _ _ _ _ _ _ _ (Act.put _ (some 25) _) _
        clear hK K
        simp only [Act.put, List.setIfInBounds_toArray, List.set_cons_zero, List.set_cons_succ]
        refine wpL_one (i := 6) (by kernel_rfl) rfl (fun K hK => ?_)
        refine step_append_nm rfl (.tmp 23) (.tmp 25) rfl 0 (.slice at3 L3.length ct3) L3 rfl (by exact h4.row) w3.heap.size x rfl (by exact (cell_of_row _ _ 0 _ _ _ (heap_alloc_new w3 _)).trans rfl) (by omega) (Nat.zero_le _) ?_
        intro ao6 cap6 w6 ho6 hg6 hat6
        have hg6' : (w3.alloc (.cells #[encStr x] 9)).grownBy w6 (Value.slice at3 L3.length ct3).ownBlock := ⟨hg6.os, hg6.tape, hg6.output, hg6.size, hg6.block⟩
        obtain ⟨hS6, hb6⟩ := H3.out.add x ho6 hg6' hat6 htl
        have ct6 : w6.cell? ⟨t, 0, none⟩ = some (.slice at3 L3.length ct3) := hb6.cell 0
        have ft6 := hb6.frozen 0
        have cp6 : w6.cell? ⟨p, 0, none⟩ = some (.pointer (some ⟨t, 0, none⟩)) := by
          rw [World.cell?_of_block (w := w3.alloc (.cells #[encStr x] 9)) (hg6'.block p (World.block_lt_of_cell? _ _ cp4) fun e => by have := H3.out.own p e.symm; omega)]
          exact cp4
        refine hK.out _ _ (fun _ => ⟨cp6, ct6⟩) ?_
        change wpL Tryz.prog _ _ _ _ _ _ _ (Act.put _ (some 26) _) _
        clear hK K
        simp only [Act.put, List.setIfInBounds_toArray, List.set_cons_zero, List.set_cons_succ]
        have H6 := hid_into hS6
        clear hS6 hb6 ho6 hg6 hg6' hat6 h4 hA4 cp4 H3
        refine wpL_one (i := 7) (by kernel_rfl) rfl (fun K hK => ?_)
        rw [if_pos (by rfl)]
        go_simp
        refine hK.out _ _ (fun _ => ⟨cp6, ct6⟩) ?_
        clear hK K
        refine wpL_one (i := 8) (by kernel_rfl) rfl (fun K hK => ?_)
        rw [if_pos (by rfl)]
        go_simp
        refine hK.out _ _ (fun e => absurd rfl e) ?_
        clear hK K
        refine wpL_done (by kernel_rfl) ?_ _
        go_wp2_with fail
        go_roundw
        case rel => exact ⟨k + 1, by omega, by go_num, ⟨_, by rw [HX.out]; exact H6.out⟩⟩
        case measure => simp [intOf]; omega
    · obtain ⟨tv, hS⟩ := HS.out
      rw [List.take_of_length_le (by omega)] at hS
      have HSg := hid_into hS
      clear HS hS
      go_wp2_with fail
      go_ret
      refine ⟨rfl, tv, HSg.out.blk, HSg.out.row, fun k hk => Nat.le_trans hs1 (HSg.out.own k hk), ?_⟩
      have hg := HSg.out.g
      exact ⟨hg.os.trans HBB.out.os, hg.tape.trans HBB.out.tape, hg.output.trans HBB.out.output, Nat.le_trans hs1 hg.size, fun k hk hn => (hg.block k (by omega) hn).trans (HBB.out.block k hk)⟩
end Go.Proofs.YtnkjhooeklodcaaGreatDoor
end
