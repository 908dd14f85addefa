/-
  Joined from: SegXa, SegXo.
-/
import Derived.Test.YtnkjhooeklodcaaGreatDoorM35
section
/-
  The document's log: an entry more, a segment more.
-/
namespace Go.Proofs.YtnkjhooeklodcaaGreatDoor
open Go.RowKit Go.Maps Go.Sort

variable {w w' : World} {D F : Nat → Prop} {lb wb : Nat} {u : Ud} {pre : List UInt8} {ev sv : Value} {es : List En} {ss : List Nat} {sure : Nat} {dead : Bool}
theorem Xg.add (h : Xg w F lb wb pre ev sv es ss sure dead) (u : Value) (p : List Int) (hu : Bs w u p) (hy : Byt p) (hl : p.length ≤ 65536)
    (huF : ∀ k, u.ownBlock = some k → F k ∧ k ≠ lb ∧ ev.ownBlock ≠ some k ∧ sv.ownBlock ≠ some k ∧ k < w.heap.size)
    (w2 : World) (ev' : Value) (hrow : w2.ownsRow 0 38 1 ev' (es.length + 1) (enOf es ++ [u])) (hg : w.grownBy w2 ev.ownBlock) (hat : ev'.ownBlock = ev.ownBlock ∨ ev'.ownBlock = some w.heap.size) (hF : F w.heap.size) (hf : es.length + 1 ≤ 10000000) :
    Xg (w2.setCell ⟨lb, 2, none⟩ ev') F lb wb pre ev' sv (es ++ [(u, p)]) ss sure dead := by
  have hlb := h.blk.lt
  have hne : ∀ k, ev'.ownBlock = some k → k ≠ lb ∧ (ev.ownBlock = some k ∨ k = w.heap.size) := by
    intro k hk
    rcases hat with e | e
    · rw [e] at hk
      exact ⟨(h.sep.1 k hk).2.1, Or.inl hk⟩
    · rw [e] at hk
      have := Option.some.inj hk
      exact ⟨by omega, Or.inr this.symm⟩
  have hkeep : ∀ k, k < w.heap.size → ev.ownBlock ≠ some k → k ≠ lb → (w2.setCell ⟨lb, 2, none⟩ ev').heap[k]? = w.heap[k]? := fun k h1 h2 h3 => (set_other _ _ _ _ _ h3).trans (hg.block k h1 fun e => h2 e.symm)
  have hb2 : Cw w2 lb _ 32 := h.blk.keep (hg.block lb hlb fun e => (h.sep.1 lb e.symm).2.1 rfl)
  have hsz : w.heap.size ≤ (w2.setCell ⟨lb, 2, none⟩ ev').heap.size := by rw [set_size]; exact hg.size
  have hsv : ∀ k, sv.ownBlock = some k → k < w.heap.size := fun k hk => (World.ownsRow.lt h.seg k hk).2
  refine ⟨hb2.set 2 ev', h.lF, ?_, fun r hr => ?_, ?_, ⟨fun k hk => ?_, h.sep.2⟩, ⟨by simpa using hf, h.few.2⟩⟩
  · have e1 : (es ++ [(u, p)]).length = es.length + 1 := by simp
    have e2 : enOf (es ++ [(u, p)]) = enOf es ++ [u] := by simp [enOf]
    rw [e1, e2]
    exact Fr.ownsRow_keep hrow fun k hk _ => set_other _ _ _ _ _ (hne k hk).1
  · have key : Bs w r.1 r.2 ∧ Byt r.2 ∧ r.2.length ≤ 65536 ∧ ∀ k, r.1.ownBlock = some k → F k ∧ k ≠ lb ∧ ev.ownBlock ≠ some k ∧ sv.ownBlock ≠ some k ∧ k < w.heap.size := by
      rcases List.mem_append.1 hr with hm | hm
      · exact h.each r hm
      · obtain rfl : r = (u, p) := by simpa using hm
        exact ⟨hu, hy, hl, huF⟩
    obtain ⟨k1, k2, k3, k4⟩ := key
    refine ⟨k1.keep fun k hk hlt => hkeep k hlt (k4 k hk).2.2.1 (k4 k hk).2.1, k2, k3, fun k hk => ⟨(k4 k hk).1, (k4 k hk).2.1, fun e => ?_, (k4 k hk).2.2.2.1, by have := (k4 k hk).2.2.2.2; omega⟩⟩
    rcases (hne k e).2 with e' | e'
    · exact (k4 k hk).2.2.1 e'
    · have := (k4 k hk).2.2.2.2
      omega
  · exact Fr.ownsRow_keep h.seg fun k hk hlt => hkeep k hlt (fun e => (h.sep.1 k e).2.2 hk) (h.sep.2 k hk).2
  · rcases (hne k hk).2 with e | e
    · exact h.sep.1 k e
    · subst e
      exact ⟨hF, by omega, fun e => by have := hsv _ e; omega⟩
theorem Xg.addS (h : Xg w F lb wb pre ev sv es ss sure dead) (n : Nat) (hn8 : n < 100000000)
    (w2 : World) (sv' : Value) (hrow : w2.ownsRow 0 3 1 sv' (ss.length + 1) (numsOf ss ++ [.int .i64 (n : Int)])) (hg : w.grownBy w2 sv.ownBlock) (hat : sv'.ownBlock = sv.ownBlock ∨ sv'.ownBlock = some w.heap.size) (hF : F w.heap.size) (hf : ss.length + 1 ≤ 10000000) :
    Xg (w2.setCell ⟨lb, 3, none⟩ sv') F lb wb pre ev sv' es (ss ++ [n]) sure dead := by
  have hlb := h.blk.lt
  have hne : ∀ k, sv'.ownBlock = some k → k ≠ lb ∧ (sv.ownBlock = some k ∨ k = w.heap.size) := by
    intro k hk
    rcases hat with e | e
    · rw [e] at hk
      exact ⟨(h.sep.2 k hk).2, Or.inl hk⟩
    · rw [e] at hk
      have := Option.some.inj hk
      exact ⟨by omega, Or.inr this.symm⟩
  have hkeep : ∀ k, k < w.heap.size → sv.ownBlock ≠ some k → k ≠ lb → (w2.setCell ⟨lb, 3, none⟩ sv').heap[k]? = w.heap[k]? := fun k h1 h2 h3 => (set_other _ _ _ _ _ h3).trans (hg.block k h1 fun e => h2 e.symm)
  have hb2 : Cw w2 lb _ 32 := h.blk.keep (hg.block lb hlb fun e => (h.sep.2 lb e.symm).2 rfl)
  have hsz : w.heap.size ≤ (w2.setCell ⟨lb, 3, none⟩ sv').heap.size := by rw [set_size]; exact hg.size
  have hev : ∀ k, ev.ownBlock = some k → k < w.heap.size := fun k hk => (World.ownsRow.lt h.ent k hk).2
  refine ⟨hb2.set 3 sv', h.lF, ?_, fun r hr => ?_, ?_, ⟨fun k hk => ?_, fun k hk => ?_⟩, ⟨h.few.1, by simpa using hf, h.few.2.2.1, h.few.2.2.2.1, fun m hm => (List.mem_append.1 hm).elim (h.few.2.2.2.2 m) fun e => by rw [List.mem_singleton.1 e]; exact hn8⟩⟩
  · exact Fr.ownsRow_keep h.ent fun k hk hlt => hkeep k hlt (h.sep.1 k hk).2.2 (h.sep.1 k hk).2.1
  · obtain ⟨k1, k2, k3, k4⟩ := h.each r hr
    refine ⟨k1.keep fun k hk hlt => hkeep k hlt (k4 k hk).2.2.2.1 (k4 k hk).2.1, k2, k3, fun k hk => ⟨(k4 k hk).1, (k4 k hk).2.1, (k4 k hk).2.2.1, fun e => ?_, by have := (k4 k hk).2.2.2.2; omega⟩⟩
    rcases (hne k e).2 with e' | e'
    · exact (k4 k hk).2.2.2.1 e'
    · have := (k4 k hk).2.2.2.2
      omega
  · have e1 : (ss ++ [n]).length = ss.length + 1 := by simp
    have e2 : numsOf (ss ++ [n]) = numsOf ss ++ [.int .i64 (n : Int)] := by simp [numsOf]
    rw [e1, e2]
    exact Fr.ownsRow_keep hrow fun k hk _ => set_other _ _ _ _ _ (hne k hk).1
  · refine ⟨(h.sep.1 k hk).1, (h.sep.1 k hk).2.1, fun e => ?_⟩
    rcases (hne k e).2 with e' | e'
    · exact (h.sep.1 k hk).2.2 e'
    · have := hev k hk
      omega
  · rcases (hne k hk).2 with e | e
    · exact h.sep.2 k e
    · subst e
      exact ⟨hF, by omega⟩
theorem Xg.tight (h : Xg w F lb wb pre ev sv es ss sure dead) : Xg w (fun k => F k ∧ k < w.heap.size) lb wb pre ev sv es ss sure dead :=
  ⟨h.blk, ⟨h.lF, h.blk.lt⟩, h.ent, fun r hr => ⟨(h.each r hr).1, (h.each r hr).2.1, (h.each r hr).2.2.1, fun k hk => by
    have := (h.each r hr).2.2.2 k hk
    exact ⟨⟨this.1, this.2.2.2.2⟩, this.2⟩⟩, h.seg, ⟨fun k hk => ⟨⟨(h.sep.1 k hk).1, (World.ownsRow.lt h.ent k hk).2⟩, (h.sep.1 k hk).2⟩, fun k hk => ⟨⟨(h.sep.2 k hk).1, (World.ownsRow.lt h.seg k hk).2⟩, (h.sep.2 k hk).2⟩⟩, h.few⟩
theorem XRes.addE {w5 w6 W : World} {D5 F5 : Nat → Prop} (h1 : Xd w5 D5 F5 lb wb u pre es ss sure dead) (h2 : ∀ k, D5 k → D k ∨ w.heap.size ≤ k) (h3 : ∀ k, F5 k → F k ∨ w.heap.size ≤ k) (h4 : Grows (fun k => D k ∨ F k) w w5)
    (hl : Xg w5 F5 lb wb pre ev sv es ss sure dead) (hA : Below w5.heap.size w5 W) (cv : Value) (p : List Int) (hcv : Bs W cv p) (hy : Byt p) (hpl : p.length ≤ 65536) (hcb : ∀ k, cv.ownBlock = some k → w5.heap.size ≤ k ∧ k < W.heap.size)
    (ev' : Value) (hrow : w6.ownsRow 0 38 1 ev' (es.length + 1) (enOf es ++ [cv])) (hg : W.grownBy w6 ev.ownBlock) (hat : ev'.ownBlock = ev.ownBlock ∨ ev'.ownBlock = some W.heap.size) (hf : es.length + 1 ≤ 10000000) :
    XRes w D F lb wb pre u (es ++ [(cv, p)]) ss sure dead (w6.setCell ⟨lb, 2, none⟩ ev') := by
  have hWs := hA.size
  have hl2 : Xg W (fun k => F5 k ∨ w5.heap.size ≤ k) lb wb pre ev sv es ss sure dead := (hl.below hA).more fun k hk => Or.inl hk
  have hlb := hl.blk.lt
  have hl3 := (hl2.add cv p hcv hy hpl (fun k hk => by
    obtain ⟨k1, k2⟩ := hcb k hk
    refine ⟨Or.inr k1, by omega, fun e => ?_, fun e => ?_, k2⟩
    · have := (World.ownsRow.lt hl.ent k e).2; omega
    · have := (World.ownsRow.lt hl.seg k e).2; omega) w6 ev' hrow hg hat (Or.inr (by omega)) hf).tight
  have hs6 : w5.heap.size ≤ w6.heap.size := by have := hg.size; omega
  have h45 := h4.size
  have hblk : ∀ k, k < w5.heap.size → ¬ F5 k → (w6.setCell ⟨lb, 2, none⟩ ev').heap[k]? = w5.heap[k]? := fun k hk hn => by
    rw [set_other _ _ _ _ _ fun e => hn (by rw [e]; exact hl.lF), hg.block k (by omega) fun e => hn (hl.sep.1 k e.symm).1]
    exact hA.block k hk
  refine ⟨D5, _, ⟨h1.d.keep fun k hk hlt => hblk k hlt (h1.ap k hk), ⟨ev', sv, hl3⟩, fun k hk => by rw [set_size]; have := h1.dl k hk; omega, fun k hk => hk.2, fun k hk hf => ?_⟩, h2, fun k hk => ?_, ⟨?_, ?_, ?_, ?_, fun k hk hn => ?_⟩⟩
  · rcases hf.1 with e | e
    · exact h1.ap k hk e
    · have := h1.dl k hk
      omega
  · rcases hk.1 with e | e
    · exact h3 k e
    · exact Or.inr (by omega)
  · exact hg.os.trans (hA.os.trans h4.os)
  · exact hg.tape.trans (hA.tape.trans h4.tape)
  · exact hg.output.trans (hA.output.trans h4.output)
  · rw [set_size]; omega
  · refine (hblk k (by omega) fun e => ?_).trans (h4.block k hk hn)
    rcases h3 k e with e | e
    · exact hn (Or.inr e)
    · omega
theorem XRes.addS {w5 w6 : World} {D5 F5 : Nat → Prop} (h1 : Xd w5 D5 F5 lb wb u pre es ss sure dead) (h2 : ∀ k, D5 k → D k ∨ w.heap.size ≤ k) (h3 : ∀ k, F5 k → F k ∨ w.heap.size ≤ k) (h4 : Grows (fun k => D k ∨ F k) w w5)
    (hl : Xg w5 F5 lb wb pre ev sv es ss sure dead) (n : Nat) (hn8 : n < 100000000) (sv' : Value) (hrow : w6.ownsRow 0 3 1 sv' (ss.length + 1) (numsOf ss ++ [.int .i64 (n : Int)])) (hg : (w5.alloc (.cells #[.int .i64 (n : Int)] 3)).grownBy w6 sv.ownBlock) (hat : sv'.ownBlock = sv.ownBlock ∨ sv'.ownBlock = some (w5.heap.size + 1)) (hf : ss.length + 1 ≤ 10000000) :
    XRes w D F lb wb pre u es (ss ++ [n]) sure dead (w6.setCell ⟨lb, 3, none⟩ sv') := by
  have hA : Below w5.heap.size w5 (w5.alloc (.cells #[.int .i64 (n : Int)] 3)) := (Below.refl _ _).alloc (Nat.le_refl _) _
  have hWs : (w5.alloc (.cells #[.int .i64 (n : Int)] 3)).heap.size = w5.heap.size + 1 := World.size_alloc _ _
  have hl2 : Xg (w5.alloc (.cells #[.int .i64 (n : Int)] 3)) (fun k => F5 k ∨ w5.heap.size ≤ k) lb wb pre ev sv es ss sure dead := (hl.below hA).more fun k hk => Or.inl hk
  have hl3 := (hl2.addS n hn8 w6 sv' hrow hg (by rw [hWs]; exact hat) (Or.inr (by omega)) hf).tight
  have hs6 : w5.heap.size ≤ w6.heap.size := by have := hg.size; omega
  have h45 := h4.size
  have hblk : ∀ k, k < w5.heap.size → ¬ F5 k → (w6.setCell ⟨lb, 3, none⟩ sv').heap[k]? = w5.heap[k]? := fun k hk hn => by
    rw [set_other _ _ _ _ _ fun e => hn (by rw [e]; exact hl.lF), hg.block k (by omega) fun e => hn (hl.sep.2 k e.symm).1]
    exact hA.block k hk
  refine ⟨D5, _, ⟨h1.d.keep fun k hk hlt => hblk k hlt (h1.ap k hk), ⟨ev, sv', hl3⟩, fun k hk => by rw [set_size]; have := h1.dl k hk; omega, fun k hk => hk.2, fun k hk hf => ?_⟩, h2, fun k hk => ?_, ⟨?_, ?_, ?_, ?_, fun k hk hn => ?_⟩⟩
  · rcases hf.1 with e | e
    · exact h1.ap k hk e
    · have := h1.dl k hk
      omega
  · rcases hk.1 with e | e
    · exact h3 k e
    · exact Or.inr (by omega)
  · exact hg.os.trans (hA.os.trans h4.os)
  · exact hg.tape.trans (hA.tape.trans h4.tape)
  · exact hg.output.trans (hA.output.trans h4.output)
  · rw [set_size]; omega
  · refine (hblk k (by omega) fun e => ?_).trans (h4.block k hk hn)
    rcases h3 k e with e | e
    · exact hn (Or.inr e)
    · omega
theorem Tryz.info3p : (Tryz.prog.info? 3).map (fun i => (i.zero, i.size, i.bytes)) = some (some (.int .i64 0), 1, 8) := by kernel_rfl
theorem wpList_append_num (w : World) {ops : Array Oper} {rest : List Oper} {o : Oper} {a : Act} {Q : Exit → Act → World → Prop} (hgd : o.guard = none) (s x : Operand)
    (ho : o.op = .call { callee := .builtin .append, args := #[s, x], argTypes := #[30, 30] })
    (v : Value) (n : Nat) (us : List Value) (hs : a.eval s = v) (hown : w.ownsRow 0 3 1 v n us) (B : Nat) (u : Value) (hu1 : u.oneCell' = true) (hx : a.eval x = .slice (some ⟨B, 0, none⟩) 1 1) (hb : w.cell? ⟨B, 0, none⟩ = some u)
    (h63 : n ≤ 1000000000)
    (h : ∀ ao cap w', w'.ownsRow 0 3 1 (.slice ao (n + 1) cap) (n + 1) (us ++ [u]) → w.grownBy w' v.ownBlock → ((Value.slice ao (n + 1) cap).ownBlock = v.ownBlock ∨ (Value.slice ao (n + 1) cap).ownBlock = some w.heap.size) →
      wpList Tryz.prog ops Q rest (a.put o.dst (.slice ao (n + 1) cap)) w') : wpList Tryz.prog ops Q (o :: rest) a w := by
  obtain ⟨i0, hi, hz0, hz1, hz2⟩ := info_parts Tryz.info3p
  obtain ⟨v', w', hrun, h2, h3, _, h5⟩ := run_append_own_at (P := Tryz.prog) w 0 30 o.type 3 i0 (.int .i64 0) 1 8 Tryz.underlying30 hi hz0 hz1 hz2 rfl (by decide) v n us hown ⟨B, 0, none⟩ 1 1 [u] rfl
    (by intro j y hy
        cases j with
        | zero => rw [Addr.add_lit]; simp at hy; subst hy; exact hb
        | succ j => simp at hy) (by intro y hy; simp at hy; subst hy; exact hu1) (by unfold maxLen; omega) (by omega) (Nat.zero_le _)
  have hv' : ∃ ao cap, v' = .slice ao (n + 1) cap := by
    rcases h2.2 with ⟨_, h6⟩ | ⟨g, cap, cur, h6, _⟩
    · omega
    · exact ⟨some ⟨g, 0, none⟩, cap, h6⟩
  obtain ⟨ao, cap, rfl⟩ := hv'
  refine wpList_plain hgd fun _ hK => ?_
  unfold Oper.wp execOp
  simp only [ho, resolve, invoke, builtin, Sem.run_bind, Sem.run_pure, Result.andThen_ok, List.map_toArray, List.map_cons, List.map_nil, hs, hx, hrun]
  exact hK _ _ (h ao cap w' h2 h3 h5)
section
variable {w : World} {ops : Array Oper} {o : Oper} {a : Act} {K : Act → World → Prop} {Q : Exit → Act → World → Prop} {E : Prop}
theorem step_append_num (hgd : o.guard = none) (s x : Operand)
    (ho : o.op = .call { callee := .builtin .append, args := #[s, x], argTypes := #[30, 30] })
    (v : Value) (n : Nat) (us : List Value) (hs : a.eval s = v) (hown : w.ownsRow 0 3 1 v n us) (B : Nat) (u : Value) (hu1 : u.oneCell' = true) (hx : a.eval x = .slice (some ⟨B, 0, none⟩) 1 1) (hb : w.cell? ⟨B, 0, none⟩ = some u)
    (h63 : n ≤ 1000000000)
    (h : ∀ ao cap w', w'.ownsRow 0 3 1 (.slice ao (n + 1) cap) (n + 1) (us ++ [u]) → w.grownBy w' v.ownBlock → ((Value.slice ao (n + 1) cap).ownBlock = v.ownBlock ∨ (Value.slice ao (n + 1) cap).ownBlock = some w.heap.size) →
      K (a.put o.dst (.slice ao (n + 1) cap)) w') : if Region.wanted o (yielded ops a.tmps) = true then Oper.wp Tryz.prog o a w K Q else E := by
  have hw : Region.wanted o (yielded ops a.tmps) = true := by simp [Region.wanted, hgd]
  rw [if_pos hw]
  obtain ⟨i0, hi, hz0, hz1, hz2⟩ := info_parts Tryz.info3p
  obtain ⟨v', w', hrun, h2, h3, _, h5⟩ := run_append_own_at (P := Tryz.prog) w 0 30 o.type 3 i0 (.int .i64 0) 1 8 Tryz.underlying30 hi hz0 hz1 hz2 rfl (by decide) v n us hown ⟨B, 0, none⟩ 1 1 [u] rfl
    (by intro j y hy
        cases j with
        | zero => rw [Addr.add_lit]; simp at hy; subst hy; exact hb
        | succ j => simp at hy) (by intro y hy; simp at hy; subst hy; exact hu1) (by unfold maxLen; omega) (by omega) (Nat.zero_le _)
  have hv' : ∃ ao cap, v' = .slice ao (n + 1) cap := by
    rcases h2.2 with ⟨_, h6⟩ | ⟨g, cap, cur, h6, _⟩
    · omega
    · exact ⟨some ⟨g, 0, none⟩, cap, h6⟩
  obtain ⟨ao, cap, rfl⟩ := hv'
  unfold Oper.wp execOp
  simp only [ho, resolve, invoke, builtin, Sem.run_bind, Sem.run_pure, Result.andThen_ok, List.map_toArray, List.map_cons, List.map_nil, hs, hx, hrun]
  exact h ao cap w' h2 h3 h5
end
end Go.Proofs.YtnkjhooeklodcaaGreatDoor
end

section
/-
  The document's log: Append.
-/
namespace Go.Proofs.YtnkjhooeklodcaaGreatDoor
open Go.RowKit Go.Maps Go.Sort

variable {w w' W : World} {D F : Nat → Prop} {lb wb : Nat} {u : Ud} {pre : List UInt8} {ev sv : Value} {es : List En} {ss : List Nat} {sure : Nat} {dead : Bool}
theorem XRes.bs (h : XRes w D F lb wb pre u es ss sure dead W) {v : Value} {zs : List Int} (hb : Bs w v zs) (hk : zs ≠ [] → ∀ k, v.ownBlock = some k → ¬ D k ∧ ¬ F k) : Bs W v zs := by
  obtain ⟨D', F', _, _, _, h4⟩ := h
  exact hb.keep0 fun hne k hk' hlt => h4.block k hlt fun e => e.elim (hk hne k hk').1 (hk hne k hk').2
theorem XRes.write (hR : XRes w D F lb wb pre u es ss sure dead W) (hg : Gd u) (x : List UInt8) (hx : x.length ≤ 140737488355328) (ap : Option Addr) (cp : Nat) (ps : List Int) (W4 W5 : World) (hb4 : Below W.heap.size W W4) (ho : Ow W4 W.heap.size (.slice ap ps.length cp) ps) (hb : Below W4.heap.size W4 W5) (hby : Byt ps) (hpl : ps.length ≤ 140737488355328) :
    Calls Tryz.prog 30 #[.pointer (some ⟨wb, 0, none⟩), encStr x, .slice ap ps.length cp] W5 fun e w' => e = .returned (.int .i64 (u.five [x] (wrU x ps u.room)).1) ∧ XRes w D F lb wb pre (u.five [x] (wrU x ps u.room)).2 es ss sure dead w' := by
  obtain ⟨D1, F1, h1, h2, h3, h4⟩ := hR
  have hb5 : Below W.heap.size W W5 := hb4.trans (hb.mono hb4.size)
  refine (qWrite (h1.d.to hb5) hg x hx ap cp ps (ho.bs.below hb (Nat.le_refl _)) hby (fun _ k hk hd => ?_) hpl).mono ?_
  · have := (World.ownsRow.lt ho k hk).1
    have := h1.dl k hd
    omega
  · rintro e w2 ⟨rfl, hp⟩
    exact ⟨rfl, XRes.then h2 h3 h4 (XRes.disk h1 hb5 hp)⟩
def ApP (w : World) (D F : Nat → Prop) (lb wb : Nat) (pre : List UInt8) (es : List En) (zs : List Int) (ss ss' : List Nat) (sure : Nat) (r : Int × Ud) (e : Ending) (w' : World) : Prop :=
  (r.1 ≠ 0 ∧ e = .returned (.tuple #[.int .i64 0, .int .i64 r.1]) ∧ XRes w D F lb wb pre r.2 es ss sure (if r.1 = 6 then false else true) w') ∨
  (r.1 = 0 ∧ e = .returned (.tuple #[.int .i64 ((es.length : Int) + 1), .int .i64 0]) ∧ ∃ cv, XRes w D F lb wb pre r.2 (es ++ [(cv, zs)]) ss' sure false w')
set_option maxHeartbeats 4000000 in
set_option maxRecDepth 100000 in
theorem XAppend_old (ao : Option Addr) (cap : Nat) (zs : List Int) (w : World) (h : Xd w D F lb wb u pre es ss sure false) (hg : Gd u) (hb : Bs w (.slice ao zs.length cap) zs) (hy : Byt zs) (hz : zs.length ≤ 65526) (hk : zs ≠ [] → ∀ k, (Value.slice ao zs.length cap).ownBlock = some k → ¬ D k ∧ ¬ F k)
    (hs : ss ≠ []) (h5 : (at0U u.us (nameN pre (lastS ss))).1.length < 512) (hfe : es.length + 1 ≤ 10000000) (r : Int × Ud) (hr : u.five [nameN pre (lastS ss)] (wrU (nameN pre (lastS ss)) (Fr.entN ((es.length : Int) + 1) zs) u.room) = r) (hey : Byt (Fr.entN ((es.length : Int) + 1) zs)) (hel : (Fr.entN ((es.length : Int) + 1) zs).length ≤ 70000) :
    Calls Tryz.prog 17 #[.pointer (some ⟨lb, 0, none⟩), .slice ao zs.length cap] w (ApP w D F lb wb pre es zs ss ss sure r) := by
  obtain ⟨ev, sv, hl⟩ := h.l
  have CZ := size_any w h hg hs
  obtain ⟨m, hm, hxm⟩ := lastS_get hs
  obtain ⟨g, cg, rfl⟩ := hl.segSome hs
  obtain ⟨ae, ce, hee⟩ := hl.evform
  subst hee
  have hfew := hl.few
  have hx8 := hfew.2.2.2.2 _ (List.mem_of_getElem? hxm)
  have c2 : w.cell? ⟨lb, 2, none⟩ = some (.slice ae es.length ce) := hl.blk.cell 2
  have c5 : w.cell? ⟨lb, 5, none⟩ = some (.bool false) := hl.blk.cell 5
  have c3 : w.cell? ⟨lb, 3, none⟩ = some (.slice (some ⟨g, 0, none⟩) ss.length cg) := hl.blk.cell 3
  have cx : w.cell? ⟨g, m, none⟩ = some (.int .i64 (lastS ss : Int)) := hl.segCell rfl hxm
  have hl1 := World.block_lt_of_cell? w _ c3
  have hl2 := World.block_lt_of_cell? w _ cx
  simp only at hl1 hl2
  have CN := fun w1 => name_ref pre (lastS ss) hx8 (by omega) w1
  have hnm := nameN_len pre (lastS ss) hx8
  have q1 : IntKind.i64.wrap ((es.length : Int) + 1) = (es.length : Int) + 1 := by rw [IntKind.wrap_i64]; omega
  have q2 : IntKind.i64.wrap ((ss.length : Int) - 1) = (m : Int) := by rw [IntKind.wrap_i64]; omega
  have f0 : ¬ (65526 : Int) < (zs.length : Int) := by omega
  have f1 : (0 : Int) ≤ (m : Int) := by omega
  have f2 : (m : Int) < (ss.length : Int) := by omega
  have f3 : ((ss.length : Int) == 0) = false := beq_eq_false_iff_ne.2 (by omega)
  have HW : Hid (∀ W W4 W5 ap cp, XRes w D F lb wb pre u es ss sure false W → Below W.heap.size W W4 → Ow W4 W.heap.size (.slice ap (Fr.entN ((es.length : Int) + 1) zs).length cp) (Fr.entN ((es.length : Int) + 1) zs) → Below W4.heap.size W4 W5 → Calls Tryz.prog 30 #[.pointer (some ⟨wb, 0, none⟩), encStr (nameN pre (lastS ss)), .slice ap (Fr.entN ((es.length : Int) + 1) zs).length cp] W5 fun e w' => e = .returned (.int .i64 r.1) ∧ XRes w D F lb wb pre r.2 es ss sure false w') := by
    intro W W4 W5 ap cp hR hb4 ho hb5
    have := XRes.write hR hg (nameN pre (lastS ss)) (by omega) ap cp _ W4 W5 hb4 ho hb5 hey (by omega)
    rw [hr] at this
    exact this
  have HH := hid_into h
  have HB := hid_into hb
  have f4 : ¬ (512 : Int) ≤ ((at0U u.us (nameN pre (lastS ss))).1.length : Int) := by omega
  clear h hl hb hxm hs hm hfew hr hey hel hnm h5
  generalize (at0U u.us (nameN pre (lastS ss))).1.length = sz at *
  generalize nameN pre (lastS ss) = nm at *
  generalize lastS ss = x at *
  obtain ⟨r1, r2⟩ := r
  go_enter Tryz.func17, Tryz.ntmps17
  go_wp2_with fail
  refine CZ.mono ?_
  rintro e w1 ⟨rfl, hB1⟩
  have c3' := cell_below hB1 c3 hl1
  have cx' := cell_below hB1 cx hl2
  have HX1 : Hid (XRes w D F lb wb pre u es ss sure false w1) := XRes.refl HH.out hB1
  clear CZ
  go_wp2_with fail
  go_quiet (fail)
  go_wp2_with fail
  have HX : Hid (XRes w D F lb wb pre u es ss sure false (w1.drewN nq)) := XRes.refl HH.out (hB1.trans (Sm.below' (Sm.drewN w1 nq) |>.mono hB1.size))
  generalize w1.drewN nq = WW at *
  have hbW := XRes.bs HX.out HB.out hk
  have HN : Hid (Fr.entN ((es.length : Int) + 1) zs = Fr.recN (Fr.numOf ((es.length : Int) + 1) ++ zs)) := rfl
  have hnl := Fr.numOf_length ((es.length : Int) + 1)
  have hny := Fr.numOf_byt ((es.length : Int) + 1) (by omega) (by omega)
  have CM := Fr.refNum_any ((es.length : Int) + 1) WW (by omega) (by omega)
  have CE := fun (v : Value) (ys : List Int) (w : World) (h : Bs w v ys) (h1 : Byt ys) (h2 : ys.length ≤ 65536) => Fr.renc_any v ys w h h1 h2
  generalize Fr.numOf ((es.length : Int) + 1) = nb at *
  refine CM.mono ?_
  rintro e w2 ⟨a2, p2, rfl, ho2, hB2⟩
  have hb2 := hbW.below hB2 (Nat.le_refl _)
  have h63 : nb.length + zs.length ≤ 140737488355328 := by omega
  have hw2 := hB2.size
  have HYN : Hid (Byt (nb ++ zs) ∧ (nb ++ zs).length ≤ 65536) := ⟨hny.app hy, by rw [List.length_append]; omega⟩
  go_wp2_with (at_builtin; refine wpList_append_bs _ rfl (.tmp 61) (.tmp 62) rfl WW.heap.size _ nb rfl ho2 _ zs rfl hb2 h63 hw2 ?_)
  intro a3 p3 w3 ho3 hg3 hat3
  have B3 : Below WW.heap.size WW w3 := hB2.trans (Fr.grown_below hg3 hw2 (Fr.Ow.from ho2))
  rw [← List.length_append] at ho3
  rw [← List.length_append]
  clear ho2 hg3 hat3 hB2 hb2 hny hnl h63 CM hbW
  generalize nb ++ zs = nz at *
  go_wp2_with fail
  refine (CE _ nz _ ho3.bs HYN.out.1 HYN.out.2).mono ?_
  rintro e w4 ⟨a4, p4, rfl, ho4, hB4⟩
  have B4 : Below WW.heap.size WW w4 := B3.trans (hB4.mono B3.size)
  have HO4 : Hid (Ow w4 WW.heap.size (.slice a4 (Fr.recN nz).length p4) (Fr.recN nz)) := Ow.mono ho4 B3.size
  rw [← HN.out] at HO4 ⊢
  clear ho4 hB4 B3 ho3 HN HYN CE
  generalize Fr.entN ((es.length : Int) + 1) zs = rc at *
  have hX4 : XRes w D F lb wb pre u es ss sure false w4 := by
    obtain ⟨D1, F1, h1, h2, h3, h4⟩ := HX.out
    exact XRes.then h2 h3 h4 (XRes.refl h1 B4)
  obtain ⟨F4, ev4, sv4, hl4⟩ := hX4.log
  have d0 : w4.cell? ⟨lb, 0, none⟩ = some (.pointer (some ⟨wb, 0, none⟩)) := hl4.blk.cell 0
  have d1 : w4.cell? ⟨lb, 1, none⟩ = some (encStr pre) := hl4.blk.cell 1
  have hll := hl4.blk.lt
  clear hX4 hl4
  go_wp2_with fail
  go_region_held3 (fun u => u.cell? ⟨lb, 0, none⟩ = some (.pointer (some ⟨wb, 0, none⟩)) ∧ u.cell? ⟨lb, 1, none⟩ = some (encStr pre)) (first | exact ⟨d0, d1⟩ | assumption)
    (first
      | (go_at_call 28; refine (CN _).mono ?_; rintro e w5 ⟨rfl, hB5⟩; replace hB5 : Below w4.heap.size w4 w5 := ⟨hB5.os, hB5.tape, hB5.output, hB5.size, hB5.block⟩; have ht5 := And.intro (cell_below hB5 d0 hll) (cell_below hB5 d1 hll))
      | (go_at_call 30; refine (HW.out WW w4 w5 a4 p4 HX.out B4 HO4.out hB5).mono ?_; rintro e w6 ⟨rfl, hX6⟩; obtain ⟨F6, ev6, sv6, hl6⟩ := hX6.log; have ht6 := And.intro (hl6.blk.cell 0) (hl6.blk.cell 1)))
  have HX6 := hid_into hX6
  clear hX6 ht5 ht6 hB5 B4 HO4 HW CN d0 d1
  by_cases h0 : r1 = 0
  · subst h0
    clear hl6
    go_wp2_with fail
    have HX7 := HX6
    clear HX6
    generalize w6 = w7 at *
    have hX7 := HX7.out
    have hb7 := hX7.bs HB.out hk
    obtain ⟨D3, F3, h1, h2, h3, h4⟩ := hX7
    obtain ⟨ev3, sv3, hl3⟩ := h1.l
    obtain ⟨ae3, ce3, hev⟩ := hl3.evform
    subst hev
    have e2 : w7.cell? ⟨lb, 2, none⟩ = some (.slice ae3 es.length ce3) := hl3.blk.cell 2
    have HHa := hid_into h1
    have H2 := hid_into h2
    have H3 := hid_into h3
    have H4 := hid_into h4
    have HL := hid_into hl3
    have HB3 := hid_into hb7
    clear h1 h2 h3 h4 hl3 hb7
    have hS : w7.drew.cell? ⟨lb, 2, none⟩ = some (.slice ae3 es.length ce3) := e2
    refine wp_region_L 12 (fun w' => w'.cell? ⟨lb, 2, none⟩ = some (.slice ae3 es.length ce3)) (by kernel_rfl) ?_
    refine' wpL_take 0 95 rfl rfl (by kernel_rfl) (by kernel_rfl) (by kernel_rfl) (by kernel_rfl) (fun _ _ _ h => h) (by rfl) hS ?y95 ?r95
    case y95 => (intro u hSu; (try dsimp only at hSu); go_simp; try with_reducible rfl)
    simp only [Act.put, List.setIfInBounds_toArray, List.set_cons_zero, List.set_cons_succ]
    refine' wpL_take 1 96 rfl rfl (by kernel_rfl) (by kernel_rfl) (by kernel_rfl) (by kernel_rfl) (fun _ _ _ h => h) (by rfl) hS ?y96 ?r96
    case y96 => (intro u hSu; (try dsimp only at hSu); go_simp; try with_reducible rfl)
    simp only [Act.put, List.setIfInBounds_toArray, List.set_cons_zero, List.set_cons_succ]
    refine' wpL_take 2 97 rfl rfl (by kernel_rfl) (by kernel_rfl) (by kernel_rfl) (by kernel_rfl) (fun _ _ _ h => h) (by rfl) hS ?y97 ?r97
    case y97 => (intro u hSu; (try dsimp only at hSu); go_simp; try with_reducible rfl)
    simp only [Act.put, List.setIfInBounds_toArray, List.set_cons_zero, List.set_cons_succ]
    refine' wpL_take 3 98 rfl rfl (by kernel_rfl) (by kernel_rfl) (by kernel_rfl) (by kernel_rfl) (fun _ _ _ h => h) (by rfl) hS ?y98 ?r98
    case y98 => (intro u hSu; (try dsimp only at hSu); go_simp; try with_reducible rfl)
    simp only [Act.put, List.setIfInBounds_toArray, List.set_cons_zero, List.set_cons_succ]
    refine' wpL_take 4 99 rfl rfl (by kernel_rfl) (by kernel_rfl) (by kernel_rfl) (by kernel_rfl) (fun _ _ _ h => h) (by rfl) hS ?y99 ?r99
    case y99 => (intro u hSu; (try dsimp only at hSu); go_simp; try with_reducible rfl)
    simp only [Act.put, List.setIfInBounds_toArray, List.set_cons_zero, List.set_cons_succ]
    refine' wpL_take 6 101 rfl rfl (by kernel_rfl) (by kernel_rfl) (by kernel_rfl) (by kernel_rfl) (fun _ _ _ h => h) (by rfl) hS ?y101 ?r101
    case y101 => (intro u hSu; (try dsimp only at hSu); go_simp; try with_reducible rfl)
    simp only [Act.put, List.setIfInBounds_toArray, List.set_cons_zero, List.set_cons_succ]
    refine wpL_one (i := 5) (by kernel_rfl) rfl (fun K hK => ?_)
    rw [if_pos (by rfl)]
    go_simp
    have hA8 : Below w7.heap.size w7 (w7.drew.alloc (.cells #[] 5)) := (show Below w7.heap.size w7 w7.drew from ⟨rfl, rfl, rfl, Nat.le_refl _, fun _ _ => rfl⟩).alloc (Nat.le_refl _) _
    have hl8 := HL.out.below hA8
    have ho8 : Ow (w7.drew.alloc (.cells #[] 5)) w7.heap.size (.slice (some ⟨w7.heap.size, 0, none⟩) 0 0) [] := Ow_of_block (heap_alloc_new w7.drew _) (by simp) (Nat.le_refl _)
    have hbs8 : Bs (w7.drew.alloc (.cells #[] 5)) (.slice ao zs.length cap) zs := HB3.out.below hA8 (Nat.le_refl _)
    refine hK.out _ _ (fun _ => hl8.blk.cell 2) ?_
    clear hK K
    refine wpL_one (i := 7) (by kernel_rfl) rfl (fun K hK => ?_)
    refine step_append_bs rfl (.tmp 100) (.tmp 101) rfl w7.heap.size _ [] rfl ho8 (.slice ao zs.length cap) zs rfl hbs8 (by simp; omega) hA8.size ?_
    intro a9 p9 w9 ho9 hg9 hat9
    simp only [List.length_nil, Nat.zero_add, List.nil_append] at ho9 hat9 ⊢
    have hB9 : Below w7.heap.size w7 w9 := hA8.trans (Fr.grown_below hg9 hA8.size (Fr.Ow.from ho8))
    have hl9 := HL.out.below hB9
    refine hK.out _ _ (fun _ => hl9.blk.cell 2) ?_
    change wpL Tryz.prog _ _ _ _ _ _ _ (Act.put _ (some 102) _) _
    clear hK K
    simp only [Act.put, List.setIfInBounds_toArray, List.set_cons_zero, List.set_cons_succ]
    refine wpL_one (i := 8) (by kernel_rfl) rfl (fun K hK => ?_)
    refine step_made_row rfl (.tmp 102) rfl a9 zs.length p9 rfl ?_
    have hA5 : Below w7.heap.size w7 (w9.alloc (.cells #[.slice a9 zs.length p9] 38)) := hB9.alloc hB9.size _
    have hl5 := HL.out.below hA5
    refine hK.out _ _ (fun _ => hl5.blk.cell 2) ?_
    change wpL Tryz.prog _ _ _ _ _ _ _ (Act.put _ (some 103) _) _
    clear hK K
    simp only [Act.put, List.setIfInBounds_toArray, List.set_cons_zero, List.set_cons_succ]
    refine wpL_one (i := 9) (by kernel_rfl) rfl (fun K hK => ?_)
    refine step_append_en rfl (.tmp 99) (.tmp 103) rfl (.slice ae3 es.length ce3) es.length (enOf es) rfl hl5.ent w9.heap.size (.slice a9 zs.length p9) rfl rfl (by rw [cell_of_row _ _ 0 _ _ _ (heap_alloc_new w9 _)]; rfl) (by omega) ?_
    intro ao6 cap6 wa ho6 hg6 hat6
    have hb6 := hl5.blk.keep (hg6.block lb hl5.blk.lt fun e => (hl5.sep.1 lb e.symm).2.1 rfl)
    have c6b : wa.cell? ⟨lb, 2, none⟩ = some (.slice ae3 es.length ce3) := hb6.cell 2
    have f6b := hb6.frozen 2
    refine hK.out _ _ (fun _ => c6b) ?_
    change wpL Tryz.prog _ _ _ _ _ _ _ (Act.put _ (some 104) _) _
    clear hK K
    simp only [Act.put, List.setIfInBounds_toArray, List.set_cons_zero, List.set_cons_succ]
    have hcb : ∀ k, (Value.slice a9 zs.length p9).ownBlock = some k → w7.heap.size ≤ k ∧ k < (w9.alloc (.cells #[.slice a9 zs.length p9] 38)).heap.size := fun k hk => by
      have := World.ownsRow.lt ho9 k hk
      rw [World.size_alloc]
      exact ⟨this.1, by omega⟩
    have hcv : Bs (w9.alloc (.cells #[.slice a9 zs.length p9] 38)) (.slice a9 zs.length p9) zs := (Ow.bs ho9).keep fun k _ hk => Below.heap_alloc _ _ _ hk
    have HR : Hid (XRes w D F lb wb pre r2 (es ++ [(.slice a9 zs.length p9, zs)]) ss sure false (wa.setCell ⟨lb, 2, none⟩ (.slice ao6 (es.length + 1) cap6))) := XRes.addE HHa.out H2.out H3.out H4.out HL.out hA5 _ zs hcv hy (by omega) hcb _ ho6 hg6 hat6 hfe
    clear HHa H2 H3 H4 HL hA5 hcv hcb ho6 hg6 hat6 hb6 hl8 hl9 hl5 ho8 ho9 hg9 hat9 hB9 hA8 hbs8 HB3
    refine wpL_one (i := 10) (by kernel_rfl) rfl (fun K hK => ?_)
    rw [if_pos (by rfl)]
    go_simp
    refine hK.out _ _ (fun _ => c6b) ?_
    clear hK K
    refine wpL_one (i := 11) (by kernel_rfl) rfl (fun K hK => ?_)
    rw [if_pos (by rfl)]
    go_simp
    refine hK.out _ _ (fun _ => c6b) ?_
    clear hK K
    refine wpL_one (i := 12) (by kernel_rfl) rfl (fun K hK => ?_)
    rw [if_pos (by rfl)]
    go_simp
    refine hK.out _ _ (fun e => absurd rfl e) ?_
    clear hK K
    refine wpL_done (by kernel_rfl) ?_ _
    go_wp2_with fail
    go_ret2
    exact Or.inr ⟨rfl, rfl, _, HR.out⟩
  · have h7 : (r1 == 0) = false := beq_eq_false_iff_ne.2 h0
    have CF := fail_any r1 w6 hl6
    have HR : Hid (ApP w D F lb wb pre es zs ss ss sure (r1, r2) (.returned (.tuple #[.int .i64 0, .int .i64 r1])) (if r1 = 6 then w6 else w6.setCell ⟨lb, 5, none⟩ (.bool true))) := by
      refine Or.inl ⟨h0, rfl, ?_⟩
      show XRes w D F lb wb pre r2 es ss sure (if r1 = 6 then false else true) _
      by_cases h6 : r1 = 6
      · rw [if_pos h6, if_pos h6]; exact HX6.out
      · rw [if_neg h6, if_neg h6]; exact HX6.out.cell 5 _ fun _ _ _ hh => hh.kill
    clear hl6
    go_wp2_with fail
    refine CF.mono ?_
    rintro e w8 ⟨rfl, hw8⟩
    rw [← hw8] at HR
    clear hw8 CF
    go_wp2_with fail
    go_ret2
    exact HR.out
end Go.Proofs.YtnkjhooeklodcaaGreatDoor
end
