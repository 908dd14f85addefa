/-
  Joined from: SegXl, SegXt, SegGd, SegXu, SegShape, SegTorn.
-/
import Derived.Test.YtnkjhooeklodcaaGreatDoorM38
import Derived.Test.YtnkjhooeklodcaaGreatDoorM23
section
/-
  The document's log: entries more, by one append.
-/
namespace Go.Proofs.YtnkjhooeklodcaaGreatDoor
open Go.RowKit Go.Maps Go.Sort

variable {w w' : World} {D F : Nat → Prop} {lb wb : Nat} {u : Ud} {pre : List UInt8} {ev sv : Value} {es : List En} {ss : List Nat} {sure : Nat} {dead : Bool}
theorem Xg.addAll (h : Xg w F lb wb pre ev sv es ss sure dead) (rs : List En) (hrs : ∀ r ∈ rs, Bs w r.1 r.2 ∧ Byt r.2 ∧ r.2.length ≤ 65536 ∧ ∀ k, r.1.ownBlock = some k → F k ∧ k ≠ lb ∧ ev.ownBlock ≠ some k ∧ sv.ownBlock ≠ some k ∧ k < w.heap.size)
    (w2 : World) (ev' : Value) (hrow : w2.ownsRow 0 38 1 ev' (es.length + rs.length) (enOf es ++ enOf rs)) (hg : w.grownBy w2 ev.ownBlock) (hat : ev'.ownBlock = ev.ownBlock ∨ ev'.ownBlock = some w.heap.size) (hF : F w.heap.size) (hf : es.length + rs.length ≤ 10000000) :
    Xg (w2.setCell ⟨lb, 2, none⟩ ev') F lb wb pre ev' sv (es ++ rs) ss sure dead := by
  have hlb := h.blk.lt
  have hne : ∀ k, ev'.ownBlock = some k → k ≠ lb ∧ (ev.ownBlock = some k ∨ k = w.heap.size) := by
    intro k hk
    rcases hat with e | e
    · rw [e] at hk
      exact ⟨(h.sep.1 k hk).2.1, Or.inl hk⟩
    · rw [e] at hk
      have := Option.some.inj hk
      exact ⟨by omega, Or.inr this.symm⟩
  have hkeep : ∀ k, k < w.heap.size → ev.ownBlock ≠ some k → k ≠ lb → (w2.setCell ⟨lb, 2, none⟩ ev').heap[k]? = w.heap[k]? := fun k h1 h2 h3 => (set_other _ _ _ _ _ h3).trans (hg.block k h1 fun e => h2 e.symm)
  have hb2 : Cw w2 lb _ 32 := h.blk.keep (hg.block lb hlb fun e => (h.sep.1 lb e.symm).2.1 rfl)
  have hsz : w.heap.size ≤ (w2.setCell ⟨lb, 2, none⟩ ev').heap.size := by rw [set_size]; exact hg.size
  have hsv : ∀ k, sv.ownBlock = some k → k < w.heap.size := fun k hk => (World.ownsRow.lt h.seg k hk).2
  refine ⟨hb2.set 2 ev', h.lF, ?_, fun r hr => ?_, ?_, ⟨fun k hk => ?_, h.sep.2⟩, ⟨by simpa using hf, h.few.2⟩⟩
  · have e1 : (es ++ rs).length = es.length + rs.length := by simp
    have e2 : enOf (es ++ rs) = enOf es ++ enOf rs := by simp [enOf]
    rw [e1, e2]
    exact Fr.ownsRow_keep hrow fun k hk _ => set_other _ _ _ _ _ (hne k hk).1
  · have key : Bs w r.1 r.2 ∧ Byt r.2 ∧ r.2.length ≤ 65536 ∧ ∀ k, r.1.ownBlock = some k → F k ∧ k ≠ lb ∧ ev.ownBlock ≠ some k ∧ sv.ownBlock ≠ some k ∧ k < w.heap.size := by
      rcases List.mem_append.1 hr with hm | hm
      · exact h.each r hm
      · exact hrs r hm
    obtain ⟨k1, k2, k3, k4⟩ := key
    refine ⟨k1.keep fun k hk hlt => hkeep k hlt (k4 k hk).2.2.1 (k4 k hk).2.1, k2, k3, fun k hk => ⟨(k4 k hk).1, (k4 k hk).2.1, fun e => ?_, (k4 k hk).2.2.2.1, by have := (k4 k hk).2.2.2.2; omega⟩⟩
    rcases (hne k e).2 with e' | e'
    · exact (k4 k hk).2.2.1 e'
    · have := (k4 k hk).2.2.2.2
      omega
  · exact Fr.ownsRow_keep h.seg fun k hk hlt => hkeep k hlt (fun e => (h.sep.1 k e).2.2 hk) (h.sep.2 k hk).2
  · rcases (hne k hk).2 with e | e
    · exact h.sep.1 k e
    · subst e
      exact ⟨hF, by omega, fun e => by have := hsv _ e; omega⟩
theorem XRes.addAll {w5 w6 W : World} {D5 F5 : Nat → Prop} (h1 : Xd w5 D5 F5 lb wb u pre es ss sure dead) (h2 : ∀ k, D5 k → D k ∨ w.heap.size ≤ k) (h3 : ∀ k, F5 k → F k ∨ w.heap.size ≤ k) (h4 : Grows (fun k => D k ∨ F k) w w5)
    (hl : Xg w5 F5 lb wb pre ev sv es ss sure dead) (hA : Below w5.heap.size w5 W) (rs : List En) (hrs : ∀ r ∈ rs, Bs W r.1 r.2 ∧ Byt r.2 ∧ r.2.length ≤ 65536 ∧ ∀ k, r.1.ownBlock = some k → w5.heap.size ≤ k ∧ k < W.heap.size)
    (ev' : Value) (hrow : w6.ownsRow 0 38 1 ev' (es.length + rs.length) (enOf es ++ enOf rs)) (hg : W.grownBy w6 ev.ownBlock) (hat : ev'.ownBlock = ev.ownBlock ∨ ev'.ownBlock = some W.heap.size) (hf : es.length + rs.length ≤ 10000000) :
    XRes w D F lb wb pre u (es ++ rs) ss sure dead (w6.setCell ⟨lb, 2, none⟩ ev') := by
  have hWs := hA.size
  have hl2 : Xg W (fun k => F5 k ∨ w5.heap.size ≤ k) lb wb pre ev sv es ss sure dead := (hl.below hA).more fun k hk => Or.inl hk
  have hlb := hl.blk.lt
  have hl3 := (hl2.addAll rs (fun r hr => by
    obtain ⟨a1, a2, a3, a4⟩ := hrs r hr
    refine ⟨a1, a2, a3, fun k hk => ?_⟩
    obtain ⟨k1, k2⟩ := a4 k hk
    refine ⟨Or.inr k1, by omega, fun e => ?_, fun e => ?_, k2⟩
    · have := (World.ownsRow.lt hl.ent k e).2; omega
    · have := (World.ownsRow.lt hl.seg k e).2; omega) w6 ev' hrow hg hat (Or.inr (by omega)) hf).tight
  have hs6 : w5.heap.size ≤ w6.heap.size := by have := hg.size; omega
  have h45 := h4.size
  have hblk : ∀ k, k < w5.heap.size → ¬ F5 k → (w6.setCell ⟨lb, 2, none⟩ ev').heap[k]? = w5.heap[k]? := fun k hk hn => by
    rw [set_other _ _ _ _ _ fun e => hn (by rw [e]; exact hl.lF), hg.block k (by omega) fun e => hn (hl.sep.1 k e.symm).1]
    exact hA.block k hk
  refine ⟨D5, _, ⟨h1.d.keep fun k hk hlt => hblk k hlt (h1.ap k hk), ⟨ev', sv, hl3⟩, fun k hk => by rw [set_size]; have := h1.dl k hk; omega, fun k hk => hk.2, fun k hk hf => ?_⟩, h2, fun k hk => ?_, ⟨?_, ?_, ?_, ?_, fun k hk hn => ?_⟩⟩
  · rcases hf.1 with e | e
    · exact h1.ap k hk e
    · have := h1.dl k hk
      omega
  · rcases hk.1 with e | e
    · exact h3 k e
    · exact Or.inr (by omega)
  · exact hg.os.trans (hA.os.trans h4.os)
  · exact hg.tape.trans (hA.tape.trans h4.tape)
  · exact hg.output.trans (hA.output.trans h4.output)
  · rw [set_size]; omega
  · refine (hblk k (by omega) fun e => ?_).trans (h4.block k hk hn)
    rcases h3 k e with e | e
    · exact hn (Or.inr e)
    · omega
theorem wpList_append_rows (w : World) {ops : Array Oper} {rest : List Oper} {o : Oper} {a : Act} {Q : Exit → Act → World → Prop} (hgd : o.guard = none) (s x : Operand)
    (ho : o.op = .call { callee := .builtin .append, args := #[s, x], argTypes := #[29, 29] })
    (v : Value) (n : Nat) (us : List Value) (hs : a.eval s = v) (hown : w.ownsRow 0 38 1 v n us) (base : Nat) (vx : Value) (ys : List Value) (hx : a.eval x = vx) (hxr : w.ownsRow base 38 1 vx ys.length ys) (hone : ∀ y ∈ ys, y.oneCell' = true)
    (h63 : n + ys.length ≤ 1000000000)
    (h : ∀ ao cap w', w'.ownsRow 0 38 1 (.slice ao (n + ys.length) cap) (n + ys.length) (us ++ ys) → w.grownBy w' v.ownBlock → ((Value.slice ao (n + ys.length) cap).ownBlock = v.ownBlock ∨ (Value.slice ao (n + ys.length) cap).ownBlock = some w.heap.size) →
      wpList Tryz.prog ops Q rest (a.put o.dst (.slice ao (n + ys.length) cap)) w') : wpList Tryz.prog ops Q (o :: rest) a w := by
  obtain ⟨i0, hi, hz0, hz1, hz2⟩ := info_parts Fr.Tz.info22
  have form : ∀ {w' : World} {v' : Value} {k : Nat} {cs : List Value}, w'.ownsRow 0 38 1 v' k cs → ∃ ao cap, v' = .slice ao k cap := by
    intro w' v' k cs h2
    rcases h2.2 with ⟨e, h6⟩ | ⟨g, cap, cur, h6, _⟩
    · exact ⟨none, 0, by rw [e, h6]⟩
    · exact ⟨some ⟨g, 0, none⟩, cap, h6⟩
  have key : ∃ ao cap w', (Builtin.append_ #[29, 29] o.type #[v, vx]).run Tryz.prog w = .ok (.slice ao (n + ys.length) cap) w' ∧ w'.ownsRow 0 38 1 (.slice ao (n + ys.length) cap) (n + ys.length) (us ++ ys) ∧ w.grownBy w' v.ownBlock ∧ ((Value.slice ao (n + ys.length) cap).ownBlock = v.ownBlock ∨ (Value.slice ao (n + ys.length) cap).ownBlock = some w.heap.size) := by
    rcases hxr.2 with ⟨e, h0⟩ | ⟨g, cap, cur, e, _⟩
    · obtain rfl : ys = [] := List.eq_nil_of_length_eq_zero h0
      subst e
      have hr := run_append_owned_none (P := Tryz.prog) w 0 29 o.type 38 i0 1 Tryz.underlying29 hi v n us hown
      obtain ⟨ao, cap, hv⟩ := form hown
      refine ⟨ao, cap, w, ?_, ?_, World.grownBy.refl _ _, Or.inl ?_⟩
      · rw [hr]; simp [hv]
      · simpa [hv] using hown
      · simp [hv]
    · subst e
      obtain ⟨v', w', hrun, h2, h3, _, h5⟩ := run_append_own_at (P := Tryz.prog) w 0 29 o.type 38 i0 (.slice none 0 0) 1 24 Tryz.underlying29 hi hz0 hz1 hz2 rfl (by decide) v n us hown ⟨g, 0, none⟩ ys.length cap ys (by simp)
        (fun j y hy => World.ownsRow.cells hxr (g := g) rfl j y hy) hone (by unfold maxLen; omega) (by omega) (Nat.zero_le _)
      obtain ⟨ao, cap, rfl⟩ := form h2
      exact ⟨ao, cap, w', hrun, h2, h3, h5⟩
  obtain ⟨ao, cap, w', hrun, h2, h3, h5⟩ := key
  refine wpList_plain hgd fun _ hK => ?_
  unfold Oper.wp execOp
  simp only [ho, resolve, invoke, builtin, Sem.run_bind, Sem.run_pure, Result.andThen_ok, List.map_toArray, List.map_cons, List.map_nil, hs, hx, hrun]
  exact hK _ _ (h ao cap w' h2 h3 h5)
end Go.Proofs.YtnkjhooeklodcaaGreatDoor
end

section
/-
  The document's log: a segment is taken in (its number, then its entries).
-/
namespace Go.Proofs.YtnkjhooeklodcaaGreatDoor
open Go.RowKit Go.Maps Go.Sort
open Fr (Rw2 Osl bytesOf2)

variable {w w' wr W5 w8 w9 : World} {D F D1 F1 : Nat → Prop} {lb wb : Nat} {u : Ud} {pre : List UInt8} {ev sv : Value} {es : List En} {ss : List Nat} {sure : Nat} {dead : Bool}
def More (F1 : Nat → Prop) (wr : World) : Nat → Prop := fun k => F1 k ∨ wr.heap.size ≤ k
theorem Xg.segStep (hl : Xg wr F1 lb wb pre ev sv es ss sure dead) (hb5 : Below wr.heap.size wr W5) (n : Nat) (hn8 : n < 100000000) (hf : ss.length + 1 ≤ 10000000) (sv' : Value)
    (hrow : w8.ownsRow 0 3 1 sv' (ss.length + 1) (numsOf ss ++ [.int .i64 (n : Int)])) (hg8 : (W5.alloc (.cells #[.int .i64 (n : Int)] 3)).grownBy w8 sv.ownBlock) (hat8 : sv'.ownBlock = sv.ownBlock ∨ sv'.ownBlock = some (W5.heap.size + 1)) :
    w8.cell? ⟨lb, 3, none⟩ = some sv ∧ w8.frozen? ⟨lb, 3, none⟩ = false ∧ Xg (w8.setCell ⟨lb, 3, none⟩ sv') (More F1 wr) lb wb pre ev sv' es (ss ++ [n]) sure dead ∧
    (∀ k, k < W5.heap.size → k ≠ lb → sv.ownBlock ≠ some k → (w8.setCell ⟨lb, 3, none⟩ sv').heap[k]? = W5.heap[k]?) ∧ W5.heap.size ≤ (w8.setCell ⟨lb, 3, none⟩ sv').heap.size ∧
    (∀ k, sv'.ownBlock = some k → sv.ownBlock = some k ∨ W5.heap.size ≤ k) ∧ (w8.setCell ⟨lb, 3, none⟩ sv').os = W5.os ∧ (w8.setCell ⟨lb, 3, none⟩ sv').tape = W5.tape ∧ (w8.setCell ⟨lb, 3, none⟩ sv').output = W5.output := by
  have hA : Below W5.heap.size W5 (W5.alloc (.cells #[.int .i64 (n : Int)] 3)) := (Below.refl _ _).alloc (Nat.le_refl _) _
  have hWs : (W5.alloc (.cells #[.int .i64 (n : Int)] 3)).heap.size = W5.heap.size + 1 := World.size_alloc _ _
  have hs5 := hb5.size
  have hl7 : Xg (W5.alloc (.cells #[.int .i64 (n : Int)] 3)) (More F1 wr) lb wb pre ev sv es ss sure dead := ((hl.below hb5).below hA).more fun k hk => Or.inl hk
  have hb8 := hl7.blk.keep (hg8.block lb hl7.blk.lt fun e => (hl7.sep.2 lb e.symm).2 rfl)
  refine ⟨hb8.cell 3, hb8.frozen 3, hl7.addS n hn8 w8 sv' hrow hg8 (by rw [hWs]; exact hat8) (Or.inr (by omega)) hf, fun k hk h1 h2 => ?_, ?_, fun k hk => ?_, hg8.os.trans hA.os, hg8.tape.trans hA.tape, hg8.output.trans hA.output⟩
  · rw [set_other _ _ _ _ _ h1, hg8.block k (by omega) fun e => h2 e.symm]
    exact hA.block k hk
  · rw [set_size]
    have := hg8.size
    omega
  · rcases hat8 with e | e
    · exact Or.inl (by rw [← e]; exact hk)
    · rw [e] at hk
      have := Option.some.inj hk
      exact Or.inr (by omega)
theorem XRes.segment (h1 : Xd wr D1 F1 lb wb u pre es ss sure dead) (hl : Xg wr F1 lb wb pre ev sv es ss sure dead) (hb5 : Below wr.heap.size wr W5) (n : Nat) (sv' : Value) {w7 : World}
    (hl7 : Xg w7 (More F1 wr) lb wb pre ev sv' es (ss ++ [n]) sure dead) (hk7 : ∀ k, k < W5.heap.size → k ≠ lb → sv.ownBlock ≠ some k → w7.heap[k]? = W5.heap[k]?) (hs7 : W5.heap.size ≤ w7.heap.size) (hsv : ∀ k, sv'.ownBlock = some k → sv.ownBlock = some k ∨ W5.heap.size ≤ k) (ho7 : w7.os = W5.os ∧ w7.tape = W5.tape ∧ w7.output = W5.output)
    (rs : List En) (hrs : ∀ r ∈ rs, Bs W5 r.1 r.2 ∧ Byt r.2 ∧ r.2.length ≤ 65536 ∧ ∀ k, r.1.ownBlock = some k → wr.heap.size ≤ k ∧ k < W5.heap.size)
    (ev' : Value) (hrow9 : w9.ownsRow 0 38 1 ev' (es.length + rs.length) (enOf es ++ enOf rs)) (hg9 : w7.grownBy w9 ev.ownBlock) (hat9 : ev'.ownBlock = ev.ownBlock ∨ ev'.ownBlock = some w7.heap.size) (hf : es.length + rs.length ≤ 10000000) :
    w9.cell? ⟨lb, 2, none⟩ = some ev ∧ w9.frozen? ⟨lb, 2, none⟩ = false ∧ XRes wr D1 F1 lb wb pre u (es ++ rs) (ss ++ [n]) sure dead (w9.setCell ⟨lb, 2, none⟩ ev') := by
  have hs5 := hb5.size
  have hlb := hl.blk.lt
  have hev : ∀ k, ev.ownBlock = some k → k < wr.heap.size := fun k hk => (World.ownsRow.lt hl.ent k hk).2
  have hsvl : ∀ k, sv.ownBlock = some k → k < wr.heap.size := fun k hk => (World.ownsRow.lt hl.seg k hk).2
  have hb9 := hl7.blk.keep (hg9.block lb hl7.blk.lt fun e => (hl7.sep.1 lb e.symm).2.1 rfl)
  have hl9 := (hl7.addAll rs (fun r hr => by
    obtain ⟨a1, a2, a3, a4⟩ := hrs r hr
    refine ⟨a1.keep fun k hk hlt => ?_, a2, a3, fun k hk => ?_⟩
    · obtain ⟨k1, k2⟩ := a4 k hk
      exact hk7 k k2 (by omega) fun e => by have := hsvl k e; omega
    · obtain ⟨k1, k2⟩ := a4 k hk
      refine ⟨Or.inr k1, by omega, fun e => ?_, fun e => ?_, by omega⟩
      · have := hev k e; omega
      · rcases hsv k e with e | e
        · have := hsvl k e; omega
        · omega) w9 ev' hrow9 hg9 hat9 (Or.inr (by omega)) hf)
  have hlt9 := hl9.tight
  have hs9 := hg9.size
  have hblk : ∀ k, k < wr.heap.size → ¬ F1 k → (w9.setCell ⟨lb, 2, none⟩ ev').heap[k]? = wr.heap[k]? := fun k hk hn => by
    rw [set_other _ _ _ _ _ fun e => hn (by rw [e]; exact hl.lF), hg9.block k (by omega) fun e => hn (hl.sep.1 k e.symm).1, hk7 k (by omega) (fun e => hn (by rw [e]; exact hl.lF)) fun e => hn (hl.sep.2 k e).1]
    exact hb5.block k hk
  refine ⟨hb9.cell 2, hb9.frozen 2, D1, _, ⟨h1.d.keep fun k hk hlt => hblk k hlt (h1.ap k hk), ⟨ev', sv', hlt9⟩, fun k hk => by rw [set_size]; have := h1.dl k hk; omega, fun k hk => hk.2, fun k hk hf => ?_⟩, fun k hk => Or.inl hk, fun k hk => hk.1, ⟨?_, ?_, ?_, ?_, fun k hk hn => hblk k hk fun e => hn (Or.inr e)⟩⟩
  · rcases hf.1 with e | e
    · exact h1.ap k hk e
    · have := h1.dl k hk
      omega
  · exact hg9.os.trans (ho7.1.trans hb5.os)
  · exact hg9.tape.trans (ho7.2.1.trans hb5.tape)
  · exact hg9.output.trans (ho7.2.2.trans hb5.output)
  · rw [set_size]; omega
end Go.Proofs.YtnkjhooeklodcaaGreatDoor
end

section
/-
  A good disk stays good: Remove, Sync, Cut.
-/
namespace Go.Proofs.YtnkjhooeklodcaaGreatDoor
open Go.RowKit Go.Maps Go.Sort

variable {u : Ud}
theorem totU_set : ∀ (us : Us) (s : Nat) (x : Nm) (f g : List Int × Nat), us[s]? = some (x, f) → totU (us.set s (x, g)) + f.1.length = totU us + g.1.length
  | [], s, _, _, _, h => by simp at h
  | p :: us, 0, x, f, g, h => by
    obtain rfl : p = (x, f) := by simpa using h
    simp [totU]
    omega
  | p :: us, s + 1, x, f, g, h => by
    have ih := totU_set us s x f g (by simpa using h)
    simp only [totU, List.set_cons_succ, List.map_cons, List.sum_cons] at ih ⊢
    omega
theorem totU_dl (x : Nm) : ∀ (us : Us), totU (dlU us x) ≤ totU us
  | [] => by simp [dlU, totU]
  | p :: us => by
    have ih := totU_dl x us
    unfold dlU at ih ⊢
    rw [List.filter_cons]
    split
    · simp only [totU, List.map_cons, List.sum_cons] at ih ⊢
      omega
    · simp only [totU, List.map_cons, List.sum_cons] at ih ⊢
      omega
theorem Gd.of (hg : Gd u) (ns : List Nm) (f : Us → Int × Us) (h1 : RisU (f u.us).2) (h2 : totU (f u.us).2 ≤ totU u.us) (h3 : (f u.us).2.length ≤ u.us.length) (h4 : ∀ p ∈ (f u.us).2, p.2.2 ≤ p.2.1.length ∧ (∀ z ∈ p.2.1, 0 ≤ z ∧ z < 256) ∧ p.1.length ≤ maxLen) : Gd (u.five ns f).2 := by
  unfold Ud.five
  split
  · exact hg
  · refine ⟨h1, hg.room, ?_, ?_, Nat.le_trans h3 hg.cnt, h4⟩
    · have := hg.fits
      show ((totU (f u.us).2 : Nat) : Int) ≤ u.room
      omega
    · have := hg.left
      show -1 ≤ (if (f u.us).1 = 0 then didL u.left else u.left) ∧ (if (f u.us).1 = 0 then didL u.left else u.left) < 9223372036854775808
      unfold didL
      split
      · split <;> omega
      · exact this
theorem Gd.remove (hg : Gd u) (x : Nm) : Gd (u.five [x] (rmU x)).2 := by
  refine hg.of [x] (rmU x) ?_ ?_ ?_ ?_
  all_goals
    unfold rmU
    cases hl : lkU u.us x with
    | none => first | exact hg.ris | exact Nat.le_refl _ | exact hg.each
    | some f => first | exact hg.ris.dl x | exact totU_dl x _ | exact List.length_filter_le _ _ | exact fun p hp => hg.each p ((List.mem_filter.1 hp).1)
theorem Gd.sync (hg : Gd u) (x : Nm) : Gd (u.five [x] (syU x)).2 := by
  refine hg.of [x] (syU x) ?_ ?_ ?_ ?_
  all_goals
    unfold syU
    cases hl : lkU u.us x with
    | none => first | exact hg.ris | exact Nat.le_refl _ | exact hg.each
    | some f =>
      obtain ⟨k1, _, k3⟩ := spot_some_of hg.ris hl
      first
        | exact hg.ris.pt x _
        | (show totU (ptU u.us x (f.1, f.1.length)) ≤ _
           rw [k3]
           have := totU_set u.us _ x f (f.1, f.1.length) k1
           simp only at this
           omega)
        | (show (ptU u.us x (f.1, f.1.length)).length ≤ _
           rw [k3]
           simp)
        | (show ∀ p ∈ ptU u.us x (f.1, f.1.length), _
           rw [k3]
           intro p hp
           rcases List.mem_or_eq_of_mem_set hp with h | rfl
           · exact hg.each p h
           · have := hg.each _ (List.mem_of_getElem? k1)
             exact ⟨Nat.le_refl _, this.2⟩)
theorem Gd.cut (hg : Gd u) (x : Nm) (n : Int) : Gd (u.five [x] (cuU x n)).2 := by
  refine hg.of [x] (cuU x n) ?_ ?_ ?_ ?_
  all_goals
    unfold cuU
    cases hl : lkU u.us x with
    | none => first | exact hg.ris | exact Nat.le_refl _ | exact hg.each
    | some f =>
      by_cases hc : n < 0 ∨ (f.1.length : Int) < n
      · simp only [if_pos hc]
        first | exact hg.ris | exact Nat.le_refl _ | exact hg.each
      · simp only [if_neg hc]
        obtain ⟨k1, _, k3⟩ := spot_some_of hg.ris hl
        first
          | exact hg.ris.pt x _
          | (rw [k3]
             have := totU_set u.us _ x f (f.1.take n.toNat, min f.2 n.toNat) k1
             simp only [List.length_take] at this
             omega)
          | (rw [k3]
             simp; done)
          | (rw [k3]
             intro p hp
             rcases List.mem_or_eq_of_mem_set hp with h | rfl
             · exact hg.each p h
             · have := hg.each _ (List.mem_of_getElem? k1)
               refine ⟨?_, fun z hz => this.2.1 z (List.mem_of_mem_take hz), this.2.2⟩
               have h1 := this.1
               simp only [List.length_take]
               omega)
theorem Gd.bytes (hg : Gd u) (x : Nm) : Byt (at0U u.us x).1 := by
  unfold at0U
  cases hl : lkU u.us x with
  | none => exact fun z hz => by cases hz
  | some f =>
    obtain ⟨k1, _, _⟩ := spot_some_of hg.ris hl
    exact (hg.each _ (List.mem_of_getElem? k1)).2.1
end Go.Proofs.YtnkjhooeklodcaaGreatDoor
end

section
/-
  The document's log: a segment that was read ahead of the mending is taken in behind it.
-/
namespace Go.Proofs.YtnkjhooeklodcaaGreatDoor
open Go.RowKit Go.Maps Go.Sort

variable {B wr w7 w9 : World} {D0 F0 D1 F1 : Nat → Prop} {lb wb : Nat} {u : Ud} {pre : List UInt8} {ev sv : Value} {es : List En} {ss : List Nat} {sure : Nat} {dead : Bool}
theorem XRes.segment2 (h1 : Xd wr D1 F1 lb wb u pre es ss sure dead) (j2 : ∀ k, D1 k → D0 k ∨ B.heap.size ≤ k) (j3 : ∀ k, F1 k → F0 k ∨ B.heap.size ≤ k) (j4 : Grows (fun k => D0 k ∨ F0 k) B wr) (hl : Xg wr F1 lb wb pre ev sv es ss sure dead) (n : Nat) (sv' : Value)
    (hl7 : Xg w7 (More F1 wr) lb wb pre ev sv' es (ss ++ [n]) sure dead) (hk7 : ∀ k, k < wr.heap.size → k ≠ lb → sv.ownBlock ≠ some k → w7.heap[k]? = wr.heap[k]?) (hs7 : wr.heap.size ≤ w7.heap.size) (hsv : ∀ k, sv'.ownBlock = some k → sv.ownBlock = some k ∨ wr.heap.size ≤ k) (ho7 : w7.os = wr.os ∧ w7.tape = wr.tape ∧ w7.output = wr.output)
    (rs : List En) (hrs : ∀ r ∈ rs, Bs wr r.1 r.2 ∧ Byt r.2 ∧ r.2.length ≤ 65536 ∧ ∀ k, r.1.ownBlock = some k → B.heap.size ≤ k ∧ ¬ F1 k ∧ ¬ D1 k ∧ k < wr.heap.size)
    (ev' : Value) (hrow9 : w9.ownsRow 0 38 1 ev' (es.length + rs.length) (enOf es ++ enOf rs)) (hg9 : w7.grownBy w9 ev.ownBlock) (hat9 : ev'.ownBlock = ev.ownBlock ∨ ev'.ownBlock = some w7.heap.size) (hf : es.length + rs.length ≤ 10000000) :
    w9.cell? ⟨lb, 2, none⟩ = some ev ∧ w9.frozen? ⟨lb, 2, none⟩ = false ∧ XRes B D0 F0 lb wb pre u (es ++ rs) (ss ++ [n]) sure dead (w9.setCell ⟨lb, 2, none⟩ ev') := by
  have hlb := hl.blk.lt
  have hb9 := hl7.blk.keep (hg9.block lb hl7.blk.lt fun e => (hl7.sep.1 lb e.symm).2.1 rfl)
  have hl8 : Xg w7 (fun k => More F1 wr k ∨ ∃ r ∈ rs, r.1.ownBlock = some k) lb wb pre ev sv' es (ss ++ [n]) sure dead := hl7.more fun k hk => Or.inl hk
  have hl9 := (hl8.addAll rs (fun r hr => by
    obtain ⟨a1, a2, a3, a4⟩ := hrs r hr
    refine ⟨a1.keep fun k hk hlt => ?_, a2, a3, fun k hk => ?_⟩
    · obtain ⟨k1, k2, k3, k4⟩ := a4 k hk
      exact hk7 k k4 (fun e => k2 (by rw [e]; exact hl.lF)) fun e => k2 (hl.sep.2 k e).1
    · obtain ⟨k1, k2, k3, k4⟩ := a4 k hk
      refine ⟨Or.inr ⟨r, hr, hk⟩, fun e => k2 (by rw [e]; exact hl.lF), fun e => k2 (hl.sep.1 k e).1, fun e => ?_, by omega⟩
      rcases hsv k e with e | e
      · exact k2 (hl.sep.2 k e).1
      · omega) w9 ev' hrow9 hg9 hat9 (Or.inl (Or.inr hs7)) hf)
  have hlt9 := hl9.tight
  have hs9 := hg9.size
  have hsB := j4.size
  have hblk : ∀ k, k < wr.heap.size → ¬ F1 k → (w9.setCell ⟨lb, 2, none⟩ ev').heap[k]? = wr.heap[k]? := fun k hk hn => by
    rw [set_other _ _ _ _ _ fun e => hn (by rw [e]; exact hl.lF), hg9.block k (by omega) fun e => hn (hl.sep.1 k e.symm).1, hk7 k hk (fun e => hn (by rw [e]; exact hl.lF)) fun e => hn (hl.sep.2 k e).1]
  refine ⟨hb9.cell 2, hb9.frozen 2, D1, _, ⟨h1.d.keep fun k hk hlt => hblk k hlt (h1.ap k hk), ⟨ev', sv', hlt9⟩, fun k hk => by rw [set_size]; have := h1.dl k hk; omega, fun k hk => hk.2, fun k hk hf => ?_⟩, j2, fun k hk => ?_, ⟨?_, ?_, ?_, ?_, fun k hk hn => ?_⟩⟩
  · rcases hf.1 with (e | e) | ⟨r, hr, e⟩
    · exact h1.ap k hk e
    · have := h1.dl k hk
      omega
    · exact ((hrs r hr).2.2.2 k e).2.2.1 hk
  · rcases hk.1 with (e | e) | ⟨r, hr, e⟩
    · exact j3 k e
    · exact Or.inr (by omega)
    · exact Or.inr ((hrs r hr).2.2.2 k e).1
  · exact hg9.os.trans (ho7.1.trans j4.os)
  · exact hg9.tape.trans (ho7.2.1.trans j4.tape)
  · exact hg9.output.trans (ho7.2.2.trans j4.output)
  · rw [set_size]; omega
  · refine (hblk k (by omega) fun e => ?_).trans (j4.block k hk hn)
    rcases j3 k e with e | e
    · exact hn (Or.inr e)
    · omega
end Go.Proofs.YtnkjhooeklodcaaGreatDoor
end

section
/-
  Entries one behind the other, as bytes (entsN), and what is read of them. Plain facts; no walk.
-/
namespace Go.Proofs.YtnkjhooeklodcaaGreatDoor
open Go.RowKit Go.Maps Go.Sort
open Fr (takeR decN decE decP numR numOf entN)

def Epl (p : List Int) : Prop := Byt p ∧ p.length ≤ 65526
theorem pay_ok {n : Nat} {p : List Int} (hp : Epl p) (hn : n ≤ 10000000) : Fr.Byt (numOf ((n : Int) + 1) ++ p) ∧ (numOf ((n : Int) + 1) ++ p).length ≤ 65536 := by
  have := (Fr.numOf_length ((n : Int) + 1)).2
  have h2 := hp.2
  exact ⟨(Fr.numOf_byt _ (by omega) (by omega)).app hp.1, by rw [List.length_append]; omega⟩
theorem ent_len (n : Nat) (p : List Int) : (entN ((n : Int) + 1) p).length = (numOf ((n : Int) + 1)).length + p.length + 12 := by
  unfold Fr.entN
  rw [Fr.recN_len, List.length_append]
theorem ent_byt {n : Nat} {p : List Int} (hp : Epl p) (hn : n ≤ 10000000) : Byt (entN ((n : Int) + 1) p) := Fr.recN_byt (pay_ok hp hn).1
theorem ent_le (n : Nat) (p : List Int) : 13 ≤ (entN ((n : Int) + 1) p).length ∧ (entN ((n : Int) + 1) p).length ≤ p.length + 22 := by
  have := Fr.numOf_length ((n : Int) + 1)
  rw [ent_len]
  omega
theorem ent_read {n : Nat} {p : List Int} (r : List Int) (hp : Epl p) (hn : n ≤ 10000000) : takeR ((n : Int) + 1) (entN ((n : Int) + 1) p ++ r) = some p ∧ decN (entN ((n : Int) + 1) p ++ r) = (entN ((n : Int) + 1) p).length := by
  obtain ⟨h1, h2⟩ := pay_ok hp hn
  obtain ⟨e1, e2, e3⟩ := Fr.dec_rec _ r h1 h2
  have hr := Fr.numR_numOf ((n : Int) + 1) p (by omega) (by omega)
  refine ⟨?_, ?_⟩
  · unfold Fr.takeR Fr.entN
    rw [e1, e2, hr]
    simp
  · unfold Fr.entN
    rw [e3, Fr.recN_len]
theorem takeR_nil (n : Int) : takeR n [] = none := by
  unfold Fr.takeR
  rw [if_neg]
  intro h
  have := Fr.decE_nil
  omega
theorem ent_cut {n m : Nat} {p : List Int} (hp : Epl p) (hm : m ≤ 10000000) (k : Nat) (hk : k < (entN ((m : Int) + 1) p).length) : takeR ((n : Int) + 1) ((entN ((m : Int) + 1) p).take k) = none := by
  unfold Fr.takeR
  rw [if_neg]
  intro h
  exact Fr.dec_cut _ (pay_ok hp hm).2 k hk h.1
def entsN : Nat → List (List Int) → List Int
  | _, [] => []
  | n, p :: ps => entN ((n : Int) + 1) p ++ entsN (n + 1) ps
theorem entsN_append : ∀ (ps qs : List (List Int)) (n : Nat), entsN n (ps ++ qs) = entsN n ps ++ entsN (n + ps.length) qs
  | [], qs, n => rfl
  | p :: ps, qs, n => by
    simp only [List.cons_append, entsN, entsN_append ps qs (n + 1), List.append_assoc, List.length_cons]
    rw [show n + 1 + ps.length = n + (ps.length + 1) by omega]
theorem entsN_one (n : Nat) (p : List Int) : entsN n [p] = entN ((n : Int) + 1) p := by simp [entsN]
theorem entsN_byt : ∀ (ps : List (List Int)) (n : Nat), (∀ p ∈ ps, Epl p) → n + ps.length ≤ 10000000 → Byt (entsN n ps)
  | [], _, _, _ => fun z hz => by cases hz
  | p :: ps, n, h, hn => by
    simp only [List.length_cons] at hn
    exact Fr.Byt.app (ent_byt (h p (by simp)) (by omega)) (entsN_byt ps (n + 1) (fun q hq => h q (List.mem_cons_of_mem _ hq)) (by omega))
theorem Tk.ents : ∀ (ps : List (List Int)) (n : Nat) (r : List Int), (∀ p ∈ ps, Epl p) → n + ps.length ≤ 10000000 → Tk n (entsN n ps ++ r) ps (entsN n ps).length
  | [], _, _, _, _ => rfl
  | p :: ps, n, r, h, hn => by
    simp only [List.length_cons] at hn
    simp only [entsN, List.append_assoc]
    obtain ⟨e1, e2⟩ := ent_read (entsN (n + 1) ps ++ r) (h p (by simp)) (show n ≤ 10000000 by omega)
    refine ⟨e1, by rw [e2, List.length_append]; omega, ?_⟩
    rw [e2, List.drop_left, List.length_append, Nat.add_sub_cancel_left]
    exact Tk.ents ps (n + 1) r (fun q hq => h q (List.mem_cons_of_mem _ hq)) (by omega)
theorem rdF_ents (ps : List (List Int)) (n : Nat) (r : List Int) (h : ∀ p ∈ ps, Epl p) (hn : n + ps.length ≤ 10000000) (hr : takeR (((n + ps.length : Nat) : Int) + 1) r = none) : rdF n (entsN n ps ++ r) = (ps, (entsN n ps).length) := by
  refine rdF_eq (Tk.ents ps n r h hn) ?_
  rw [List.drop_left]
  exact hr
theorem rdF_whole (ps : List (List Int)) (n : Nat) (h : ∀ p ∈ ps, Epl p) (hn : n + ps.length ≤ 10000000) : rdF n (entsN n ps) = (ps, (entsN n ps).length) := by
  have := rdF_ents ps n [] h hn (takeR_nil _)
  rwa [List.append_nil] at this
end Go.Proofs.YtnkjhooeklodcaaGreatDoor
end

section
/-
  What is read of entries whose bytes are cut short and, from some place on, turned: no more than there were, and those ahead of that place as they were. Plain facts; no walk.
-/
namespace Go.Proofs.YtnkjhooeklodcaaGreatDoor
open Go.RowKit Go.Maps Go.Sort
open Fr (takeR decN decE decP headE heldN numR numOf entN fourV)
structure To (t : Int) (M : Nat) (zs B : List Int) : Prop where
  le : B.length ≤ zs.length
  lo : ∀ i, i < B.length → i < M → B.getD i 0 = zs.getD i 0
  hi : ∀ i, i < B.length → M ≤ i → B.getD i 0 = xb (zs.getD i 0) t
theorem getD_drop (l : List Int) (k i : Nat) : (l.drop k).getD i 0 = l.getD (k + i) 0 := by simp [List.getD]
theorem To.drop {t : Int} {M : Nat} {zs B : List Int} (h : To t M zs B) (k : Nat) : To t (M - k) (zs.drop k) (B.drop k) := by
  refine ⟨by rw [List.length_drop, List.length_drop]; have := h.le; omega, fun i h1 h2 => ?_, fun i h1 h2 => ?_⟩
  · rw [List.length_drop] at h1
    rw [getD_drop, getD_drop]
    exact h.lo _ (by omega) (by omega)
  · rw [List.length_drop] at h1
    rw [getD_drop, getD_drop]
    by_cases hk : M ≤ k + i
    · exact h.hi _ (by omega) hk
    · omega
theorem xb_zero_left (t : Int) (h : 0 ≤ t ∧ t < 256) : xb 0 t = t := by
  unfold xb
  obtain ⟨n, rfl⟩ : ∃ n : Nat, t = (n : Int) := ⟨t.toNat, by omega⟩
  have e : bits .xor .u8 0 (n : Int) = IntKind.u8.wrap (((BitVec.ofInt 8 0 ^^^ BitVec.ofInt 8 (n : Int)).toNat : Nat) : Int) := rfl
  rw [e]
  simp [IntKind.wrap, IntKind.bits, IntKind.signed]
  omega
theorem xb_zero_right (z : Int) (h : 0 ≤ z ∧ z < 256) : xb z 0 = z := by
  unfold xb
  obtain ⟨n, rfl⟩ : ∃ n : Nat, z = (n : Int) := ⟨z.toNat, by omega⟩
  have e : bits .xor .u8 (n : Int) 0 = IntKind.u8.wrap (((BitVec.ofInt 8 (n : Int) ^^^ BitVec.ofInt 8 0).toNat : Nat) : Int) := rfl
  rw [e]
  simp [IntKind.wrap, IntKind.bits, IntKind.signed]
  omega
theorem fourV_take (zs : List Int) (h : 4 ≤ zs.length) : fourV (zs.take 4) = zs.getD 0 0 + 256 * zs.getD 1 0 + 65536 * zs.getD 2 0 + 16777216 * zs.getD 3 0 := by
  match zs, h with
  | a :: b :: c :: d :: r, _ => rfl
theorem To.step {t : Int} {M n : Nat} {p r B : List Int} (ht : 0 ≤ t ∧ t < 256) (hB : Fr.Byt B) (hp : Epl p) (hn : n ≤ 10000000) (hr : Fr.Byt r) (h : To t M (entN ((n : Int) + 1) p ++ r) B) {k : Int} (hk : takeR k B ≠ none) : decN B = (entN ((n : Int) + 1) p).length := by
  have hE : decE B = 0 := by
    rcases Classical.em (decE B = 0) with e | e
    · exact e
    · refine absurd ?_ hk
      unfold Fr.takeR
      rw [if_neg (fun c => e c.1)]
  obtain ⟨hh, _⟩ := Fr.decE_inv hE
  obtain ⟨h8, _, h65⟩ := Fr.headE_inv hh
  obtain ⟨q1, q2⟩ := pay_ok hp hn
  have hd := (Fr.dec_rec _ r q1 q2).1
  have hdn := (Fr.dec_rec _ r q1 q2).2.2
  obtain ⟨hh', _⟩ := Fr.decE_inv hd
  obtain ⟨h8', _, h65'⟩ := Fr.headE_inv hh'
  have hZ : Fr.Byt (entN ((n : Int) + 1) p ++ r) := Fr.Byt.app (ent_byt hp hn) hr
  generalize hzz : entN ((n : Int) + 1) p ++ r = zs at *
  have hzz' : Fr.recN (numOf ((n : Int) + 1) ++ p) ++ r = zs := hzz
  rw [hzz'] at hd hdn hh' h8' h65'
  have gB : ∀ i, 0 ≤ B.getD i 0 ∧ B.getD i 0 < 256 := fun i => by
    by_cases hi : i < B.length
    · exact hB _ (by simp [List.getD, hi])
    · simp [List.getD, List.getElem?_eq_none (Nat.le_of_not_lt hi)]
  have gZ : ∀ i, 0 ≤ zs.getD i 0 ∧ zs.getD i 0 < 256 := fun i => by
    by_cases hi : i < zs.length
    · exact hZ _ (by simp [List.getD, hi])
    · simp [List.getD, List.getElem?_eq_none (Nat.le_of_not_lt hi)]
  have f1 := fourV_take B (by omega)
  have f2 := fourV_take zs (by omega)
  have z3 : zs.getD 3 0 = 0 := by have := gZ 0; have := gZ 1; have := gZ 2; have := gZ 3; omega
  have b3 : B.getD 3 0 = 0 := by have := gB 0; have := gB 1; have := gB 2; have := gB 3; omega
  have same : ∀ i, i < 4 → B.getD i 0 = zs.getD i 0 := by
    intro i hi
    by_cases hm : M ≤ 3
    · have ht0 : t = 0 := by
        have := h.hi 3 (by omega) hm
        rw [b3, z3, xb_zero_left t ht] at this
        exact this.symm
      subst ht0
      by_cases hmi : M ≤ i
      · rw [h.hi i (by omega) hmi, xb_zero_right _ (gZ i)]
      · exact h.lo i (by omega) (by omega)
    · exact h.lo i (by omega) (by omega)
  have hf : fourV (B.take 4) = fourV (zs.take 4) := by rw [f1, f2, same 0 (by omega), same 1 (by omega), same 2 (by omega), same 3 (by omega)]
  have hl : heldN B = heldN zs := by unfold Fr.heldN; rw [hf]
  have d1 : decN B = 12 + heldN B := by unfold Fr.decN; rw [if_pos hE]
  have d2 : decN zs = 12 + heldN zs := by unfold Fr.decN; rw [if_pos hd]
  rw [d1, hl, ← d2, hdn, ent_len, List.length_append]
theorem To.few {t : Int} (ht : 0 ≤ t ∧ t < 256) : ∀ (ps : List (List Int)) (n M : Nat) (B : List Int) (qs : List (List Int)) (m : Nat), (∀ p ∈ ps, Epl p) → n + ps.length ≤ 10000000 → Fr.Byt B → To t M (entsN n ps) B → Tk n B qs m → qs.length ≤ ps.length
  | [], n, M, B, qs, m, _, _, _, h, hk => by
    have hl := h.le
    obtain rfl : B = [] := List.eq_nil_of_length_eq_zero (by simpa [entsN] using hl)
    cases qs with
    | nil => simp
    | cons q qs =>
      have := hk.1
      rw [takeR_nil] at this
      cases this
  | p :: ps, n, M, B, [], m, _, _, _, _, _ => by simp
  | p :: ps, n, M, B, q :: qs, m, hp, hn, hB, h, hk => by
    simp only [List.length_cons] at hn ⊢
    have h1 := hk.1
    have h3 := hk.2.2
    have hd := To.step (n := n) (p := p) (r := entsN (n + 1) ps) ht hB (hp p (by simp)) (by omega) (entsN_byt ps (n + 1) (fun q hq => hp q (List.mem_cons_of_mem _ hq)) (by omega)) h (k := (n : Int) + 1) (by rw [h1]; simp)
    have h4 := h.drop (decN B)
    rw [hd] at h3 h4
    simp only [entsN, List.drop_left] at h4
    have := To.few ht ps (n + 1) _ _ qs _ (fun q hq => hp q (List.mem_cons_of_mem _ hq)) (by omega) (fun z hz => hB z (List.mem_of_mem_drop hz)) h4 h3
    omega
theorem Tk.ahead : ∀ (ps : List (List Int)) (n : Nat) (r : List Int) (qs : List (List Int)) (m : Nat), (∀ p ∈ ps, Epl p) → n + ps.length ≤ 10000000 → Tk (n + ps.length) r qs m → Tk n (entsN n ps ++ r) (ps ++ qs) ((entsN n ps).length + m)
  | [], n, r, qs, m, _, _, hk => by simpa [entsN] using hk
  | p :: ps, n, r, qs, m, h, hn, hk => by
    simp only [List.length_cons] at hn hk
    simp only [entsN, List.append_assoc, List.cons_append]
    obtain ⟨e1, e2⟩ := ent_read (entsN (n + 1) ps ++ r) (h p (by simp)) (show n ≤ 10000000 by omega)
    refine ⟨e1, by rw [e2, List.length_append]; omega, ?_⟩
    rw [e2, List.drop_left, List.length_append, show (entN ((n : Int) + 1) p).length + (entsN (n + 1) ps).length + m - (entN ((n : Int) + 1) p).length = (entsN (n + 1) ps).length + m by omega]
    exact Tk.ahead ps (n + 1) r qs m (fun q hq => h q (List.mem_cons_of_mem _ hq)) (by omega) (by rw [show n + 1 + ps.length = n + (ps.length + 1) by omega]; exact hk)
theorem rdF_torn {t : Int} (ht : 0 ≤ t ∧ t < 256) (ps qs : List (List Int)) (n keep : Nat) (h : ∀ p ∈ ps ++ qs, Epl p) (hn : n + (ps ++ qs).length ≤ 10000000) : ∃ rs, (rdF n (crB (entsN n (ps ++ qs)) (entsN n ps).length keep t)).1 = ps ++ rs ∧ (ps ++ rs).length ≤ (ps ++ qs).length := by
  have hby := entsN_byt (ps ++ qs) n h hn
  obtain ⟨zs, hzs⟩ : ∃ zs, zs = entsN n (ps ++ qs) := ⟨_, rfl⟩
  have happ := entsN_append ps qs n
  have hl : (entsN n ps).length ≤ zs.length := by rw [hzs, happ, List.length_append]; omega
  have hN := crN_le zs (entsN n ps).length keep hl
  have hNl : (entsN n ps).length ≤ crN zs (entsN n ps).length keep := by unfold crN; omega
  have hMN := crM_le zs (entsN n ps).length keep
  have hM : (entsN n ps).length ≤ crM zs (entsN n ps).length keep := by unfold crM; exact Nat.le_max_left _ _
  rw [← hzs] at hby ⊢
  have hBb : Fr.Byt (crB zs (entsN n ps).length keep t) := by
    intro z hz
    unfold crB xq at hz
    obtain ⟨i, hi, rfl⟩ := List.mem_mapIdx.1 hz
    have hm := hby _ (List.mem_of_mem_take (List.getElem_mem hi))
    split
    · unfold xb
      have e : ∀ a b : Int, 0 ≤ bits .xor .u8 a b ∧ bits .xor .u8 a b < 256 := by
        intro a b
        have e : bits .xor .u8 a b = IntKind.u8.wrap (((BitVec.ofInt 8 a ^^^ BitVec.ofInt 8 b).toNat : Nat) : Int) := rfl
        rw [e]
        simp [IntKind.wrap, IntKind.bits, IntKind.signed]
        omega
      exact e _ _
    · exact hm
  have hlen := crB_length zs (entsN n ps).length keep t hl
  have hget : ∀ i, i < crN zs (entsN n ps).length keep → (crB zs (entsN n ps).length keep t).getD i 0 = if crM zs (entsN n ps).length keep ≤ i then xb (zs.getD i 0) t else zs.getD i 0 := by
    intro i hi
    have hi2 : i < zs.length := by omega
    simp only [crB, xq, List.getD, List.getElem?_mapIdx, List.getElem?_take, if_pos hi]
    rw [List.getElem?_eq_getElem hi2]
    simp only [Option.map_some, Option.getD_some]
    by_cases hc : crM zs (entsN n ps).length keep ≤ i
    · rw [if_pos ⟨hc, hi⟩, if_pos hc]
    · rw [if_neg (fun c => hc c.1), if_neg hc]
  have hT : To t (crM zs (entsN n ps).length keep) zs (crB zs (entsN n ps).length keep t) := by
    refine ⟨by omega, fun i h1 h2 => ?_, fun i h1 h2 => ?_⟩
    · rw [hget i (by omega), if_neg (by omega)]
    · rw [hget i (by omega), if_pos h2]
  -- the front is as it was
  obtain ⟨r, hr⟩ : ∃ r, crB zs (entsN n ps).length keep t = entsN n ps ++ r := by
    refine ⟨(crB zs (entsN n ps).length keep t).drop (entsN n ps).length, ?_⟩
    rw [← List.take_append_drop (entsN n ps).length (crB zs (entsN n ps).length keep t)]
    congr 1
    · have hf : (crB zs (entsN n ps).length keep t).take (entsN n ps).length = zs.take (entsN n ps).length := by
        apply List.ext_getElem?
        intro i
        by_cases hi : i < (entsN n ps).length
        · rw [List.getElem?_take, List.getElem?_take, if_pos hi, if_pos hi]
          have := hget i (by omega)
          rw [if_neg (by omega)] at this
          rw [List.getElem?_eq_getElem (by omega), List.getElem?_eq_getElem (by omega)]
          simp only [List.getD, List.getElem?_eq_getElem (show i < (crB zs (entsN n ps).length keep t).length by omega), List.getElem?_eq_getElem (show i < zs.length by omega), Option.getD_some] at this
          rw [this]
        · rw [List.getElem?_take, List.getElem?_take, if_neg hi, if_neg hi]
      rw [hf, hzs, happ, List.take_left]
    · simp
  obtain ⟨qs', m, hk, hno⟩ := Tk.exists r.length (n + ps.length) r (Nat.le_refl _)
  have hA := Tk.ahead ps n r qs' m (fun p hp => h p (List.mem_append_left _ hp)) (by rw [List.length_append] at hn; omega) hk
  have hno' : takeR (((n + (ps ++ qs').length : Nat) : Int) + 1) ((entsN n ps ++ r).drop ((entsN n ps).length + m)) = none := by
    rw [List.length_append, ← Nat.add_assoc, ← List.drop_drop, List.drop_left]
    exact hno
  rw [hr] at hT hBb ⊢
  have hrd := rdF_eq hA hno'
  refine ⟨qs', by rw [hrd], ?_⟩
  rw [hzs] at hT
  exact To.few ht (ps ++ qs) n _ _ _ _ h hn hBb hT hA
end Go.Proofs.YtnkjhooeklodcaaGreatDoor
end
