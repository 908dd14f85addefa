/-
  Joined from: Law, DuelPlain, RbPlain, RgRows, RgPlain.
-/
import Derived.Test.YtbfldcieibdapabGreatM07
import Derived.Deep.DeepCutAuto
import Derived.Test.YtbfldcieibdapabGreatM01
section
/-
  Words for the laws: a game that the law made (Kn), and Step within a region that draws its order.
-/
namespace Go.Proofs.YtbfldcieibdapabGreat
open Go.RowKit
section
variable {ops : Array Oper} {o : Oper} {a : Act} {w : World} {K : Act → World → Prop} {Q : Exit → Act → World → Prop} {E : Prop}
theorem step_alloc_row (hgd : o.guard = none) (ty : TypeId) (ho : o.op = .alloc ty) (cs : List Value) (hz : (Tryz.prog.info? ty).bind (·.zero) = some (.agg cs.toArray))
    (h : ∀ W, Cw W w.heap.size cs ty → Below w.heap.size w W → Hid (W.heap.size = w.heap.size + 1) → K (a.put o.dst (.pointer (some ⟨w.heap.size, 0, none⟩))) W) : if Region.wanted o (yielded ops a.tmps) = true then Oper.wp Tryz.prog o a w K Q else E := by
  have hw : Region.wanted o (yielded ops a.tmps) = true := by simp [Region.wanted, hgd]
  rw [if_pos hw]
  cases hi : Tryz.prog.info? ty with
  | none => rw [hi] at hz; cases hz
  | some i =>
    have hz' : i.zero = some (.agg cs.toArray) := by rw [hi] at hz; exact hz
    unfold Oper.wp execOp
    simp only [ho, Sem.run_bind, Instr.alloc, zeroValue, typeInfo, hi, hz', newVar, newRow, run_newObj_alloc, Sem.run_pure, Result.andThen_ok, run_program]
    exact h _ (Cw.new w cs ty) ((Below.refl _ _).alloc (Nat.le_refl _) _) (World.size_alloc _ _)
theorem step_store_rw (hgd : o.guard = none) (ty : TypeId) (x y : Operand) (ho : o.op = .store ty x y) (g : Nat) (cs ds : List Value) (t : TypeId) (hx : a.eval x = .pointer (some ⟨g, 0, none⟩)) (hy : a.eval y = .agg ds.toArray)
    (hc : Cw w g cs t) (hi : Hid ((Tryz.prog.info? ty).map (·.size) = some cs.length)) (hl : Hid (cs.length = ds.length)) (h1 : Hid (∀ v ∈ ds, v.oneCell' = true))
    (h : ∀ W, Cw W g ds t → Only g w W → K (a.put o.dst undef) W) : if Region.wanted o (yielded ops a.tmps) = true then Oper.wp Tryz.prog o a w K Q else E := by
  have hw : Region.wanted o (yielded ops a.tmps) = true := by simp [Region.wanted, hgd]
  rw [if_pos hw]
  refine wp_store_mid ty x y ho g 0 ds.toArray hx hy (by rw [List.size_toArray, ← hl.out]; exact hc.there) (by rw [List.size_toArray, ← hl.out]; exact hi.out) (all_oneCell_toArray h1.out) ?_
  exact h _ (hc.put hl.out) (Only.sets g 0 w ds)
/-- A store of a whole row, half run. -/
theorem upon_store {b : Nat} {cs ds : List Value} {t : TypeId} (hc : Cw w b cs t) (hl : Hid (cs.length = ds.length)) (h1 : Hid (∀ v ∈ ds, v.oneCell' = true)) (h : ∀ W, Cw W b ds t → Only b w W → K (a.put o.dst undef) W) :
    Oper.upon Tryz.prog o a K Q ((Sem.run Tryz.prog (storeCells ⟨b, 0, none⟩ ds) w).andThen fun _ w' => Result.ok Next.skip w') := by
  have ht := hc.there
  rw [hl.out] at ht
  have := run_storeCells_cells (P := Tryz.prog) b 0 ds 0 w (fun j hj => by simpa using (ht j hj).1) (fun j hj => by simpa using (ht j hj).2) h1.out
  simp only [Nat.add_zero] at this
  rw [this]
  exact h _ (hc.put hl.out) (Only.sets b 0 w ds)
end
/-- A game of the law's own, in block G; its program l, of the slice cv; what lies below N is left as it is. -/
structure Kn (w W : World) (N G : Nat) (cv : Value) (cap fuel : Int) (l : List Ii) : Prop where
  g : Cw W G [cv, .int .i64 cap, .int .i64 fuel] 24
  ls : Ls W cv l
  below : Below w.heap.size w W
  lo : w.heap.size ≤ N
  lt : G < N
  own : ∀ k, cv.ownBlock = some k → k < N
  size : N ≤ W.heap.size
variable {w W W' : World} {N G : Nat} {cv : Value} {cap fuel : Int} {l : List Ii}
theorem Kn.next (h : Kn w W N G cv cap fuel l) (hb : Below W.heap.size W W') : Kn w W' N G cv cap fuel l :=
  ⟨h.g.below hb h.g.lt, h.ls.below hb, h.below.trans (hb.mono h.below.size), h.lo, h.lt, h.own, Nat.le_trans h.size hb.size⟩
theorem Kn.only (h : Kn w W N G cv cap fuel l) {b : Nat} (hb : Only b W W') (hN : N ≤ b) : Kn w W' N G cv cap fuel l :=
  ⟨hb.cw h.g (by have := h.lt; omega), h.ls.keep (fun k hk _ => hb.block k (by have := h.own k hk; omega)), h.below.trans (hb.below (by have := h.lo; omega)), h.lo, h.lt, h.own, by rw [hb.size]; exact h.size⟩
theorem Kn.sm (h : Kn w W N G cv cap fuel l) (hs : Sm W W') : Kn w W' N G cv cap fuel l := h.next ⟨hs.os, hs.tape, hs.output, by rw [hs.size]; exact Nat.le_refl _, fun k _ => by rw [hs.heap]⟩
/-- The cells of the game. -/
def GmC (G : Nat) (cv : Value) (cap fuel : Int) (V : World) : Prop := V.cell? ⟨G, 0, none⟩ = some cv ∧ V.cell? ⟨G, 1, none⟩ = some (.int .i64 cap) ∧ V.cell? ⟨G, 2, none⟩ = some (.int .i64 fuel)
theorem Kn.s (h : Kn w W N G cv cap fuel l) : W.cell? ⟨G, 0, none⟩ = some cv ∧ W.cell? ⟨G, 1, none⟩ = some (.int .i64 cap) ∧ W.cell? ⟨G, 2, none⟩ = some (.int .i64 fuel) := ⟨(h.g.cell 0).trans rfl, (h.g.cell 1).trans rfl, (h.g.cell 2).trans rfl⟩
theorem Kn.step (h : Kn w W N G cv cap fuel l) (s t : Sp) (i0 i1 e : Int) (hs : s.Wf) (hi0 : 0 ≤ i0 ∧ i0 < 65536) (hi1 : 0 ≤ i1 ∧ i1 < 65536) (he : stepF l cap fuel s i0 i1 = (t, e)) :
    Calls Tryz.prog 45 #[.agg #[cv, .int .i64 cap, .int .i64 fuel], .agg (stV s).toArray, .agg #[.int .u16 i0, .int .u16 i1]] W fun r w' => r = .returned (.tuple #[.agg (stV t).toArray, .int .i64 e]) ∧ Below W.heap.size W w' := by
  have := Step_any cv l cap fuel s i0 i1 W h.ls hs hi0 hi1
  rw [he] at this
  exact this
/-- A game just made. -/
theorem Kn.make (w : World) (l : List Ii) (cap fuel : Int) (hl : l.length ≤ 1000) : Kn w ((w.alloc (.cells (cells2 l).toArray 66)).alloc (.cells #[.slice (some ⟨w.heap.size, 0, none⟩) l.length l.length, .int .i64 cap, .int .i64 fuel] 24)) (w.heap.size + 2) (w.heap.size + 1) (.slice (some ⟨w.heap.size, 0, none⟩) l.length l.length) cap fuel l := by
  have hc : Cw (w.alloc (.cells (cells2 l).toArray 66)) w.heap.size (cells2 l) 66 := Cw.new _ _ _
  have hg := Cw.new (w.alloc (.cells (cells2 l).toArray 66)) [.slice (some ⟨w.heap.size, 0, none⟩) l.length l.length, .int .i64 cap, .int .i64 fuel] 24
  rw [World.size_alloc] at hg
  refine ⟨hg, Ls_of_block (hc.alloc _) (by unfold maxLen; omega), (((Below.refl w.heap.size w).alloc (Nat.le_refl _) _).alloc (by rw [World.size_alloc]; omega) _), by omega, by omega, ?_, ?_⟩
  · intro k hk
    have : w.heap.size = k := by simpa [Value.ownBlock] using hk
    omega
  · rw [World.size_alloc, World.size_alloc]; omega
/-- A variable for a state that was made ahead of a call. -/
theorem Kn.alloc1 {W0 wa : World} (H : Kn w W0.drew N G cv cap fuel l) (Ba : Below (W0.alloc (.cells zeroS.toArray 44)).drew.heap.size (W0.alloc (.cells zeroS.toArray 44)).drew wa) :
    Hid (Cw wa W0.heap.size zeroS 44) ∧ Hid (N ≤ W0.heap.size) ∧ Hid (Kn w wa N G cv cap fuel l) := by
  have h1 : Kn w (W0.alloc (.cells zeroS.toArray 44)).drew N G cv cap fuel l := (H.next (W' := W0.drew.alloc (.cells zeroS.toArray 44)) ((Below.refl _ _).alloc (Nat.le_refl _) _)).sm ⟨rfl, rfl, rfl, rfl⟩
  have h2 : Cw (W0.alloc (.cells zeroS.toArray 44)).drew W0.heap.size zeroS 44 := Cw.keep (Cw.new W0 zeroS 44) rfl
  refine ⟨h2.below Ba ?_, H.size, h1.next Ba⟩
  show W0.heap.size < (W0.alloc _).heap.size
  rw [World.size_alloc]; omega
theorem Kn.alloc2 {W0 wa : World} (H : Kn w W0 N G cv cap fuel l) (Ba : Below (W0.alloc (.cells zeroS.toArray 44)).heap.size (W0.alloc (.cells zeroS.toArray 44)) wa) :
    Hid (Cw wa W0.heap.size zeroS 44) ∧ Hid (N ≤ W0.heap.size) ∧ Hid (Kn w wa N G cv cap fuel l) := by
  have h1 : Kn w (W0.alloc (.cells zeroS.toArray 44)) N G cv cap fuel l := H.next ((Below.refl _ _).alloc (Nat.le_refl _) _)
  refine ⟨Cw.below (Cw.new W0 zeroS 44) Ba ?_, H.size, h1.next Ba⟩
  rw [World.size_alloc]; omega
/-- What a state needs, to be stored. -/
theorem st_len {s : Sp} (h : s.Wf) : Hid (zeroS.length = (stV s).length) := by rw [(stV_c h).len]; exact hid_into rfl
theorem st_one {s : Sp} (h : s.Wf) : Hid (∀ v ∈ stV s, v.oneCell' = true) := (stV_c h).one
theorem zeroS_size : Hid ((Tryz.prog.info? 44).map (·.size) = some zeroS.length) := Tryz.size44
theorem st_size {s : Sp} (h : s.Wf) : Hid ((Tryz.prog.info? 44).map (·.size) = some (stV s).length) := by rw [(stV_c h).len]; exact Tryz.size44
theorem startS_wf (k : Int) (hk : 0 ≤ k ∧ k < 4294967296) : (startS k).Wf := ⟨rfl, by intro x hx; simp only [startS, zeros, List.mem_cons, List.not_mem_nil, or_false, or_self] at hx; subst hx; exact zero_in, by show (0 : Int) ≤ (if k = 0 then 1 else k) ∧ (if k = 0 then 1 else k) < 4294967296; split <;> omega⟩
end Go.Proofs.YtbfldcieibdapabGreat
end

section
/-
  Whole games in plain words: the states on the way (goS), the last one (endG). Plain facts; no walk.
-/
namespace Go.Proofs.YtbfldcieibdapabGreat
/-- What a run keeps: who won is one of three, the seed is not nought. -/
def Mq (m : Mp) : Prop := (∀ a, m.won = some a → 0 ≤ a ∧ a ≤ 2) ∧ (0 ≤ m.seed ∧ m.seed < 4294967296) ∧ m.seed ≠ 0
theorem push_q {m m' : Mp} {v : Int} (h : m.push v = some m') (hq : Mq m) : Mq m' := by
  unfold Mp.push at h
  split at h
  · cases h; exact hq
  · cases h
theorem mayI_win2 {x : Ii} {n : Int} (h : mayI x n = true) (h20 : x.1 = 20) : 0 ≤ x.2 ∧ x.2 ≤ 2 := by
  obtain ⟨o, a⟩ := x
  simp only at h20
  subst h20
  have h2 : decide (0 ≤ a ∧ a ≤ 2) = true := h
  simpa only [decide_eq_true_eq] using h2
theorem doI_q {fr i0 i1 : Int} {n : Nat} {x : Ii} {m m' : Mp} (h : doI fr i0 i1 n x m = some m') (hx : mayI x (n : Int) = true) (hq : Mq m) : Mq m' := by
  have h20 := mayI_win2 hx
  obtain ⟨c, sd, st, pc, won⟩ := m
  unfold doI at h
  by_cases c0 : x.1 = 1
  · rw [if_pos c0] at h
    (rcases st with _ | ⟨a1, _ | ⟨b1, st⟩⟩ <;> first | (cases h; exact hq) | exact push_q h hq | cases h)
  rw [if_neg c0] at h
  by_cases c1 : x.1 = 2
  · rw [if_pos c1] at h
    (rcases st with _ | ⟨a1, _ | ⟨b1, st⟩⟩ <;> first | (cases h; exact hq) | exact push_q h hq | cases h)
  rw [if_neg c1] at h
  by_cases c2 : x.1 = 3
  · rw [if_pos c2] at h
    (rcases st with _ | ⟨a1, _ | ⟨b1, st⟩⟩ <;> first | (cases h; exact hq) | exact push_q h hq | cases h)
  rw [if_neg c2] at h
  by_cases c3 : x.1 ≤ 11
  · rw [if_pos c3] at h
    (rcases st with _ | ⟨a1, _ | ⟨b1, st⟩⟩ <;> first | (cases h; exact hq) | exact push_q h hq | cases h)
  rw [if_neg c3] at h
  by_cases c4 : x.1 = 12
  · rw [if_pos c4] at h
    (rcases st with _ | ⟨a1, _ | ⟨b1, st⟩⟩ <;> first | (cases h; exact hq) | exact push_q h hq | cases h)
  rw [if_neg c4] at h
  by_cases c5 : x.1 = 13
  · rw [if_pos c5] at h
    (rcases st with _ | ⟨a1, _ | ⟨b1, st⟩⟩ <;> first | (cases h; exact hq) | exact push_q h hq | cases h)
  rw [if_neg c5] at h
  by_cases c6 : x.1 = 14
  · rw [if_pos c6] at h
    (rcases st with _ | ⟨a1, _ | ⟨b1, st⟩⟩ <;> first | (cases h; exact hq) | exact push_q h hq | cases h)
  rw [if_neg c6] at h
  by_cases c7 : x.1 = 15
  · rw [if_pos c7] at h
    (rcases st with _ | ⟨a1, _ | ⟨b1, st⟩⟩ <;> first | (cases h; exact hq) | exact push_q h hq | cases h)
  rw [if_neg c7] at h
  by_cases c8 : x.1 = 16
  · rw [if_pos c8] at h
    (rcases st with _ | ⟨a1, _ | ⟨b1, st⟩⟩ <;> first | (cases h; exact hq) | exact push_q h hq | cases h)
  rw [if_neg c8] at h
  by_cases c9 : x.1 = 17
  · rw [if_pos c9] at h
    (rcases st with _ | ⟨a1, _ | ⟨b1, st⟩⟩ <;> first | (cases h; exact hq) | exact push_q h hq | cases h)
  rw [if_neg c9] at h
  by_cases c10 : x.1 = 18
  · rw [if_pos c10] at h
    (rcases st with _ | ⟨a1, _ | ⟨b1, st⟩⟩ <;> first | (cases h; exact hq) | exact push_q h hq | cases h)
  rw [if_neg c10] at h
  by_cases c11 : x.1 = 19
  · rw [if_pos c11] at h
    (rcases st with _ | ⟨a1, _ | ⟨b1, st⟩⟩ <;> first | (cases h; exact hq) | exact push_q h hq | cases h)
  rw [if_neg c11] at h
  by_cases c12 : x.1 = 20
  · rw [if_pos c12] at h
    cases h
    exact ⟨fun a ha => by cases ha; exact h20 c12, hq.2.1, hq.2.2⟩
  rw [if_neg c12] at h
  by_cases c13 : x.1 = 21
  · rw [if_pos c13] at h
    refine push_q h ⟨hq.1, ?_, ?_⟩
    · exact rndI_in hq.2.1
    · exact rndI_ne hq.2.1 hq.2.2
  rw [if_neg c13] at h
  cases h
  exact hq
theorem runI_q {fr i0 i1 : Int} {l : List Ii} (ho : Okp l) : ∀ (k : Nat) (m m' : Mp), Mq m → runI fr i0 i1 l k m = some m' → Mq m'
  | 0, m, m', hq, h => by
    unfold runI at h
    by_cases e : l.length ≤ m.pc
    · rw [if_pos e] at h
      cases h
      exact hq
    · rw [if_neg e] at h
      cases h
  | k + 1, m, m', hq, h => by
    cases hx : l[m.pc]? with
    | none =>
      rw [runI_end (k + 1) (List.getElem?_eq_none_iff.1 hx)] at h
      cases h
      exact hq
    | some x =>
      rw [runI_step k hx] at h
      cases h2 : doI fr i0 i1 l.length x m with
      | none => rw [h2] at h; cases h
      | some m2 =>
        rw [h2] at h
        exact runI_q ho k m2 m' (doI_q h2 (ho.may x (List.mem_of_getElem? hx)) hq) h
/-- A state from which a game of this Cap can go on, or that is over. -/
structure Gs (cap : Int) (s : Sp) : Prop where
  wf : s.Wf
  f0 : 0 ≤ s.frame
  f1 : s.frame ≤ cap
  f2 : s.over = false → s.frame < cap
  w0 : 0 ≤ s.win
  w1 : s.win ≤ 2
  w2 : s.over = false → s.win = 0
  seed : s.seed ≠ 0
theorem startS_gs (k cap : Int) (hk : 0 ≤ k ∧ k < 4294967296) (hc : 1 ≤ cap) : Gs cap (startS k) := by
  refine ⟨startS_wf k hk, Int.le_refl _, ?_, fun _ => ?_, Int.le_refl _, ?_, fun _ => rfl, ?_⟩
  · show (0 : Int) ≤ cap; omega
  · show (0 : Int) < cap; omega
  · show (0 : Int) ≤ 2; omega
  · show (if k = 0 then 1 else k) ≠ 0
    split <;> omega
theorem chkG_cap {l : List Ii} {cap fuel : Int} (h : chkG l cap fuel = 0) : (chk l).2 = 0 ∧ 1 ≤ cap ∧ cap ≤ 600 ∧ 1 ≤ fuel ∧ fuel ≤ 2000 := by
  unfold chkG at h
  by_cases h4 : (chk l).2 ≠ 0
  · rw [if_pos h4] at h; exact absurd h h4
  · rw [if_neg h4] at h
    by_cases h5 : cap < 1 ∨ 600 < cap ∨ fuel < 1 ∨ 2000 < fuel
    · rw [if_pos h5] at h; omega
    · exact ⟨by omega, by omega, by omega, by omega, by omega⟩
theorem Gs.stepE {l : List Ii} {cap fuel : Int} {s : Sp} (h : Gs cap s) (hc : chkG l cap fuel = 0) (ho : s.over = false) : stepE l cap fuel s = 0 := by
  have hcap := chkG_cap hc
  have h1 := h.f1
  have hi : isS s = true := by
    simp only [isS, decide_eq_true_eq]
    exact ⟨h.f0, by omega, h.w0, h.w1, Or.inr (h.w2 ho)⟩
  have h2 := h.f2 ho
  have hs := h.seed
  unfold Go.Proofs.YtbfldcieibdapabGreat.stepE
  rw [if_neg (by omega), if_neg (by rw [hi]; simp [hs]), if_neg (by rw [ho]; simp; omega)]
theorem stepS_frame (l : List Ii) (cap fuel : Int) (s : Sp) (i0 i1 : Int) : (stepS l cap fuel s i0 i1).frame = s.frame + 1 := by
  unfold stepS endS
  split
  · show _ + 1 = _; rw [ranS_frame]
  · show _ + 1 = _; rw [ranS_frame]
/-- What is behind a frame that may be played. -/
theorem stepS_facts {l : List Ii} {cap fuel : Int} {s : Sp} {i0 i1 : Int} (hs : s.Wf) (hi0 : 0 ≤ i0 ∧ i0 < 65536) (hi1 : 0 ≤ i1 ∧ i1 < 65536) (hE : stepE l cap fuel s = 0) : Gs cap (stepS l cap fuel s i0 i1) := by
  have hwf : (stepS l cap fuel s i0 i1).Wf := by
    have h := stepF_wf l cap fuel s i0 i1 hs hi0 hi1
    rw [show stepF l cap fuel s i0 i1 = (stepS l cap fuel s i0 i1, 0) from if_pos hE] at h
    exact h
  have hfr := stepS_frame l cap fuel s i0 i1
  obtain ⟨hok, _, hcap, hf1, hf2, hfr0, hfr1, hov, hwin, hsd⟩ := stepE_ok hE
  have key : ∀ t : Sp, t.frame = s.frame → (0 ≤ t.win ∧ t.win ≤ 2 ∧ (t.over = false → t.win = 0) ∧ t.seed ≠ 0) → stepS l cap fuel s i0 i1 = endS cap t → Gs cap (stepS l cap fuel s i0 i1) := by
    intro t h1 ⟨h2, h3, h4, h5⟩ he
    by_cases hc : t.frame + 1 = cap ∧ t.over = false
    · have e1 : stepS l cap fuel s i0 i1 = { t with frame := t.frame + 1, over := true, win := moreI (t.cells.getD 0 0) (t.cells.getD 1 0) } := he.trans (if_pos hc)
      have hm : 0 ≤ moreI (t.cells.getD 0 0) (t.cells.getD 1 0) ∧ moreI (t.cells.getD 0 0) (t.cells.getD 1 0) ≤ 2 := by
        unfold moreI
        repeat' split
        all_goals omega
      rw [e1] at hwf hfr ⊢
      exact ⟨hwf, by show 0 ≤ t.frame + 1; omega, by show t.frame + 1 ≤ cap; omega, fun e => (by cases e), hm.1, hm.2, fun e => (by cases e), h5⟩
    · have e1 : stepS l cap fuel s i0 i1 = { t with frame := t.frame + 1 } := he.trans (if_neg hc)
      rw [e1] at hwf hfr ⊢
      refine ⟨hwf, by show 0 ≤ t.frame + 1; omega, by show t.frame + 1 ≤ cap; omega, fun e => ?_, h2, h3, h4, h5⟩
      show t.frame + 1 < cap
      have : ¬ t.frame + 1 = cap := fun e2 => hc ⟨e2, e⟩
      omega
  refine key _ (ranS_frame s _) ?_ rfl
  cases hR : runI s.frame i0 i1 l fuel.toNat (startM s) with
  | none =>
    show 0 ≤ s.win ∧ s.win ≤ 2 ∧ (s.over = false → s.win = 0) ∧ s.seed ≠ 0
    exact ⟨by omega, by omega, fun _ => hwin, hsd⟩
  | some m =>
    have hq : Mq m := runI_q hok _ _ _ ⟨fun a ha => (by cases ha), hs.seed, hsd⟩ hR
    cases hm : m.won with
    | none =>
      have e : ranS s (some m) = { s with cells := m.cells, seed := m.seed } := by simp only [ranS, hm]
      rw [e]
      exact ⟨by show 0 ≤ s.win; omega, by show s.win ≤ 2; omega, fun _ => hwin, hq.2.2⟩
    | some a =>
      have e : ranS s (some m) = { s with cells := m.cells, seed := m.seed, over := true, win := a } := by simp only [ranS, hm]
      rw [e]
      exact ⟨(hq.1 a hm).1, (hq.1 a hm).2, fun e => (by cases e), hq.2.2⟩
/-- The states behind s, frame by frame, till it is over. -/
def goS (l : List Ii) (cap fuel : Int) : Sp → List (Int × Int) → List Sp
  | _, [] => []
  | s, p :: ps => if s.over = true then [] else stepS l cap fuel s p.1 p.2 :: goS l cap fuel (stepS l cap fuel s p.1 p.2) ps
/-- The last of them, or s itself. -/
def endG (l : List Ii) (cap fuel : Int) : Sp → List (Int × Int) → Sp
  | s, [] => s
  | s, p :: ps => if s.over = true then s else endG l cap fuel (stepS l cap fuel s p.1 p.2) ps
/-- Inputs that players can do. -/
def InP (ps : List (Int × Int)) : Prop := ∀ p ∈ ps, (0 ≤ p.1 ∧ p.1 < 65536) ∧ (0 ≤ p.2 ∧ p.2 < 65536)
theorem InP.at {ps : List (Int × Int)} (h : InP ps) {i : Nat} {p : Int × Int} (hi : ps[i]? = some p) : (0 ≤ p.1 ∧ p.1 < 65536) ∧ (0 ≤ p.2 ∧ p.2 < 65536) := h p (List.mem_of_getElem? hi)
theorem InP.drop {ps : List (Int × Int)} (h : InP ps) (k : Nat) : InP (ps.drop k) := fun p hp => h p (List.mem_of_mem_drop hp)
theorem goS_over {l : List Ii} {cap fuel : Int} {s : Sp} (ps : List (Int × Int)) (h : s.over = true) : goS l cap fuel s ps = [] := by
  cases ps with
  | nil => rfl
  | cons p ps => exact if_pos h
theorem endG_over {l : List Ii} {cap fuel : Int} {s : Sp} (ps : List (Int × Int)) (h : s.over = true) : endG l cap fuel s ps = s := by
  cases ps with
  | nil => rfl
  | cons p ps => exact if_pos h
theorem goS_step {l : List Ii} {cap fuel : Int} {s : Sp} {ps : List (Int × Int)} {k : Nat} {p : Int × Int} (hk : ps[k]? = some p) (h : s.over = false) : goS l cap fuel s (ps.drop k) = stepS l cap fuel s p.1 p.2 :: goS l cap fuel (stepS l cap fuel s p.1 p.2) (ps.drop (k + 1)) := by
  obtain ⟨hlt, hp⟩ := List.getElem?_eq_some_iff.1 hk
  rw [List.drop_eq_getElem_cons hlt, hp]
  exact if_neg (by simp [h])
theorem endG_step {l : List Ii} {cap fuel : Int} {s : Sp} {ps : List (Int × Int)} {k : Nat} {p : Int × Int} (hk : ps[k]? = some p) (h : s.over = false) : endG l cap fuel s (ps.drop k) = endG l cap fuel (stepS l cap fuel s p.1 p.2) (ps.drop (k + 1)) := by
  obtain ⟨hlt, hp⟩ := List.getElem?_eq_some_iff.1 hk
  rw [List.drop_eq_getElem_cons hlt, hp]
  exact if_neg (by simp [h])
theorem goS_end {l : List Ii} {cap fuel : Int} {s : Sp} {ps : List (Int × Int)} {k : Nat} (hk : ps.length ≤ k) : goS l cap fuel s (ps.drop k) = [] := by
  rw [List.drop_eq_nil_of_le hk]; rfl
theorem endG_end {l : List Ii} {cap fuel : Int} {s : Sp} {ps : List (Int × Int)} {k : Nat} (hk : ps.length ≤ k) : endG l cap fuel s (ps.drop k) = s := by
  rw [List.drop_eq_nil_of_le hk]; rfl
theorem goS_last (l : List Ii) (cap fuel : Int) : ∀ (ps : List (Int × Int)) (s : Sp), (s :: goS l cap fuel s ps).getLast (by simp) = endG l cap fuel s ps
  | [], s => rfl
  | p :: ps, s => by
    unfold goS endG
    by_cases h : s.over = true
    · simp [h]
    · simp only [if_neg h]
      rw [List.getLast_cons (by simp)]
      exact goS_last l cap fuel ps _
theorem goS_len (l : List Ii) (cap fuel : Int) : ∀ (ps : List (Int × Int)) (s : Sp), (goS l cap fuel s ps).length ≤ ps.length ∧ ((goS l cap fuel s ps).length = ps.length ∨ (endG l cap fuel s ps).over = true)
  | [], s => ⟨Nat.le_refl _, Or.inl rfl⟩
  | p :: ps, s => by
    unfold goS endG
    by_cases h : s.over = true
    · simp only [if_pos h]
      exact ⟨by simp, Or.inr h⟩
    · simp only [if_neg h]
      have := goS_len l cap fuel ps (stepS l cap fuel s p.1 p.2)
      simp only [List.length_cons]
      exact ⟨by omega, by rcases this.2 with e | e; exact Or.inl (by omega); exact Or.inr e⟩
theorem endG_append (l : List Ii) (cap fuel : Int) : ∀ (ps qs : List (Int × Int)) (s : Sp), endG l cap fuel s (ps ++ qs) = endG l cap fuel (endG l cap fuel s ps) qs
  | [], qs, s => rfl
  | p :: ps, qs, s => by
    show (if s.over = true then s else endG l cap fuel (stepS l cap fuel s p.1 p.2) (ps ++ qs)) = endG l cap fuel (if s.over = true then s else endG l cap fuel (stepS l cap fuel s p.1 p.2) ps) qs
    by_cases h : s.over = true
    · rw [if_pos h, if_pos h, endG_over qs h]
    · rw [if_neg h, if_neg h]; exact endG_append l cap fuel ps qs _
theorem endG_gs {l : List Ii} {cap fuel : Int} (hc : chkG l cap fuel = 0) : ∀ (ps : List (Int × Int)) (s : Sp), InP ps → Gs cap s → Gs cap (endG l cap fuel s ps)
  | [], s, _, h => h
  | p :: ps, s, hp, h => by
    unfold endG
    by_cases ho : s.over = true
    · rw [if_pos ho]; exact h
    · rw [if_neg ho]
      have ho' : s.over = false := by cases e : s.over with | false => rfl | true => exact absurd e ho
      have h2 := hp p (by simp)
      exact endG_gs hc ps _ (fun q hq => hp q (by simp [hq])) (stepS_facts h.wf h2.1 h2.2 (h.stepE hc ho'))
theorem endG_frame (l : List Ii) (cap fuel : Int) : ∀ (ps : List (Int × Int)) (s : Sp), s.frame ≤ (endG l cap fuel s ps).frame
  | [], s => Int.le_refl _
  | p :: ps, s => by
    unfold endG
    by_cases ho : s.over = true
    · rw [if_pos ho]; exact Int.le_refl _
    · rw [if_neg ho]
      have := endG_frame l cap fuel ps (stepS l cap fuel s p.1 p.2)
      rw [stepS_frame] at this
      omega
theorem goS_gs {l : List Ii} {cap fuel : Int} (hc : chkG l cap fuel = 0) : ∀ (ps : List (Int × Int)) (s : Sp), InP ps → Gs cap s → ∀ t ∈ goS l cap fuel s ps, Gs cap t
  | [], s, _, h, t, ht => by cases ht
  | p :: ps, s, hp, h, t, ht => by
    unfold goS at ht
    by_cases ho : s.over = true
    · rw [if_pos ho] at ht; cases ht
    · rw [if_neg ho] at ht
      have ho' : s.over = false := by cases e : s.over with | false => rfl | true => exact absurd e ho
      have h2 := hp p (by simp)
      have h3 := stepS_facts h.wf h2.1 h2.2 (h.stepE hc ho')
      rcases List.mem_cons.1 ht with rfl | ht
      · exact h3
      · exact goS_gs hc ps _ (fun q hq => hp q (by simp [hq])) h3 t ht
/-- Each state on the way is one Step behind the one ahead of it, which was not over. -/
theorem goS_each (l : List Ii) (cap fuel : Int) : ∀ (ps : List (Int × Int)) (s : Sp) (i : Nat) (t : Sp), (s :: goS l cap fuel s ps)[i + 1]? = some t → ∃ u p, (s :: goS l cap fuel s ps)[i]? = some u ∧ ps[i]? = some p ∧ u.over = false ∧ t = stepS l cap fuel u p.1 p.2
  | [], s, i, t, h => by simp [goS] at h
  | p :: ps, s, i, t, h => by
    unfold goS at h ⊢
    by_cases ho : s.over = true
    · rw [if_pos ho] at h; simp at h
    · rw [if_neg ho] at h ⊢
      have ho' : s.over = false := by cases e : s.over with | false => rfl | true => exact absurd e ho
      cases i with
      | zero =>
        simp only [Nat.zero_add, List.getElem?_cons_succ, List.getElem?_cons_zero, Option.some.injEq] at h
        exact ⟨s, p, rfl, rfl, ho', h.symm⟩
      | succ i =>
        rw [List.getElem?_cons_succ] at h
        obtain ⟨u, q, h1, h2, h3, h4⟩ := goS_each l cap fuel ps _ i t h
        exact ⟨u, q, by rw [List.getElem?_cons_succ]; exact h1, by rw [List.getElem?_cons_succ]; exact h2, h3, h4⟩
end Go.Proofs.YtbfldcieibdapabGreat
end

section
/-
  A session in plain words: what is used of each frame, the state behind so many frames (stA), what Local and Remote answer and leave. No walk.
-/
namespace Go.Proofs.YtbfldcieibdapabGreat
/-- What is guessed or known below a place. -/
def gv (l : List In.Pl) : Nat → Int
  | 0 => 0
  | k + 1 => if (In.at0 l k).2 = true then (In.at0 l k).1 else gv l k
theorem down_gv (l : List In.Pl) (f : Int) : ∀ m : Nat, (In.getA f (In.down l m)).1 = gv l m
  | 0 => rfl
  | m + 1 => by
    unfold In.down gv
    split
    · rfl
    · exact down_gv l f m
theorem getP_gv {l : List In.Pl} {k : Nat} (h : k < l.length) : (In.getP l (k : Int)).1 = gv l (k + 1) := by
  unfold In.getP
  rw [if_neg (by omega), Int.toNat_natCast, Nat.min_eq_left (by omega)]
  exact down_gv l _ _
theorem at0_in {l : List In.Pl} (hv : ∀ x ∈ l, 0 ≤ x.1 ∧ x.1 < 65536) (k : Nat) : 0 ≤ (In.at0 l k).1 ∧ (In.at0 l k).1 < 65536 := by
  by_cases h : k < l.length
  · exact hv _ (List.mem_of_getElem? (In.at0_some h))
  · have : In.at0 l k = (0, false) := by simp [In.at0, List.getD, List.getElem?_eq_none (by omega : l.length ≤ k)]
    rw [this]; decide
theorem gv_in {l : List In.Pl} (hv : ∀ x ∈ l, 0 ≤ x.1 ∧ x.1 < 65536) : ∀ k, 0 ≤ gv l k ∧ gv l k < 65536
  | 0 => ⟨Int.le_refl _, by show (0 : Int) < 65536; decide⟩
  | k + 1 => by
    unfold gv
    split
    · exact at0_in hv k
    · exact gv_in hv k
theorem gv_known {l : List In.Pl} {k : Nat} (h : k < In.kn l) : gv l (k + 1) = (In.at0 l k).1 := by
  unfold gv
  rw [if_pos (In.kn_mark l k h)]
theorem gv_set_lt {l : List In.Pl} {f : Nat} (hf : f < l.length) (v : In.Pl) : ∀ m, m ≤ f → gv (l.set f v) m = gv l m
  | 0, _ => rfl
  | m + 1, hm => by
    unfold gv
    have e : In.at0 (l.set f v) m = In.at0 l m := by rw [In.at0_set hf, if_neg (by omega)]
    rw [e, gv_set_lt hf v m (by omega)]
theorem gv_set_at {l : List In.Pl} {f : Nat} (hf : f < l.length) (x : Int) : gv (l.set f (x, true)) (f + 1) = x := by
  unfold gv
  rw [In.at0_set hf, if_pos rfl, if_pos rfl]
theorem gv_set_same {l : List In.Pl} {f : Nat} (hf : f < l.length) {x : Int} (h0 : (In.at0 l f).2 = false) (hx : gv l (f + 1) = x) : ∀ m, gv (l.set f (x, true)) m = gv l m
  | 0 => rfl
  | m + 1 => by
    by_cases e : m = f
    · subst e
      rw [gv_set_at hf, hx]
    · unfold gv
      have e' : In.at0 (l.set f (x, true)) m = In.at0 l m := by rw [In.at0_set hf, if_neg e]
      rw [e', gv_set_same hf h0 hx m]
/-- A game. -/
structure Gm where
  l : List Ii
  cap : Int
  fuel : Int
  seed : Int
structure Gm.Ok (G : Gm) : Prop where
  c : chkG G.l G.cap G.fuel = 0
  s : 0 ≤ G.seed ∧ G.seed < 4294967296
/-- A session: whose it is, what is known of him and of the other one, the work. -/
structure Sa where
  me : Int
  m : List In.Pl
  h : List In.Pl
  st : Int
  wr : Int
def Sa.r0 (s : Sa) : List In.Pl := if s.me = 0 then s.m else s.h
def Sa.r1 (s : Sa) : List In.Pl := if s.me = 0 then s.h else s.m
def Sa.use (s : Sa) (k : Nat) : Int × Int := (gv s.r0 (k + 1), gv s.r1 (k + 1))
def Sa.usL (s : Sa) (n : Nat) : List (Int × Int) := (List.range n).map s.use
def Sa.P (s : Sa) : Nat := In.kn s.m
def Sa.B (s : Sa) : Nat := min (In.kn s.m) (In.kn s.h)
/-- The state behind so many frames. -/
def Sa.at (s : Sa) (G : Gm) (k : Nat) : Sp := endG G.l G.cap G.fuel (startS G.seed) (s.usL k)
def Sa.now (s : Sa) (G : Gm) : Sp := s.at G s.P
def Sa.sure (s : Sa) (G : Gm) : Sp := s.at G s.B
/-- What can be. -/
structure Sa.Fit (s : Sa) (G : Gm) : Prop where
  me : s.me = 0 ∨ s.me = 1
  ml : (s.m.length : Int) = G.cap
  hl : (s.h.length : Int) = G.cap
  mv : ∀ x ∈ s.m, 0 ≤ x.1 ∧ x.1 < 65536
  hv : ∀ x ∈ s.h, 0 ≤ x.1 ∧ x.1 < 65536
  gap : ∀ k, s.P ≤ k → (In.at0 s.m k).2 = false
section
variable {s : Sa} {G : Gm}
theorem Sa.Fit.r0v (h : s.Fit G) : ∀ x ∈ s.r0, 0 ≤ x.1 ∧ x.1 < 65536 := by unfold Sa.r0; split; exact h.mv; exact h.hv
theorem Sa.Fit.r1v (h : s.Fit G) : ∀ x ∈ s.r1, 0 ≤ x.1 ∧ x.1 < 65536 := by unfold Sa.r1; split; exact h.hv; exact h.mv
theorem Sa.Fit.r0l (h : s.Fit G) : (s.r0.length : Int) = G.cap := by unfold Sa.r0; split; exact h.ml; exact h.hl
theorem Sa.Fit.r1l (h : s.Fit G) : (s.r1.length : Int) = G.cap := by unfold Sa.r1; split; exact h.hl; exact h.ml
theorem Sa.Fit.use (h : s.Fit G) (k : Nat) : (0 ≤ (s.use k).1 ∧ (s.use k).1 < 65536) ∧ (0 ≤ (s.use k).2 ∧ (s.use k).2 < 65536) := ⟨gv_in h.r0v _, gv_in h.r1v _⟩
theorem Sa.Fit.usL (h : s.Fit G) (n : Nat) : InP (s.usL n) := fun p hp => by
  obtain ⟨k, _, rfl⟩ := List.mem_map.1 hp
  exact h.use k
theorem Sa.usL_succ (s : Sa) (n : Nat) : s.usL (n + 1) = s.usL n ++ [s.use n] := by simp [Sa.usL, List.range_succ]
theorem Sa.usL_len (s : Sa) (n : Nat) : (s.usL n).length = n := by simp [Sa.usL]
theorem Sa.usL_congr {s t : Sa} {n : Nat} (h : ∀ k, k < n → s.use k = t.use k) : s.usL n = t.usL n := by
  unfold Sa.usL
  exact List.map_congr_left fun k hk => h k (List.mem_range.1 hk)
theorem Sa.at_congr {s t : Sa} {n : Nat} (h : ∀ k, k < n → s.use k = t.use k) : s.at G n = t.at G n := by
  unfold Sa.at
  rw [Sa.usL_congr h]
theorem Sa.at_zero (s : Sa) (G : Gm) : s.at G 0 = startS G.seed := rfl
theorem Sa.at_succ (s : Sa) (G : Gm) (k : Nat) : s.at G (k + 1) = if (s.at G k).over = true then s.at G k else stepS G.l G.cap G.fuel (s.at G k) (s.use k).1 (s.use k).2 := by
  unfold Sa.at
  rw [Sa.usL_succ, endG_append]
  rfl
theorem Sa.at_over {s : Sa} {G : Gm} {k : Nat} (h : (s.at G k).over = true) : s.at G (k + 1) = s.at G k := by rw [Sa.at_succ, if_pos h]
theorem Sa.at_go {s : Sa} {G : Gm} {k : Nat} (h : (s.at G k).over = false) : s.at G (k + 1) = stepS G.l G.cap G.fuel (s.at G k) (s.use k).1 (s.use k).2 := by rw [Sa.at_succ, if_neg (by simp [h])]
theorem Sa.Fit.gs (h : s.Fit G) (hG : G.Ok) (k : Nat) : Gs G.cap (s.at G k) := endG_gs hG.c _ _ (h.usL k) (startS_gs _ _ hG.s (chkG_cap hG.c).2.1)
theorem Sa.at_stay {s : Sa} {G : Gm} {k : Nat} (h : (s.at G k).over = true) : ∀ j, k ≤ j → s.at G j = s.at G k := by
  intro j hj
  induction j with
  | zero => rw [show k = 0 by omega]
  | succ j ih =>
    by_cases e : k = j + 1
    · rw [e]
    · have := ih (by omega)
      rw [← this] at h
      rw [Sa.at_over h, this]
/-- The frame of a state on the way. -/
structure Way (s : Sa) (G : Gm) (k : Nat) : Prop where
  fr : ∃ n : Nat, n ≤ k ∧ (s.at G k).frame = (n : Int) ∧ (∀ j, j ≤ n → (s.at G j).frame = (j : Int)) ∧ (∀ j, j < n → (s.at G j).over = false) ∧ (∀ j, n ≤ j → j ≤ k → s.at G j = s.at G k)
  ov : (s.at G k).frame = (k : Int) ∨ (s.at G k).over = true
theorem way (s : Sa) (G : Gm) : ∀ k, Way s G k
  | 0 => ⟨⟨0, Nat.le_refl _, rfl, fun j hj => by rw [show j = 0 by omega]; rfl, fun j hj => by omega, fun j _ hj => by rw [show j = 0 by omega]⟩, Or.inl rfl⟩
  | k + 1 => by
    obtain ⟨⟨n, h1, h2, h3, h4, h5⟩, h6⟩ := way s G k
    cases ho : (s.at G k).over with
    | true =>
      have e := Sa.at_over ho
      refine ⟨⟨n, by omega, by rw [e]; exact h2, h3, h4, fun j hj hk => ?_⟩, Or.inr (by rw [e]; exact ho)⟩
      by_cases c : j = k + 1
      · rw [c]
      · rw [e]; exact h5 j hj (by omega)
    | false =>
      have hn : n = k := by
        rcases h6 with h6 | h6
        · rw [h2] at h6; omega
        · rw [ho] at h6; cases h6
      subst hn
      have e : (s.at G (n + 1)).frame = ((n + 1 : Nat) : Int) := by rw [Sa.at_go ho, stepS_frame, h2]; omega
      refine ⟨⟨n + 1, Nat.le_refl _, e, fun j hj => ?_, fun j hj => ?_, fun j hj hk => by rw [show j = n + 1 by omega]⟩, Or.inl e⟩
      · by_cases c : j = n + 1
        · rw [c]; exact e
        · exact h3 j (by omega)
      · by_cases c : j = n
        · rw [c]; exact ho
        · exact h4 j (by omega)
end
end Go.Proofs.YtbfldcieibdapabGreat
end

section
/-
  Rows of states in memory: one that reads as them (Rs), one of the call's own (So), append. No walk.
-/
namespace Go.Proofs.YtbfldcieibdapabGreat.Rn
open Go.RowKit
theorem Tryz.info44 : (Tryz.prog.info? 44).map (fun i => (i.zero, i.size, i.bytes)) = some (some (.agg zeroS.toArray), 20, 88) := by kernel_rfl
/-- A state that was handed in. -/
def Gs (s : Sp) : Prop := s.Wf ∧ -9223372036854775808 ≤ s.frame ∧ s.frame ≤ 9223372036854775807
/-- The slice at ao of n states reads as the states l. -/
structure Rs (w : World) (ao : Option Addr) (n cap : Nat) (l : List Sp) : Prop where
  len : l.length = n
  le : n ≤ cap
  mx : cap ≤ maxLen
  at' : ∀ i s, l[i]? = some s → ∃ g off, ao = some ⟨g, off, none⟩ ∧ ∀ j u, (stV s)[j]? = some u → w.cell? ⟨g, off + i * 20 + j, none⟩ = some u
theorem Rs.keep {w w' : World} {ao : Option Addr} {n cap : Nat} {l : List Sp} (h : Rs w ao n cap l) (hk : ∀ g off, ao = some ⟨g, off, none⟩ → g < w.heap.size → w'.heap[g]? = w.heap[g]?) : Rs w' ao n cap l := by
  refine ⟨h.len, h.le, h.mx, fun i s hs => ?_⟩
  obtain ⟨g, off, h1, h2⟩ := h.at' i s hs
  refine ⟨g, off, h1, fun j u hu => ?_⟩
  have h3 := h2 j u hu
  have hlt := World.block_lt_of_cell? w _ h3
  rw [World.cell?_of_block (w := w) (hk g off h1 hlt)]
  exact h3
theorem Rs.below {w w' : World} {ao : Option Addr} {n cap : Nat} {l : List Sp} {B : Nat} (h : Rs w ao n cap l) (hb : Below B w w') (hB : w.heap.size ≤ B) : Rs w' ao n cap l := h.keep fun g _ _ hg => hb.block g (by omega)
def cellsS (l : List Sp) : List Value := l.flatMap stV
/-- States whose cells are sixteen. -/
def Fit (l : List Sp) : Prop := ∀ s ∈ l, s.Wf
theorem Fit.nil : Fit [] := fun s hs => by cases hs
theorem Fit.snoc {l : List Sp} {s : Sp} (h : Fit l) (hs : s.Wf) : Fit (l ++ [s]) := fun t ht => by
  rcases List.mem_append.1 ht with h1 | h1
  · exact h t h1
  · rw [List.mem_singleton.1 h1]; exact hs
theorem cellsS_len : ∀ {l : List Sp}, Fit l → (cellsS l).length = l.length * 20
  | [], _ => rfl
  | s :: l, h => by
    have ih := cellsS_len (l := l) fun t ht => h t (by simp [ht])
    have h1 := (stV_c (h s (by simp))).len
    simp only [cellsS, List.flatMap_cons, List.length_append, List.length_cons] at ih ⊢
    omega
theorem cellsS_append (a b : List Sp) : cellsS (a ++ b) = cellsS a ++ cellsS b := by simp [cellsS]
theorem cellsS_one {l : List Sp} (h : Fit l) : ∀ u ∈ cellsS l, u.oneCell' = true := by
  intro u hu
  simp only [cellsS, List.mem_flatMap] at hu
  obtain ⟨s, hs, hu⟩ := hu
  exact (stV_c (h s hs)).one u hu
theorem cellsS_at : ∀ {l : List Sp}, Fit l → ∀ (i : Nat) (s : Sp), l[i]? = some s → ∀ (j : Nat) (u : Value), (stV s)[j]? = some u → (cellsS l)[i * 20 + j]? = some u
  | [], _, i, s, h, _, _, _ => by simp at h
  | t :: l, hf, 0, s, h, j, u, hu => by
    simp only [List.getElem?_cons_zero, Option.some.injEq] at h
    subst h
    have e : cellsS (t :: l) = stV t ++ cellsS l := by simp [cellsS]
    rw [e, Nat.zero_mul, Nat.zero_add, List.getElem?_append_left (List.getElem?_eq_some_iff.1 hu).1]
    exact hu
  | t :: l, hf, i + 1, s, h, j, u, hu => by
    have ih := cellsS_at (l := l) (fun t ht => hf t (by simp [ht])) i s (by simpa using h) j u hu
    have e : cellsS (t :: l) = stV t ++ cellsS l := by simp [cellsS]
    have h1 := (stV_c (hf t (by simp))).len
    rw [e, List.getElem?_append_right (by rw [h1]; omega), h1, show (i + 1) * 20 + j - 20 = i * 20 + j by omega]
    exact ih
/-- A row of states of the call's own, from block base on. -/
structure So (w : World) (base : Nat) (v : Value) (l : List Sp) : Prop where
  own : w.ownsRow base 44 20 v l.length (cellsS l)
  fit : Fit l
theorem So.form {w : World} {base : Nat} {v : Value} {l : List Sp} (h : So w base v l) : ∃ ao cap, v = .slice ao l.length cap := by
  rcases h.own.2 with ⟨rfl, h0⟩ | ⟨g, cap, cur, rfl, _⟩
  · exact ⟨none, 0, by rw [h0]⟩
  · exact ⟨_, cap, rfl⟩
theorem So.nil (w : World) (base : Nat) : So w base (.slice none 0 0) [] := ⟨World.ownsRow_nil _ _ _ _, Fit.nil⟩
theorem So.lt {w : World} {base : Nat} {v : Value} {l : List Sp} (h : So w base v l) : ∀ k, v.ownBlock = some k → base ≤ k ∧ k < w.heap.size := fun k hk => World.ownsRow.lt h.own k hk
theorem So.keep {w w' : World} {base : Nat} {v : Value} {l : List Sp} (h : So w base v l) (hk : ∀ k, v.ownBlock = some k → k < w.heap.size → w'.heap[k]? = w.heap[k]?) : So w' base v l := by
  refine ⟨⟨h.own.1, ?_⟩, h.fit⟩
  rcases h.own.2 with h2 | ⟨g, cap, cur, rfl, hb, hg, rest⟩
  · exact Or.inl h2
  · exact Or.inr ⟨g, cap, cur, rfl, hb, by rw [hk g rfl (Array.getElem?_eq_some_iff.1 hg).1]; exact hg, rest⟩
theorem So.below {w w' : World} {base : Nat} {v : Value} {l : List Sp} (h : So w base v l) (hb : Below w.heap.size w w') : So w' base v l := h.keep fun k _ hk => hb.block k hk
theorem So.only {w w' : World} {base g : Nat} {v : Value} {l : List Sp} (h : So w base v l) (hb : Only g w w') (hg : v.ownBlock ≠ some g) : So w' base v l := h.keep fun k hk _ => hb.block k fun e => hg (by rw [hk, e])
theorem So.mono {w : World} {base b' : Nat} {v : Value} {l : List Sp} (h : So w base v l) (hb : b' ≤ base) : So w b' v l := by
  refine ⟨⟨h.own.1, ?_⟩, h.fit⟩
  rcases h.own.2 with h2 | ⟨g, cap, cur, rfl, hg, rest⟩
  · exact Or.inl h2
  · exact Or.inr ⟨g, cap, cur, rfl, Nat.le_trans hb hg, rest⟩
/-- Where the state at a place stands. -/
theorem So.at {w : World} {base n cap : Nat} {ao : Option Addr} {l : List Sp} (h : So w base (.slice ao n cap) l) (i : Nat) (s : Sp) (hi : l[i]? = some s) : ∃ g, ao = some ⟨g, 0, none⟩ ∧ base ≤ g ∧ g < w.heap.size ∧ w.rangeAt g (i * 20) (stV s) := by
  rcases h.own.2 with ⟨h2, h0⟩ | ⟨g, cp, cur, hv, hb, hg, rest⟩
  · rw [List.eq_nil_of_length_eq_zero h0] at hi
    simp at hi
  · simp only [Value.slice.injEq] at hv
    obtain ⟨rfl, rfl, rfl⟩ := hv
    refine ⟨g, rfl, hb, (Array.getElem?_eq_some_iff.1 hg).1, fun j u hu => ?_⟩
    have := World.ownsRow.cells h.own (g := g) rfl _ _ (cellsS_at h.fit i s hi j u hu)
    simpa [Addr.add_lit] using this

theorem run_append_st (w : World) (base : Nat) (ty : TypeId) (v : Value) (xs : List Sp) (hown : So w base v xs) (g c : Nat) (s : Sp) (hs : s.Wf) (hb : Cw w g (stV s) 44) (h63 : xs.length + 1 ≤ 1000000) (hbase : base ≤ w.heap.size) :
    ∃ ao cap w', (Builtin.append_ #[74, 74] ty #[v, .slice (some ⟨g, 0, none⟩) 1 c]).run Tryz.prog w = .ok (.slice ao (xs.length + 1) cap) w' ∧ So w' base (.slice ao (xs.length + 1) cap) (xs ++ [s]) ∧ w.grownBy w' v.ownBlock ∧
      ((Value.slice ao (xs.length + 1) cap).ownBlock = v.ownBlock ∨ (Value.slice ao (xs.length + 1) cap).ownBlock = some w.heap.size) := by
  obtain ⟨i0, hi, hz0, hz1, hz2⟩ := info_parts Tryz.info44
  have hlen : (stV s).length = 1 * 20 := by rw [(stV_c hs).len]
  obtain ⟨v', w', hr, h2, h3, _, h5⟩ := run_append_own_at (P := Tryz.prog) w base 74 ty 44 i0 (.agg zeroS.toArray) 20 88 Tryz.underlying74 hi hz0 hz1 hz2 rfl (by decide) v xs.length (cellsS xs) hown.own ⟨g, 0, none⟩ 1 c (stV s) hlen (fun j u hu => by rw [Addr.add_lit, Nat.zero_add, hb.cell]; exact hu) (stV_c hs).one (by unfold maxLen; omega) (by omega) hbase
  have h2' : So w' base v' (xs ++ [s]) := by
    refine ⟨?_, hown.fit.snoc hs⟩
    rw [cellsS_append, List.length_append, show cellsS [s] = stV s by simp [cellsS]]
    exact h2
  obtain ⟨ao, cap, rfl⟩ := h2'.form
  rw [List.length_append] at hr h2' h5
  exact ⟨ao, cap, w', hr, h2', h3, h5⟩
theorem wpList_append_st (w : World) {ops : Array Oper} {rest : List Oper} {o : Oper} {a : Act} {Q : Exit → Act → World → Prop} (hgd : o.guard = none) (x y : Operand)
    (ho : o.op = .call { callee := .builtin .append, args := #[x, y], argTypes := #[74, 74] })
    (base : Nat) (v : Value) (xs : List Sp) (hx : a.eval x = v) (hown : So w base v xs) (g c : Nat) (s : Sp) (hs : s.Wf) (hy : a.eval y = .slice (some ⟨g, 0, none⟩) 1 c) (hb : Cw w g (stV s) 44)
    (h63 : xs.length + 1 ≤ 1000000) (hbase : base ≤ w.heap.size)
    (h : ∀ ao cap w', So w' base (.slice ao (xs.length + 1) cap) (xs ++ [s]) → w.grownBy w' v.ownBlock →
      ((Value.slice ao (xs.length + 1) cap).ownBlock = v.ownBlock ∨ (Value.slice ao (xs.length + 1) cap).ownBlock = some w.heap.size) →
      wpList Tryz.prog ops Q rest (a.put o.dst (.slice ao (xs.length + 1) cap)) w') : wpList Tryz.prog ops Q (o :: rest) a w := by
  obtain ⟨ao, cap, w', hr, h2, h3, h4⟩ := run_append_st w base o.type v xs hown g c s hs hb h63 hbase
  refine wpList_plain hgd fun _ hK => ?_
  unfold Oper.wp execOp
  simp only [ho, resolve, invoke, builtin, Sem.run_bind, Sem.run_pure, Result.andThen_ok, List.map_toArray, List.map_cons, List.map_nil, hx, hy, hr]
  exact hK _ _ (h ao cap w' h2 h3 h4)
/-- A slice of one state. -/
theorem run_one_st (w : World) {s : Sp} (hs : s.Wf) : (Instr.buildSlice 74 1 #[(0, .agg (stV s).toArray)]).run Tryz.prog w = .ok (.slice (some ⟨w.heap.size, 0, none⟩) 1 1) (w.alloc (.cells (stV s).toArray 44)) := by
  obtain ⟨fr, cells, seed, over, win⟩ := s
  obtain ⟨c0, c1, c2, c3, c4, c5, c6, c7, c8, c9, c10, c11, c12, c13, c14, c15, e⟩ := sixteen hs.cells
  simp only at e
  subst e
  obtain ⟨i0, hi, hz0, hz1, hz2⟩ := info_parts Tryz.info44
  refine run_buildSlice w 74 44 1 _ _ i0 (.agg zeroS.toArray) Tryz.underlying74 hi hz0 (by rw [hz1]; decide) (by rw [hz1]; decide) ?_
  rw [hz1]
  kernel_rfl
theorem wpList_one_st {w : World} {ops : Array Oper} {rest : List Oper} {o : Oper} {a : Act} {Q : Exit → Act → World → Prop} (hgd : o.guard = none) (x : Operand) (ho : o.op = .buildSlice 74 1 #[(0, x)]) (cs : List Value) (hrun : Hid (∀ W : World, (Instr.buildSlice 74 1 #[(0, .agg cs.toArray)]).run Tryz.prog W = .ok (.slice (some ⟨W.heap.size, 0, none⟩) 1 1) (W.alloc (.cells cs.toArray 44)))) (hx : a.eval x = .agg cs.toArray)
    (h : ∀ W, Cw W w.heap.size cs 44 → Below w.heap.size w W → Hid (W.heap.size = w.heap.size + 1) → wpList Tryz.prog ops Q rest (a.put o.dst (.slice (some ⟨w.heap.size, 0, none⟩) 1 1)) W) : wpList Tryz.prog ops Q (o :: rest) a w := by
  refine wpList_plain hgd fun _ hK => ?_
  unfold Oper.wp execOp
  simp only [ho, Sem.run_bind, List.map_toArray, List.map_cons, List.map_nil, hx, hrun.out w, Result.andThen_ok]
  exact hK _ _ (h _ (Cw.new w cs 44) ((Below.refl _ _).alloc (Nat.le_refl _) _) (World.size_alloc _ _))
end Go.Proofs.YtbfldcieibdapabGreat.Rn
end

section
/-
  A ring in plain words: the states L from frame a on, at most n of them. No walk.
-/
namespace Go.Proofs.YtbfldcieibdapabGreat.Rn
structure Rk (n a : Nat) (L : List Sp) : Prop where
  fit : Fit L
  is : ∀ s ∈ L, isS s = true
  run : ∀ i s, L[i]? = some s → s.frame = ((a + i : Nat) : Int)
  len : L.length ≤ n
  zero : L = [] → a = 0
theorem isS_frame {s : Sp} (h : isS s = true) : 0 ≤ s.frame ∧ s.frame ≤ 600 := by
  simp only [isS, decide_eq_true_eq] at h
  omega
theorem Rk.top {n a : Nat} {L : List Sp} (h : Rk n a L) : a + L.length ≤ 601 := by
  by_cases e : L = []
  · rw [h.zero e, e]; simp
  · have hl : 0 < L.length := List.length_pos_iff.2 e
    have h1 : L[L.length - 1]? = some L[L.length - 1] := List.getElem?_eq_getElem (by omega)
    have h2 := h.run _ _ h1
    have h3 := isS_frame (h.is _ (List.mem_of_getElem? h1))
    omega
theorem Rk.nil (n : Nat) : Rk n 0 [] := ⟨Fit.nil, fun s hs => (by cases hs), fun i s hs => (by simp at hs), Nat.zero_le _, fun _ => rfl⟩
def putE (a : Nat) (L : List Sp) (s : Sp) : Int := if isS s = false ∨ (L ≠ [] ∧ (((a + L.length : Nat) : Int) < s.frame ∨ s.frame < (a : Int))) then 1 else 0
def a0 (a : Nat) (L : List Sp) (s : Sp) : Nat := if L = [] then s.frame.toNat else a
def putX (a : Nat) (L : List Sp) (s : Sp) : List Sp := L.take (s.frame.toNat - a0 a L s) ++ [s]
def putL (n a : Nat) (L : List Sp) (s : Sp) : List Sp := if putE a L s = 0 then (if n < (putX a L s).length then (putX a L s).drop 1 else putX a L s) else L
def putA (n a : Nat) (L : List Sp) (s : Sp) : Nat := if putE a L s = 0 then (if n < (putX a L s).length then a0 a L s + 1 else a0 a L s) else a
/-- The places of a ring hold its states. -/
structure Pl (n a : Nat) (L ps : List Sp) : Prop where
  len : ps.length = n
  fit : Fit ps
  at' : ∀ i s, L[i]? = some s → ps[(a + i) % n]? = some s
theorem Pl.nil (n : Nat) : Pl n 0 [] (List.replicate n noS) := ⟨by simp, fun s hs => (by rw [List.eq_of_mem_replicate hs]; exact noS_wf), fun i s hs => (by simp at hs)⟩
theorem putE_ok {a : Nat} {L : List Sp} {s : Sp} (h : putE a L s = 0) : isS s = true ∧ (L ≠ [] → s.frame ≤ ((a + L.length : Nat) : Int) ∧ (a : Int) ≤ s.frame) := by
  unfold putE at h
  by_cases c : isS s = false ∨ (L ≠ [] ∧ (((a + L.length : Nat) : Int) < s.frame ∨ s.frame < (a : Int)))
  · rw [if_pos c] at h; cases h
  · refine ⟨?_, fun hl => ?_⟩
    · cases e : isS s
      · exact absurd (Or.inl e) c
      · rfl
    · constructor
      · exact Int.not_lt.1 fun e => c (Or.inr ⟨hl, Or.inl e⟩)
      · exact Int.not_lt.1 fun e => c (Or.inr ⟨hl, Or.inr e⟩)
theorem putE_cases (a : Nat) (L : List Sp) (s : Sp) : putE a L s = 0 ∨ putE a L s = 1 := by
  unfold putE; split
  · exact Or.inr rfl
  · exact Or.inl rfl
/-- What the list is ahead of what is forgotten. -/
structure PutF (a : Nat) (L : List Sp) (s : Sp) (f k : Nat) : Prop where
  ff : s.frame = (f : Int)
  fk : f = a0 a L s + k
  kk : k ≤ L.length
  f6 : f ≤ 600
  xx : putX a L s = L.take k ++ [s]
  nil : L = [] → k = 0
theorem putF {a : Nat} {L : List Sp} {s : Sp} (he : putE a L s = 0) : ∃ f k, PutF a L s f k := by
  obtain ⟨h1, h2⟩ := putE_ok he
  have hf := isS_frame h1
  refine ⟨s.frame.toNat, s.frame.toNat - a0 a L s, by omega, ?_, ?_, by omega, rfl, ?_⟩
  · unfold a0
    split
    · omega
    · rename_i hl
      have := h2 hl
      omega
  · unfold a0
    split
    · omega
    · rename_i hl
      have := h2 hl
      omega
  · intro hl
    unfold a0
    rw [if_pos hl]
    omega
theorem putX_len {a : Nat} {L : List Sp} {s : Sp} {f k : Nat} (h : PutF a L s f k) : (putX a L s).length = k + 1 := by
  rw [h.xx]
  simp [h.kk]
theorem putX_at {a : Nat} {L : List Sp} {s : Sp} {f k : Nat} (h : PutF a L s f k) (i : Nat) (t : Sp) (hi : (putX a L s)[i]? = some t) : (i < k ∧ L[i]? = some t) ∨ (i = k ∧ t = s) := by
  rw [h.xx] at hi
  have hk : (L.take k).length = k := by simp [h.kk]
  by_cases c : i < k
  · rw [List.getElem?_append_left (by omega), List.getElem?_take_of_lt c] at hi
    exact Or.inl ⟨c, hi⟩
  · rw [List.getElem?_append_right (by omega), hk] at hi
    have : i - k = 0 := by
      have := (List.getElem?_eq_some_iff.1 hi).1
      simp at this
      omega
    rw [this] at hi
    simp at hi
    exact Or.inr ⟨by omega, hi.symm⟩
theorem Rk.put {n a : Nat} {L : List Sp} {s : Sp} (h : Rk n a L) (hn : 1 ≤ n) (hs : Gs s) : Rk n (putA n a L s) (putL n a L s) := by
  unfold putL putA
  by_cases he : putE a L s = 0
  · rw [if_pos he, if_pos he]
    obtain ⟨f, k, hF⟩ := putF he
    have hlx := putX_len hF
    obtain ⟨h1, h2⟩ := putE_ok he
    have ha : L ≠ [] → a0 a L s = a := fun hl => by unfold a0; rw [if_neg hl]
    have key : ∀ i t, (putX a L s)[i]? = some t → t.Wf ∧ isS t = true ∧ t.frame = ((a0 a L s + i : Nat) : Int) := by
      intro i t hi
      rcases putX_at hF i t hi with ⟨hk, hl⟩ | ⟨rfl, rfl⟩
      · have hm := List.mem_of_getElem? hl
        have hne : L ≠ [] := fun e => by rw [e] at hm; cases hm
        exact ⟨h.fit t hm, h.is t hm, by rw [ha hne]; exact h.run i t hl⟩
      · exact ⟨hs.1, h1, by rw [hF.ff, hF.fk]⟩
    by_cases hc : n < (putX a L s).length
    · rw [if_pos hc, if_pos hc]
      have hd : ∀ i t, ((putX a L s).drop 1)[i]? = some t → (putX a L s)[1 + i]? = some t := fun i t hi => by rw [List.getElem?_drop] at hi; exact hi
      refine ⟨fun t ht => ?_, fun t ht => ?_, fun i t hi => ?_, ?_, fun e => ?_⟩
      · obtain ⟨i, hi⟩ := List.getElem?_of_mem ht; exact (key _ _ (hd i t hi)).1
      · obtain ⟨i, hi⟩ := List.getElem?_of_mem ht; exact (key _ _ (hd i t hi)).2.1
      · have := (key _ _ (hd i t hi)).2.2; rw [this]; congr 1; omega
      · have h3 := h.len
        have h4 := hF.kk
        rw [List.length_drop]; omega
      · have := congrArg List.length e
        rw [List.length_drop] at this
        simp at this
        omega
    · rw [if_neg hc, if_neg hc]
      refine ⟨fun t ht => ?_, fun t ht => ?_, fun i t hi => (key i t hi).2.2, by omega, fun e => ?_⟩
      · obtain ⟨i, hi⟩ := List.getElem?_of_mem ht; exact (key _ _ hi).1
      · obtain ⟨i, hi⟩ := List.getElem?_of_mem ht; exact (key _ _ hi).2.1
      · have := congrArg List.length e
        rw [hlx] at this
        simp at this
  · rw [if_neg he, if_neg he]
    exact h
/-- Where the places are behind a Put, and what is counted. -/
theorem Pl.put {n a : Nat} {L ps : List Sp} {s : Sp} (h : Pl n a L ps) (hk : Rk n a L) (hn : 1 ≤ n) (hs : Gs s) (he : putE a L s = 0) {f : Nat} (hf : s.frame = (f : Int)) : Pl n (putA n a L s) (putL n a L s) (ps.set (f % n) s) ∧ putA n a L s + (putL n a L s).length = f + 1 ∧ (putA n a L s : Int) = max (a0 a L s : Int) ((f : Int) + 1 - (n : Int)) := by
  obtain ⟨f', k, hF⟩ := putF he
  have hff : f' = f := by have := hF.ff; omega
  subst hff
  have hlx := putX_len hF
  have hkn := hk.len
  have hkl := hF.kk
  have hfk := hF.fk
  have ha : L ≠ [] → a0 a L s = a := fun hl => by unfold a0; rw [if_neg hl]
  have hfit : Fit (ps.set (f' % n) s) := fun t ht => by
    rcases List.mem_or_eq_of_mem_set ht with h1 | rfl
    · exact h.fit t h1
    · exact hs.1
  have hfn : f' % n < ps.length := by rw [h.len]; exact Nat.mod_lt _ hn
  have key : ∀ i t, (putX a L s)[i]? = some t → k - i < n → (ps.set (f' % n) s)[(a0 a L s + i) % n]? = some t := by
    intro i t hi hd
    rcases putX_at hF i t hi with ⟨hik, hl⟩ | ⟨rfl, rfl⟩
    · have hne : L ≠ [] := fun e => by rw [e] at hl; simp at hl
      rw [ha hne] at hfk ⊢
      have hdiff : (a + i) % n ≠ f' % n := by
        intro e
        rw [hfk] at e
        have h1 : (a + k) % n = ((a + i) + (k - i)) % n := by congr 1; omega
        rw [h1] at e
        have h2 := Nat.sub_mod_eq_zero_of_mod_eq e.symm
        rw [Nat.add_sub_cancel_left, Nat.mod_eq_of_lt hd] at h2
        omega
      rw [List.getElem?_set_ne (Ne.symm hdiff)]
      exact h.at' i t hl
    · rw [← hfk, List.getElem?_set_self hfn]
  unfold putL putA
  rw [if_pos he, if_pos he, hlx]
  by_cases hc : n < k + 1
  · rw [if_pos hc, if_pos hc]
    have hkn' : k = n := by omega
    refine ⟨⟨by rw [List.length_set, h.len], hfit, fun i t hi => ?_⟩, ?_, ?_⟩
    · rw [List.getElem?_drop] at hi
      rw [show a0 a L s + 1 + i = a0 a L s + (1 + i) by omega]
      exact key (1 + i) t hi (by omega)
    · rw [List.length_drop, hlx]; omega
    · omega
  · rw [if_neg hc, if_neg hc]
    refine ⟨⟨by rw [List.length_set, h.len], hfit, fun i t hi => key i t hi (by omega)⟩, ?_, ?_⟩
    · rw [hlx]; omega
    · omega
/-- What Get answers. -/
def gtB (a : Nat) (L : List Sp) (f : Int) : Bool := decide ((a : Int) ≤ f ∧ f < ((a + L.length : Nat) : Int))
def gtS (a : Nat) (L : List Sp) (f : Int) : Sp := if gtB a L f = true then L.getD (f.toNat - a) noS else noS
theorem gt_yes {a : Nat} {L : List Sp} {f : Int} (h : gtB a L f = true) : ∃ i s, L[i]? = some s ∧ f = ((a + i : Nat) : Int) ∧ gtS a L f = s := by
  have hb := h
  simp only [gtB, decide_eq_true_eq] at hb
  refine ⟨f.toNat - a, _, List.getElem?_eq_getElem (by omega), by omega, ?_⟩
  unfold gtS
  rw [if_pos h, List.getD, List.getElem?_eq_getElem (by omega)]
  rfl
theorem gt_no {a : Nat} {L : List Sp} {f : Int} (h : gtB a L f = false) : gtS a L f = noS := by unfold gtS; rw [h]; rfl
theorem gt_wf {n a : Nat} {L : List Sp} (hk : Rk n a L) (f : Int) : (gtS a L f).Wf := by
  cases h : gtB a L f with
  | false => rw [gt_no h]; exact noS_wf
  | true =>
    obtain ⟨i, s, h1, _, h3⟩ := gt_yes h
    rw [h3]
    exact hk.fit s (List.mem_of_getElem? h1)
/-- The least and the greatest frame. -/
def lstF (a : Nat) (L : List Sp) : Int := if L = [] then -1 else a
def gstF (a : Nat) (L : List Sp) : Int := if L = [] then -1 else ((a + L.length : Nat) : Int) - 1
end Go.Proofs.YtbfldcieibdapabGreat.Rn
end
