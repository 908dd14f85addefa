/-
  Joined from: VmS, StepWf.
-/
import Derived.Test.YtbfldcieibdapabGreatM06
import Derived.Laws.Tables
section
/-
  Start and Step, by contracts.
-/
namespace Go.Proofs.YtbfldcieibdapabGreat
open Go.RowKit
variable {w w' : World} {g : Nat}
section
variable {ops : Array Oper} {rest : List Oper} {o : Oper} {a : Act} {w : World} {Q : Exit → Act → World → Prop}
theorem wpList_build_row (hg : o.guard = none) (t : TypeId) (parts : Array (Nat × Operand)) (ho : o.op = .build t parts) (cs : List Value) (ps : List (Nat × Value)) (hp : parts.toList.map (fun (i, x) => (i, a.eval x)) = ps)
    (hb : Tryz.prog.built t ps = some cs.toArray)
    (h : wpList Tryz.prog ops Q rest (a.put o.dst (.agg cs.toArray)) w) : wpList Tryz.prog ops Q (o :: rest) a w :=
  wpList_build hg t parts ho (by rw [Array.toList_map, hp, hb]; rfl) (by rw [Array.toList_map, hp, hb]; exact h)
end
/-- Sixteen cells, one by one. -/
theorem sixteen {l : List Int} (h : l.length = 16) : ∃ c0 c1 c2 c3 c4 c5 c6 c7 c8 c9 c10 c11 c12 c13 c14 c15, l = [c0, c1, c2, c3, c4, c5, c6, c7, c8, c9, c10, c11, c12, c13, c14, c15] := by
  match l, h with
  | [c0, c1, c2, c3, c4, c5, c6, c7, c8, c9, c10, c11, c12, c13, c14, c15], _ => exact ⟨c0, c1, c2, c3, c4, c5, c6, c7, c8, c9, c10, c11, c12, c13, c14, c15, rfl⟩
def zero32 : List Int := [0, 0, 0, 0, 0, 0, 0, 0, 0, 0, 0, 0, 0, 0, 0, 0, 0, 0, 0, 0, 0, 0, 0, 0, 0, 0, 0, 0, 0, 0, 0, 0]
/-- The machine ahead of its first instruction. -/
def pm0 (s : Sp) : Pm := ⟨s.cells, s.seed, s.over, s.win, zero32, 0, 0, 0⟩
theorem built59 {s : Sp} (h : s.Wf) (ao : Option Addr) (n cap : Nat) (i0 i1 : Int) :
    Tryz.prog.built 114 [(0, .slice ao n cap), (1, .agg #[.int .u16 i0, .int .u16 i1]), (2, .agg (stV s).toArray)] = some (rowM (.slice ao n cap) i0 i1 s.frame (pm0 s)).toArray := by
  obtain ⟨fr, cells, seed, over, win⟩ := s
  obtain ⟨c0, c1, c2, c3, c4, c5, c6, c7, c8, c9, c10, c11, c12, c13, c14, c15, e⟩ := sixteen h.cells
  simp only at e
  subst e
  kernel_rfl
theorem built28 (seed : Int) : Tryz.prog.built 44 [(2, .int .u32 seed)] = some (stV ⟨0, zeros, seed, false, 0⟩).toArray := by kernel_rfl
theorem built28z : Tryz.prog.built 44 [] = some zeroS.toArray := by kernel_rfl
theorem zeroM : (Tryz.prog.info? 114).bind (·.zero) = some (.agg (rowM (.slice none 0 0) 0 0 0 (pm0 noS)).toArray) := by kernel_rfl
theorem Tryz.size114 : (Tryz.prog.info? 114).map (·.size) = some 58 := by kernel_rfl
/-- A row and a number, as what is answered. -/
theorem ret_row2 {f : Func} {a : Act} {g : Nat} {cs : List Value} {t : TypeId} {w : World} {post : Ending → World → Prop} {r u : Tmp} {ty : TypeId} {d : TypeDesc} (hf : f.results = #[.cell r ty, .tmp u]) (hr : a.tmps.getD r undef = .pointer (some ⟨g, 0, none⟩)) (hdf : a.defers = [])
    (hc : Cw w g cs t) (hu : Tryz.prog.underlying ty = some d) (hd : d.isRow = true) (hi : Hid ((Tryz.prog.info? ty).map (·.size) = some cs.length)) (h : post (.returned (.tuple #[.agg cs.toArray, a.tmps.getD u undef])) w) : bodyPost Tryz.prog f post .ret a w := by
  refine bodyPost_ret ?_ hdf h
  rw [results_cell_tmp hf, hr]
  have e1 := run_loadVar_row w g t ty cs.toArray (0, 0) d hc hu (by cases d <;> first | rfl | cases hd) (by rw [List.size_toArray]; exact hi.out)
  simp only [asAddr, Sem.run_pure, Result.andThen_ok, e1]
def startS (seed : Int) : Sp := ⟨0, zeros, if seed = 0 then 1 else seed, false, 0⟩
set_option maxRecDepth 20000 in
set_option maxHeartbeats 1000000 in
theorem Start_any (seed : Int) (w : World) : Calls Tryz.prog 22 #[.int .u32 seed] w fun e w' => e = .returned (.agg (stV (startS seed)).toArray) ∧ Below w.heap.size w w' := by
  obtain ⟨os, hos⟩ : ∃ os, os = zeroS := ⟨_, rfl⟩
  have HZ : Hid ((Tryz.prog.info? 44).bind (·.zero) = some (.agg os.toArray)) := by rw [hos]; exact Tryz.zero44
  have hol : os.length = 20 := by rw [hos]; rfl
  have HSo : Hid ((Tryz.prog.info? 44).map (·.size) = some os.length) := by rw [hol]; exact Tryz.size44
  obtain ⟨ds, hds⟩ : ∃ ds, ds = stV (startS seed) := ⟨_, rfl⟩
  have hdl : ds.length = 20 := by rw [hds]; rfl
  have HSd : Hid ((Tryz.prog.info? 44).map (·.size) = some ds.length) := by rw [hdl]; exact Tryz.size44
  have HSl : Hid (os.length = ds.length) := by rw [hol, hdl]; exact hid_into rfl
  have HDo : Hid (∀ v ∈ ds, v.oneCell' = true) := by rw [hds]; exact hid_into (by intro v hv; simp only [stV, startS, zeros, List.map_cons, List.map_nil, List.cons_append, List.nil_append, List.mem_cons, List.not_mem_nil, or_false] at hv; rcases hv with rfl | rfl | rfl | rfl | rfl | rfl | rfl | rfl | rfl | rfl | rfl | rfl | rfl | rfl | rfl | rfl | rfl | rfl | rfl | rfl <;> rfl)
  rw [← hds]
  by_cases h0 : seed = 0
  · subst h0
    have HB : Hid (Tryz.prog.built 44 [(2, .int .u32 1)] = some ds.toArray) := by rw [hds]; exact built28 1
    clear hds hos hol hdl
    go_enter Tryz.func22, Tryz.ntmps22
    go_wp2_with (first
      | (refine wpList_alloc_row rfl 44 rfl os HZ.out ?_; intro W2 hr2 B2 HS2)
      | (refine wpList_build_row rfl 44 #[(2, .tmp 5)] rfl ds [(2, .int .u32 1)] rfl HB.out ?_)
      | (refine wpList_store_rw rfl 44 (.tmp 2) (.tmp 6) rfl w.heap.size os ds 44 rfl rfl hr2 HSo HSl HDo.out ?_; intro W4 hr4 O4))
    exact ret_row rfl rfl rfl hr4 Tryz.underlying44 rfl HSd ⟨rfl, B2.trans (O4.below (Nat.le_refl _))⟩
  · have HB : Hid (Tryz.prog.built 44 [(2, .int .u32 seed)] = some ds.toArray) := by rw [hds, startS, if_neg h0]; exact built28 seed
    have hb : (seed == 0) = false := by simp [h0]
    clear hds hos hol hdl
    go_enter Tryz.func22, Tryz.ntmps22
    go_wp2_with (first
      | (refine wpList_alloc_row rfl 44 rfl os HZ.out ?_; intro W2 hr2 B2 HS2)
      | (refine wpList_build_row rfl 44 #[(2, .tmp 5)] rfl ds [(2, .int .u32 seed)] rfl HB.out ?_)
      | (refine wpList_store_rw rfl 44 (.tmp 2) (.tmp 6) rfl w.heap.size os ds 44 rfl rfl hr2 HSo HSl HDo.out ?_; intro W4 hr4 O4))
    exact ret_row rfl rfl rfl hr4 Tryz.underlying44 rfl HSd ⟨rfl, B2.trans (O4.below (Nat.le_refl _))⟩
/-- The variables of Step: the game, the state, what the players do, the answer. -/
structure St4 (w W : World) (b : Nat) (cv : Value) (cap fuel : Int) (cs : List Value) (i0 i1 : Int) (os : List Value) : Prop where
  g : Cw W w.heap.size [cv, .int .i64 cap, .int .i64 fuel] 24
  s : Cw W (w.heap.size + 1) cs 44
  i : Cw W b [.int .u16 i0, .int .u16 i1] 41
  r : Cw W (b + 1) os 44
  below : Below w.heap.size w W
  hb : w.heap.size + 2 = b
theorem St4.next {w W W' : World} {b : Nat} {cv : Value} {cap fuel i0 i1 : Int} {cs os : List Value} (h : St4 w W b cv cap fuel cs i0 i1 os) (hb : Below W.heap.size W W') : St4 w W' b cv cap fuel cs i0 i1 os :=
  ⟨h.g.below hb h.g.lt, h.s.below hb h.s.lt, h.i.below hb h.i.lt, h.r.below hb h.r.lt, h.below.trans (hb.mono h.below.size), h.hb⟩
theorem St4.gg {w W W' : World} {b M : Nat} {cv : Value} {cap fuel i0 i1 : Int} {cs os : List Value} (h : St4 w W b cv cap fuel cs i0 i1 os) (hb : Gg M W W') (hM : b + 1 < M) : St4 w W' b cv cap fuel cs i0 i1 os :=
  ⟨h.g.gg hb (by have := h.hb; omega), h.s.gg hb (by have := h.hb; omega), h.i.gg hb (by omega), h.r.gg hb (by omega), h.below.trans (Grows.below hb h.below.size (fun k hk => by have := h.hb; omega)), h.hb⟩
theorem St4.set {w W W' : World} {b : Nat} {cv : Value} {cap fuel i0 i1 : Int} {cs ds os : List Value} (h : St4 w W b cv cap fuel cs i0 i1 os) (hO : Only (w.heap.size + 1) W W') (hc : Cw W' (w.heap.size + 1) ds 44) : St4 w W' b cv cap fuel ds i0 i1 os :=
  ⟨hO.cw h.g (by omega), hc, hO.cw h.i (by have := h.hb; omega), hO.cw h.r (by have := h.hb; omega), h.below.trans (hO.below (by omega)), h.hb⟩
theorem ranS_frame (s : Sp) (R : Option Mp) : (ranS s R).frame = s.frame := by
  unfold ranS
  split
  · rfl
  · split <;> rfl
theorem ranS_rep {s : Sp} {p : Pm} {m : Mp} (hr : Rep p m) (ho : s.over = false) (hw : s.win = 0) : (⟨s.frame, p.cells, p.seed, p.over, p.win⟩ : Sp) = ranS s (some m) := by
  rw [hr.cells, hr.seed, hr.over, hr.win]
  obtain ⟨c, sd, st, pc, won⟩ := m
  cases won with
  | none => simp [ranS, ho, hw]
  | some a => simp [ranS]
/-- The machine's state, as it lies in it. -/
theorem rowM_state {cv : Value} {i0 i1 fr : Int} {p : Pm} : rowM cv i0 i1 fr p = [cv, .int .u16 i0, .int .u16 i1] ++ (stV ⟨fr, p.cells, p.seed, p.over, p.win⟩ ++ (p.stk.map (Value.int .i32) ++ [.int .i64 (p.high : Int), .int .i64 p.pc, .int .i64 p.err])) := by
  simp [rowM, stV]
theorem Mw.state {cv : Value} {i0 i1 fr : Int} {p : Pm} (h : Mw w g cv i0 i1 fr p) : w.rangeAt g 3 (stV ⟨fr, p.cells, p.seed, p.over, p.win⟩) := by
  intro j u hu
  rw [h.row.cell, rowM_state, List.getElem?_append_right (by simp)]
  simp only [List.length_cons, List.length_nil, Nat.zero_add, Nat.reduceAdd, Nat.add_sub_cancel_left]
  rw [List.getElem?_append_left (List.getElem?_eq_some_iff.1 hu).1]
  exact hu
theorem pm0_wf {s : Sp} (h : s.Wf) : (pm0 s).Wf := ⟨h.cells, h.cin, rfl, by intro x hx; simp only [pm0, zero32, List.mem_cons, List.not_mem_nil, or_false, or_self] at hx; subst hx; exact zero_in, by show 0 ≤ 32; omega, h.seed⟩
theorem pm0_rep {s : Sp} (ho : s.over = false) (hw : s.win = 0) : Rep (pm0 s) (startM s) := ⟨rfl, rfl, ho, hw, rfl, rfl, rfl⟩
theorem St4.make {w W1 W2 : World} {cv : Value} {cap fuel i0 i1 : Int} {cs os : List Value} (hc1 : Cw W1 (w.alloc (.cells #[cv, .int .i64 cap, .int .i64 fuel] 24)).heap.size cs 44)
    (B1 : Below (w.alloc (.cells #[cv, .int .i64 cap, .int .i64 fuel] 24)).heap.size (w.alloc (.cells #[cv, .int .i64 cap, .int .i64 fuel] 24)) W1) (HS1 : W1.heap.size = (w.alloc (.cells #[cv, .int .i64 cap, .int .i64 fuel] 24)).heap.size + 1)
    (hr2 : Cw W2 (W1.alloc (.cells #[.int .u16 i0, .int .u16 i1] 41)).heap.size os 44) (B2 : Below (W1.alloc (.cells #[.int .u16 i0, .int .u16 i1] 41)).heap.size (W1.alloc (.cells #[.int .u16 i0, .int .u16 i1] 41)) W2) : St4 w W2 W1.heap.size cv cap fuel cs i0 i1 os := by
  rw [World.size_alloc] at hr2
  have hsz := HS1
  rw [World.size_alloc] at hsz
  have g1 : Cw W1 w.heap.size [cv, .int .i64 cap, .int .i64 fuel] 24 := (Cw.new w [cv, .int .i64 cap, .int .i64 fuel] 24).below B1 (by rw [World.size_alloc]; omega)
  have s1 : Cw W1 (w.heap.size + 1) cs 44 := by rw [World.size_alloc] at hc1; exact hc1
  have i2 : Cw W2 W1.heap.size [.int .u16 i0, .int .u16 i1] 41 := (Cw.new W1 [.int .u16 i0, .int .u16 i1] 41).below B2 (by rw [World.size_alloc]; omega)
  refine ⟨(g1.alloc _).below B2 (by rw [World.size_alloc]; omega), (s1.alloc _).below B2 (by rw [World.size_alloc]; omega), i2, hr2, ?_, by omega⟩
  have b0 : Below w.heap.size w (w.alloc (.cells #[cv, .int .i64 cap, .int .i64 fuel] 24)) := (Below.refl _ _).alloc (Nat.le_refl _) _
  have b1 := b0.trans (B1.mono b0.size)
  exact (b1.alloc (by omega) _).trans (B2.mono (by rw [World.size_alloc]; omega))
/-- What is asked ahead of a frame, if all of it holds. -/
theorem stepE_ok {l : List Ii} {cap fuel : Int} {s : Sp} (h : stepE l cap fuel s = 0) : Okp l ∧ 1 ≤ cap ∧ cap ≤ 600 ∧ 1 ≤ fuel ∧ fuel ≤ 2000 ∧ 0 ≤ s.frame ∧ s.frame < cap ∧ s.over = false ∧ s.win = 0 ∧ s.seed ≠ 0 := by
  unfold stepE at h
  by_cases h1 : chkG l cap fuel = 0
  · rw [if_neg (by omega)] at h
    by_cases h2 : isS s = false ∨ s.seed = 0
    · rw [if_pos h2] at h; omega
    · rw [if_neg h2] at h
      by_cases h3 : s.over = true ∨ cap ≤ s.frame
      · rw [if_pos h3] at h; omega
      · unfold chkG at h1
        by_cases h4 : (chk l).2 ≠ 0
        · rw [if_pos h4] at h1; exact absurd h1 h4
        · rw [if_neg h4] at h1
          have h4' : (chk l).2 = 0 := by omega
          by_cases h5 : cap < 1 ∨ 600 < cap ∨ fuel < 1 ∨ 2000 < fuel
          · rw [if_pos h5] at h1; omega
          · have h6 : isS s = true := by cases e : isS s with | true => rfl | false => exact absurd (Or.inl e) h2
            have h7 : s.seed ≠ 0 := fun e => h2 (Or.inr e)
            have h8 : s.over = false := by cases e : s.over with | false => rfl | true => exact absurd (Or.inl e) h3
            have h9 : ¬ cap ≤ s.frame := fun e => h3 (Or.inr e)
            simp only [isS, decide_eq_true_eq] at h6
            have h10 : s.win = 0 := by rcases h6.2.2.2.2 with e | e; rw [h8] at e; cases e; exact e
            exact ⟨h4', by omega, by omega, by omega, by omega, h6.1, by omega, h8, h10, h7⟩
  · rw [if_pos h1] at h
    exact absurd h h1
set_option maxRecDepth 20000 in
set_option maxHeartbeats 4000000 in
theorem Step_any (cv : Value) (l : List Ii) (cap fuel : Int) (s : Sp) (i0 i1 : Int) (w : World) (hl : Ls w cv l) (hs : s.Wf) (hi0 : 0 ≤ i0 ∧ i0 < 65536) (hi1 : 0 ≤ i1 ∧ i1 < 65536) :
    Calls Tryz.prog 45 #[gameV cv cap fuel, .agg (stV s).toArray, .agg #[.int .u16 i0, .int .u16 i1]] w fun e w' => e = .returned (.tuple #[.agg (stV (stepF l cap fuel s i0 i1).1).toArray, .int .i64 (stepF l cap fuel s i0 i1).2]) ∧ Below w.heap.size w w' := by
  obtain ⟨ao, cp, rfl, hm⟩ := hl.len
  have hC := stV_c hs
  obtain ⟨os, hos⟩ : ∃ os, os = zeroS := ⟨_, rfl⟩
  have HZ : Hid ((Tryz.prog.info? 44).bind (·.zero) = some (.agg os.toArray)) := by rw [hos]; exact Tryz.zero44
  have HBz : Hid (Tryz.prog.built 44 [] = some os.toArray) := by rw [hos]; exact built28z
  have hol : os.length = 20 := by rw [hos]; rfl
  have HSo : Hid ((Tryz.prog.info? 44).map (·.size) = some os.length) := by rw [hol]; exact Tryz.size44
  have HOo : Hid (∀ v ∈ os, v.oneCell' = true) := by rw [hos]; exact hid_into (by decide)
  have HSz : Hid ((Tryz.prog.info? 44).map (·.size) = some (stV s).length) := by rw [hC.len]; exact Tryz.size44
  have HL : Hid (∀ W, Below w.heap.size w W → Ls W (.slice ao l.length cp) l) := fun W hW => hl.below hW
  have CM : Hid (∀ W, Below w.heap.size w W → Calls Tryz.prog 56 #[.agg #[.slice ao l.length cp, .int .i64 cap, .int .i64 fuel], .agg (stV s).toArray] W fun e w' => e = .returned (.int .i64 (stepE l cap fuel s)) ∧ Below W.heap.size W w') := fun W hW => mayStep_c (stV s) s hC _ l cap fuel W (hl.below hW)
  unfold gameV
  by_cases hE : stepE l cap fuel s = 0
  · have HF : Hid (stepF l cap fuel s i0 i1 = (stepS l cap fuel s i0 i1, 0)) := if_pos hE
    rw [HF.out]
    show Calls Tryz.prog 45 _ w fun e w' => e = .returned (.tuple #[.agg (stV (endS cap (ranS s (runI s.frame i0 i1 l fuel.toNat (startM s))))).toArray, .int .i64 0]) ∧ Below w.heap.size w w'
    obtain ⟨hok, _, hcap, hf1, hf2, hfr0, hfr1, hov, hwin, _⟩ := stepE_ok hE
    rw [hE] at CM
    obtain ⟨f, rfl⟩ := Int.eq_ofNat_of_zero_le (show 0 ≤ fuel by omega)
    rw [show (f : Int).toNat = f by simp]
    have hI3 : Ins3 s.frame i0 i1 := ⟨⟨hfr0, by omega⟩, hi0, hi1⟩
    have HBm := hid_into (built59 hs ao l.length cp i0 i1)
    have hrow : (rowM (.slice ao l.length cp) i0 i1 s.frame (pm0 s)).length = 58 := rowM_len (pm0_wf hs)
    obtain ⟨ms, hms⟩ : ∃ ms, ms = rowM (.slice ao l.length cp) i0 i1 s.frame (pm0 s) := ⟨_, rfl⟩
    obtain ⟨zs, hzs⟩ : ∃ zs, zs = rowM (.slice none 0 0) 0 0 0 (pm0 noS) := ⟨_, rfl⟩
    have HZm : Hid ((Tryz.prog.info? 114).bind (·.zero) = some (.agg zs.toArray)) := by rw [hzs]; exact zeroM
    have hzl : zs.length = 58 := by rw [hzs]; rfl
    have HSm : Hid ((Tryz.prog.info? 114).map (·.size) = some zs.length) := by rw [hzl]; exact Tryz.size114
    rw [← hms] at HBm hrow
    have HSml : Hid (zs.length = ms.length) := by rw [hzl, hrow]; exact hid_into rfl
    have HMo : Hid (∀ v ∈ ms, v.oneCell' = true) := by
      rw [hms]
      refine hid_into ?_
      intro v hv
      simp only [rowM, List.mem_cons, List.mem_append, List.mem_map, List.not_mem_nil, or_false] at hv
      rcases hv with (rfl | rfl | rfl | rfl) | ⟨x, _, rfl⟩ | (rfl | rfl | rfl) | ⟨x, _, rfl⟩ | (rfl | rfl | rfl) <;> rfl
    have HMw : Hid (∀ W M, Cw W M ms 114 → Mw W M (.slice ao l.length cp) i0 i1 s.frame (pm0 s)) := fun W M h => ⟨by rw [hms] at h; exact h, pm0_wf hs⟩
    have HRun : Hid (∀ W M, w.heap.size ≤ M → Below w.heap.size w W → Mw W M (.slice ao l.length cp) i0 i1 s.frame (pm0 s) → Calls Tryz.prog 57 #[.pointer (some ⟨M, 0, none⟩), .int .i64 (f : Int)] W fun e w' => ∃ er, e = .returned (.int .i64 er) ∧ RunP W M (.slice ao l.length cp) i0 i1 s.frame (runI s.frame i0 i1 l f (startM s)) er w') := fun W M hM hW hMw =>
      run_any l ao cp f (startM s) (hl.below hW) hok (fun hne e => by have := hl.lt hne M e; omega) hI3 (by omega) hMw (pm0_rep hov hwin)
    generalize runI s.frame i0 i1 l f (startM s) = R at HRun ⊢
    have HE : Hid (∀ (t : Sp), t.Wf → t.frame = s.frame → ∀ W, Calls Tryz.prog 58 #[.agg (stV t).toArray, .int .i64 cap] W fun e w' => e = .returned (.agg (stV (endS cap t)).toArray) ∧ Below W.heap.size W w') := fun t ht hfe W => ended_any t ht cap (by rw [hfe]; exact ⟨hfr0, by omega⟩) W
    have HSt : Hid (∀ t : Sp, t.Wf → StC (stV t) t) := fun t ht => stV_c ht
    have HWf := hid_into hs
    have HOv := hid_into hov
    have HWi := hid_into hwin
    have HOl := hid_into hol
    have hne0 : ∀ (t : Sp), t.Wf → Hid ((Tryz.prog.info? 44).map (·.size) = some (stV t).length) := fun t ht => by rw [(stV_c ht).len]; exact Tryz.size44
    have HN0 := hid_into hne0
    clear hms hzs hzl hrow hos hol HF hC hl HL hok hcap hf1 hf2 hfr0 hfr1 hov hwin hI3 hE HBz hne0 hs hm
    obtain ⟨cs, hcs⟩ : ∃ cs, cs = stV s := ⟨_, rfl⟩
    rw [← hcs] at HSz CM HBm ⊢
    have HCs := hid_into hcs
    clear hcs
    obtain ⟨es, hes⟩ : ∃ es, es = stV (endS cap (ranS s R)) := ⟨_, rfl⟩
    rw [← hes]
    have HES := hid_into hes
    clear hes
    go_enter Tryz.func45, Tryz.ntmps45
    go_wp2_with (first
      | (refine wpList_box_row rfl 44 (.tmp 1) rfl cs rfl ?_; intro W1 hc1 B1 HS1)
      | (refine wpList_alloc_row rfl 44 rfl os HZ.out ?_; intro W2 hr2 B2 HS2; have H4 := hid_into (St4.make hc1 B1 HS1.out hr2 B2); have g0 := H4.out.g.cell 0; have g1 := H4.out.g.cell 1; have g2 := H4.out.g.cell 2; simp only [List.getElem?_cons_zero, List.getElem?_cons_succ] at g0 g1 g2; clear hc1 B1 HS1 hr2 B2 HS2)
      | (refine wpList_load_rw rfl 44 (.tmp 4) rfl (w.heap.size + 1) cs 44 _ rfl ?_ Tryz.underlying44 rfl HSz ?_; exact H4.out.s)
      | (go_at_call 56; refine (CM.out _ H4.out.below).mono ?_; rintro e w3 ⟨rfl, B3⟩; replace H4 := hid_into (H4.out.next B3); have k0 := H4.out.g.cell 0; have k1 := H4.out.g.cell 1; have k2 := H4.out.g.cell 2; have j0 := H4.out.i.cell 0; have j1 := H4.out.i.cell 1; simp only [List.getElem?_cons_zero, List.getElem?_cons_succ] at k0 k1 k2 j0 j1; clear g0 g1 g2 B3)
      | (refine wpList_build_row rfl 114 #[(0, .tmp 18), (1, .tmp 19), (2, .tmp 20)] rfl ms _ rfl HBm.out ?_)
      | (refine wpList_alloc_row rfl 114 rfl zs HZm.out ?_; intro W5 hm5 B5 HS5)
      | (refine wpList_store_rw rfl 114 (.tmp 9) (.tmp 21) rfl w3.heap.size zs ms 114 rfl rfl ?_ HSm HSml HMo.out ?_; exact hm5; intro W6 hm6 O6; have hlt6 : Hid (W1.heap.size + 1 < w3.heap.size) := H4.out.r.lt; have H6 := hid_into ((H4.out.next B5).gg O6.gg hlt6.out); have k2 := H6.out.g.cell 2; simp only [List.getElem?_cons_zero, List.getElem?_cons_succ] at k2; clear O6 B5 HS5 hm5 H4))
    refine (HRun.out _ _ (by have := H6.out.hb; have := hlt6.out; omega) H6.out.below (HMw.out _ _ hm6)).mono ?_
    rintro e w7 ⟨er, rfl, p, hM7, hG7, hcase⟩
    have H7 := hid_into (H6.out.gg hG7 hlt6.out)
    rcases hcase with ⟨rfl, m, hR, hrep⟩ | ⟨hne, hR⟩
    · have hq := hM7.state
      rw [ranS_rep hrep HOv.out HWi.out] at hq
      have htw : (ranS s (some m)).Wf := by rw [← ranS_rep hrep HOv.out HWi.out]; exact ⟨hM7.wf.cells, hM7.wf.cin, hM7.wf.seed⟩
      have hes := HES.out
      rw [hR] at hes
      have HEt : ∀ W, Calls Tryz.prog 58 #[.agg (stV (ranS s (some m))).toArray, .int .i64 cap] W fun e w' => e = .returned (.agg es.toArray) ∧ Below W.heap.size W w' := by rw [hes]; exact HE.out _ htw (ranS_frame s _)
      have HNd := HN0.out _ htw
      have hdw : (endS cap (ranS s (some m))).Wf := by unfold endS; split <;> exact ⟨htw.cells, htw.cin, htw.seed⟩
      have HN2 : Hid ((Tryz.prog.info? 44).map (·.size) = some es.length) := by rw [hes]; exact HN0.out _ hdw
      have HD1 := hid_into (HSt.out _ htw).one
      have HD2 : Hid (∀ v ∈ es, v.oneCell' = true) := by rw [hes]; exact hid_into (HSt.out _ hdw).one
      have HL1 : Hid (cs.length = (stV (ranS s (some m))).length) := by rw [HCs.out]; show _ = _; rw [(HSt.out _ HWf.out).len, (HSt.out _ htw).len]
      have HL2 : Hid (os.length = es.length) := by show _ = _; rw [hes, HOl.out, (HSt.out _ hdw).len]
      have Hq := hid_into hq
      clear hq htw hdw hR hrep hM7 hG7 hm6 H6 HE HN0 HSt HRun HMw k0 k1 j0 j1 hes HES
      generalize stV (ranS s (some m)) = ds at HEt HNd HD1 HL1 Hq
      go_wp2_with (first
        | (refine wpList_load_mid rfl 44 (.tmp 26) rfl w3.heap.size 3 rfl ds _ ?_ Tryz.underlying44 rfl HNd.out ?_; exact Hq.out)
        | (refine wpList_store_rw rfl 44 (.tmp 4) (.tmp 27) rfl (w.heap.size + 1) cs ds 44 rfl rfl ?_ HSz HL1 HD1.out ?_; exact H7.out.s; intro W8 hs8 O8; have H8 := hid_into (H7.out.set O8 hs8); have k8 := H8.out.g.cell 1; simp only [List.getElem?_cons_zero, List.getElem?_cons_succ] at k8; clear O8 hs8 H7)
        | (refine wpList_load_rw rfl 44 (.tmp 4) rfl (w.heap.size + 1) ds 44 _ rfl ?_ Tryz.underlying44 rfl HNd ?_; exact H8.out.s)
        | (go_at_call 58; refine (HEt _).mono ?_; rintro e w9 ⟨rfl, B9⟩; have H9 := hid_into (H8.out.next B9); clear H8 B9)
        | (refine wpList_store_rw rfl 44 (.tmp 6) (.tmp 31) rfl (W1.heap.size + 1) os es 44 rfl rfl ?_ HSo HL2 HD2.out ?_; exact H9.out.r; intro W10 hr10 O10))
      exact ret_row2 rfl rfl rfl hr10 Tryz.underlying44 rfl HN2 ⟨rfl, H9.out.below.trans (O10.below (by have := H9.out.hb; omega))⟩
    · have hne' : (er == 0) = false := by simp [hne]
      have hes := HES.out
      rw [hR] at hes
      have hes2 : es = stV (endS cap s) := hes
      have HEt : ∀ W, Calls Tryz.prog 58 #[.agg cs.toArray, .int .i64 cap] W fun e w' => e = .returned (.agg es.toArray) ∧ Below W.heap.size W w' := by rw [HCs.out, hes2]; exact HE.out s HWf.out rfl
      have hdw : (endS cap s).Wf := by have htw := HWf.out; unfold endS; split <;> exact ⟨htw.cells, htw.cin, htw.seed⟩
      have HN2 : Hid ((Tryz.prog.info? 44).map (·.size) = some es.length) := by rw [hes2]; exact HN0.out _ hdw
      have HD2 : Hid (∀ v ∈ es, v.oneCell' = true) := by rw [hes2]; exact hid_into (HSt.out _ hdw).one
      have HL2 : Hid (os.length = es.length) := by show _ = _; rw [hes2, HOl.out, (HSt.out _ hdw).len]
      have k8 := H7.out.g.cell 1
      simp only [List.getElem?_cons_zero, List.getElem?_cons_succ] at k8
      clear hdw hR hM7 hG7 hm6 H6 HE HN0 HSt HRun HMw k0 k1 j0 j1 hes hes2 HES
      go_wp2_with (first
        | (refine wpList_load_rw rfl 44 (.tmp 4) rfl (w.heap.size + 1) cs 44 _ rfl ?_ Tryz.underlying44 rfl HSz ?_; exact H7.out.s)
        | (go_at_call 58; refine (HEt _).mono ?_; rintro e w9 ⟨rfl, B9⟩; have H9 := hid_into (H7.out.next B9); clear H7 B9)
        | (refine wpList_store_rw rfl 44 (.tmp 6) (.tmp 31) rfl (W1.heap.size + 1) os es 44 rfl rfl ?_ HSo HL2 HD2.out ?_; exact H9.out.r; intro W10 hr10 O10))
      exact ret_row2 rfl rfl rfl hr10 Tryz.underlying44 rfl HN2 ⟨rfl, H9.out.below.trans (O10.below (by have := H9.out.hb; omega))⟩
  · have HF : Hid (stepF l cap fuel s i0 i1 = (noS, stepE l cap fuel s)) := if_neg hE
    rw [HF.out]
    show Calls Tryz.prog 45 _ w fun e w' => e = .returned (.tuple #[.agg zeroS.toArray, .int .i64 (stepE l cap fuel s)]) ∧ Below w.heap.size w w'
    rw [← hos]
    generalize stV s = cs at HSz CM ⊢
    generalize stepE l cap fuel s = E at CM hE ⊢
    have hE' : (E != 0) = true := by simp [hE]
    clear hos hol HF hC hl HL
    go_enter Tryz.func45, Tryz.ntmps45
    go_wp2_with (first
      | (refine wpList_box_row rfl 44 (.tmp 1) rfl cs rfl ?_; intro W1 hc1 B1 HS1)
      | (refine wpList_alloc_row rfl 44 rfl os HZ.out ?_; intro W2 hr2 B2 HS2; have H4 := hid_into (St4.make hc1 B1 HS1.out hr2 B2); have g0 := H4.out.g.cell 0; have g1 := H4.out.g.cell 1; have g2 := H4.out.g.cell 2; simp only [List.getElem?_cons_zero, List.getElem?_cons_succ] at g0 g1 g2; clear hc1 B1 HS1 hr2 B2 HS2)
      | (refine wpList_load_rw rfl 44 (.tmp 4) rfl (w.heap.size + 1) cs 44 _ rfl ?_ Tryz.underlying44 rfl HSz ?_; exact H4.out.s)
      | (go_at_call 56; refine (CM.out _ H4.out.below).mono ?_; rintro e w3 ⟨rfl, B3⟩; have H5 := hid_into (H4.out.next B3))
      | (refine wpList_build_row rfl 44 #[] rfl os [] rfl HBz.out ?_)
      | (refine wpList_store_rw rfl 44 (.tmp 6) (.tmp 15) rfl (W1.heap.size + 1) os os 44 rfl rfl ?_ HSo (hid_into rfl) HOo.out ?_; exact H5.out.r; intro W4 hr4 O4))
    exact ret_row2 rfl rfl rfl hr4 Tryz.underlying44 rfl HSo ⟨rfl, H5.out.below.trans (O4.below (by have := H5.out.hb; omega))⟩
end Go.Proofs.YtbfldcieibdapabGreat
end

section
/-
  What a frame makes of a state is a state.
-/
namespace Go.Proofs.YtbfldcieibdapabGreat
open Go.RowKit
theorem runI_wf {fr i0 i1 : Int} {l : List Ii} (ho : Okp l) (hi : Ins3 fr i0 i1) : ∀ (k : Nat) (m m' : Mp) (p : Pm), p.Wf → Rep p m → runI fr i0 i1 l k m = some m' → ∃ p' : Pm, p'.Wf ∧ Rep p' m'
  | 0, m, m', p, hw, hr, h => by
    unfold runI at h
    by_cases e : l.length ≤ m.pc
    · rw [if_pos e] at h
      cases h
      exact ⟨p, hw, hr⟩
    · rw [if_neg e] at h
      cases h
  | k + 1, m, m', p, hw, hr, h => by
    cases hx : l[m.pc]? with
    | none =>
      rw [runI_end (k + 1) (List.getElem?_eq_none_iff.1 hx)] at h
      cases h
      exact ⟨p, hw, hr⟩
    | some x =>
      rw [runI_step k hx] at h
      have hmx := ho.may x (List.mem_of_getElem? hx)
      have hw2 : ({ p with pc := p.pc + 1 } : Pm).Wf := ⟨hw.cells, hw.cin, hw.stk, hw.sin, hw.high, hw.seed⟩
      have hA : Agree (opP fr i0 i1 l.length x { p with pc := p.pc + 1 }) (doI fr i0 i1 l.length x m) := by
        refine opP_agrees (m := m) ?_ hw2 hmx
        exact ⟨hr.cells, hr.seed, hr.over, hr.win, hr.st, by show p.pc + 1 - 1 = _; have := hr.pc; omega, hr.err⟩
      rcases hA with ⟨m2, e2, r2⟩ | ⟨e2, _⟩
      · rw [e2] at h
        exact runI_wf ho hi k m2 m' _ (opP_wf hw2 hmx ho.len hi) r2 h
      · rw [e2] at h
        cases h
theorem noS_wf : noS.Wf := ⟨rfl, by intro x hx; simp only [noS, zeros, List.mem_cons, List.not_mem_nil, or_false, or_self] at hx; subst hx; exact zero_in, by decide⟩
theorem stepF_wf (l : List Ii) (cap fuel : Int) (s : Sp) (i0 i1 : Int) (hs : s.Wf) (hi0 : 0 ≤ i0 ∧ i0 < 65536) (hi1 : 0 ≤ i1 ∧ i1 < 65536) : (stepF l cap fuel s i0 i1).1.Wf := by
  by_cases hE : stepE l cap fuel s = 0
  · rw [show stepF l cap fuel s i0 i1 = (stepS l cap fuel s i0 i1, 0) from if_pos hE]
    obtain ⟨hok, _, hcap, hf1, hf2, hfr0, hfr1, hov, hwin, _⟩ := stepE_ok hE
    have hI3 : Ins3 s.frame i0 i1 := ⟨⟨hfr0, by omega⟩, hi0, hi1⟩
    have ht : (ranS s (runI s.frame i0 i1 l fuel.toNat (startM s))).Wf := by
      cases hR : runI s.frame i0 i1 l fuel.toNat (startM s) with
      | none => exact hs
      | some m =>
        obtain ⟨p, hp, hr⟩ := runI_wf hok hI3 _ _ _ _ (pm0_wf hs) (pm0_rep hov hwin) hR
        rw [← ranS_rep hr hov hwin]
        exact ⟨hp.cells, hp.cin, hp.seed⟩
    show (endS cap (ranS s (runI s.frame i0 i1 l fuel.toNat (startM s)))).Wf
    unfold endS
    split <;> exact ⟨ht.cells, ht.cin, ht.seed⟩
  · rw [show stepF l cap fuel s i0 i1 = (noS, stepE l cap fuel s) from if_neg hE]
    exact noS_wf
end Go.Proofs.YtbfldcieibdapabGreat
end
