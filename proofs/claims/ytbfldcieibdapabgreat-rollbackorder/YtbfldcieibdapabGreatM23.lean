/-
  Joined from: StRows, Play, RStart.
-/
import Derived.Test.YtbfldcieibdapabGreatM22
import Derived.Test.YtbfldcieibdapabGreatM08
section
/-
  Rows of states in memory: a slice that reads as them (Ss), one of the call's own (So), append. No walk.
-/
namespace Go.Proofs.YtbfldcieibdapabGreat
open Go.RowKit
theorem Tryz.info44 : (Tryz.prog.info? 44).map (fun i => (i.zero, i.size, i.bytes)) = some (some (.agg zeroS.toArray), 20, 88) := by kernel_rfl
def cellsS (l : List Sp) : List Value := l.flatMap stV
/-- States whose cells are sixteen. -/
def Fit (l : List Sp) : Prop := ∀ s ∈ l, s.Wf
theorem Fit.nil : Fit [] := fun s hs => by cases hs
theorem Fit.snoc {l : List Sp} {s : Sp} (h : Fit l) (hs : s.Wf) : Fit (l ++ [s]) := fun t ht => by
  rcases List.mem_append.1 ht with h1 | h1
  · exact h t h1
  · rw [List.mem_singleton.1 h1]; exact hs
theorem cellsS_len : ∀ {l : List Sp}, Fit l → (cellsS l).length = l.length * 20
  | [], _ => rfl
  | s :: l, h => by
    have ih := cellsS_len (l := l) fun t ht => h t (by simp [ht])
    have h1 := (stV_c (h s (by simp))).len
    simp only [cellsS, List.flatMap_cons, List.length_append, List.length_cons] at ih ⊢
    omega
theorem cellsS_append (a b : List Sp) : cellsS (a ++ b) = cellsS a ++ cellsS b := by simp [cellsS]
theorem cellsS_one {l : List Sp} (h : Fit l) : ∀ u ∈ cellsS l, u.oneCell' = true := by
  intro u hu
  simp only [cellsS, List.mem_flatMap] at hu
  obtain ⟨s, hs, hu⟩ := hu
  exact (stV_c (h s hs)).one u hu
theorem cellsS_at : ∀ {l : List Sp}, Fit l → ∀ (i : Nat) (s : Sp), l[i]? = some s → ∀ (j : Nat) (u : Value), (stV s)[j]? = some u → (cellsS l)[i * 20 + j]? = some u
  | [], _, i, s, h, _, _, _ => by simp at h
  | t :: l, hf, 0, s, h, j, u, hu => by
    simp only [List.getElem?_cons_zero, Option.some.injEq] at h
    subst h
    have e : cellsS (t :: l) = stV t ++ cellsS l := by simp [cellsS]
    rw [e, Nat.zero_mul, Nat.zero_add, List.getElem?_append_left (List.getElem?_eq_some_iff.1 hu).1]
    exact hu
  | t :: l, hf, i + 1, s, h, j, u, hu => by
    have ih := cellsS_at (l := l) (fun t ht => hf t (by simp [ht])) i s (by simpa using h) j u hu
    have e : cellsS (t :: l) = stV t ++ cellsS l := by simp [cellsS]
    have h1 := (stV_c (hf t (by simp))).len
    rw [e, List.getElem?_append_right (by rw [h1]; omega), h1, show (i + 1) * 20 + j - 20 = i * 20 + j by omega]
    exact ih
/-- A row of states of the call's own, from block base on. -/
structure So (w : World) (base : Nat) (v : Value) (l : List Sp) : Prop where
  own : w.ownsRow base 44 20 v l.length (cellsS l)
  fit : Fit l
theorem So.form {w : World} {base : Nat} {v : Value} {l : List Sp} (h : So w base v l) : ∃ ao cap, v = .slice ao l.length cap := by
  rcases h.own.2 with ⟨rfl, h0⟩ | ⟨g, cap, cur, rfl, _⟩
  · exact ⟨none, 0, by rw [h0]⟩
  · exact ⟨_, cap, rfl⟩
theorem So.nil (w : World) (base : Nat) : So w base (.slice none 0 0) [] := ⟨World.ownsRow_nil _ _ _ _, Fit.nil⟩
theorem So.lt {w : World} {base : Nat} {v : Value} {l : List Sp} (h : So w base v l) : ∀ k, v.ownBlock = some k → base ≤ k ∧ k < w.heap.size := fun k hk => World.ownsRow.lt h.own k hk
theorem So.keep {w w' : World} {base : Nat} {v : Value} {l : List Sp} (h : So w base v l) (hk : ∀ k, v.ownBlock = some k → k < w.heap.size → w'.heap[k]? = w.heap[k]?) : So w' base v l := by
  refine ⟨⟨h.own.1, ?_⟩, h.fit⟩
  rcases h.own.2 with h2 | ⟨g, cap, cur, rfl, hb, hg, rest⟩
  · exact Or.inl h2
  · exact Or.inr ⟨g, cap, cur, rfl, hb, by rw [hk g rfl (Array.getElem?_eq_some_iff.1 hg).1]; exact hg, rest⟩
theorem So.below {w w' : World} {base : Nat} {v : Value} {l : List Sp} (h : So w base v l) (hb : Below w.heap.size w w') : So w' base v l := h.keep fun k _ hk => hb.block k hk
theorem So.only {w w' : World} {base g : Nat} {v : Value} {l : List Sp} (h : So w base v l) (hb : Only g w w') (hg : v.ownBlock ≠ some g) : So w' base v l := h.keep fun k hk _ => hb.block k fun e => hg (by rw [hk, e])
theorem So.mono {w : World} {base b' : Nat} {v : Value} {l : List Sp} (h : So w base v l) (hb : b' ≤ base) : So w b' v l := by
  refine ⟨⟨h.own.1, ?_⟩, h.fit⟩
  rcases h.own.2 with h2 | ⟨g, cap, cur, rfl, hg, rest⟩
  · exact Or.inl h2
  · exact Or.inr ⟨g, cap, cur, rfl, Nat.le_trans hb hg, rest⟩
/-- Where the state at a place stands. -/
theorem So.at {w : World} {base n cap : Nat} {ao : Option Addr} {l : List Sp} (h : So w base (.slice ao n cap) l) (i : Nat) (s : Sp) (hi : l[i]? = some s) : ∃ g, ao = some ⟨g, 0, none⟩ ∧ base ≤ g ∧ g < w.heap.size ∧ w.rangeAt g (i * 20) (stV s) := by
  rcases h.own.2 with ⟨h2, h0⟩ | ⟨g, cp, cur, hv, hb, hg, rest⟩
  · rw [List.eq_nil_of_length_eq_zero h0] at hi
    simp at hi
  · simp only [Value.slice.injEq] at hv
    obtain ⟨rfl, rfl, rfl⟩ := hv
    refine ⟨g, rfl, hb, (Array.getElem?_eq_some_iff.1 hg).1, fun j u hu => ?_⟩
    have := World.ownsRow.cells h.own (g := g) rfl _ _ (cellsS_at h.fit i s hi j u hu)
    simpa [Addr.add_lit] using this

theorem run_append_st (w : World) (base : Nat) (ty : TypeId) (v : Value) (xs : List Sp) (hown : So w base v xs) (g c : Nat) (s : Sp) (hs : s.Wf) (hb : Cw w g (stV s) 44) (h63 : xs.length + 1 ≤ 1000000) (hbase : base ≤ w.heap.size) :
    ∃ ao cap w', (Builtin.append_ #[74, 74] ty #[v, .slice (some ⟨g, 0, none⟩) 1 c]).run Tryz.prog w = .ok (.slice ao (xs.length + 1) cap) w' ∧ So w' base (.slice ao (xs.length + 1) cap) (xs ++ [s]) ∧ w.grownBy w' v.ownBlock ∧
      ((Value.slice ao (xs.length + 1) cap).ownBlock = v.ownBlock ∨ (Value.slice ao (xs.length + 1) cap).ownBlock = some w.heap.size) := by
  obtain ⟨i0, hi, hz0, hz1, hz2⟩ := info_parts Tryz.info44
  have hlen : (stV s).length = 1 * 20 := by rw [(stV_c hs).len]
  obtain ⟨v', w', hr, h2, h3, _, h5⟩ := run_append_own_at (P := Tryz.prog) w base 74 ty 44 i0 (.agg zeroS.toArray) 20 88 Tryz.underlying74 hi hz0 hz1 hz2 rfl (by decide) v xs.length (cellsS xs) hown.own ⟨g, 0, none⟩ 1 c (stV s) hlen (fun j u hu => by rw [Addr.add_lit, Nat.zero_add, hb.cell]; exact hu) (stV_c hs).one (by unfold maxLen; omega) (by omega) hbase
  have h2' : So w' base v' (xs ++ [s]) := by
    refine ⟨?_, hown.fit.snoc hs⟩
    rw [cellsS_append, List.length_append, show cellsS [s] = stV s by simp [cellsS]]
    exact h2
  obtain ⟨ao, cap, rfl⟩ := h2'.form
  rw [List.length_append] at hr h2' h5
  exact ⟨ao, cap, w', hr, h2', h3, h5⟩
theorem wpList_append_st (w : World) {ops : Array Oper} {rest : List Oper} {o : Oper} {a : Act} {Q : Exit → Act → World → Prop} (hgd : o.guard = none) (x y : Operand)
    (ho : o.op = .call { callee := .builtin .append, args := #[x, y], argTypes := #[74, 74] })
    (base : Nat) (v : Value) (xs : List Sp) (hx : a.eval x = v) (hown : So w base v xs) (g c : Nat) (s : Sp) (hs : s.Wf) (hy : a.eval y = .slice (some ⟨g, 0, none⟩) 1 c) (hb : Cw w g (stV s) 44)
    (h63 : xs.length + 1 ≤ 1000000) (hbase : base ≤ w.heap.size)
    (h : ∀ ao cap w', So w' base (.slice ao (xs.length + 1) cap) (xs ++ [s]) → w.grownBy w' v.ownBlock →
      ((Value.slice ao (xs.length + 1) cap).ownBlock = v.ownBlock ∨ (Value.slice ao (xs.length + 1) cap).ownBlock = some w.heap.size) →
      wpList Tryz.prog ops Q rest (a.put o.dst (.slice ao (xs.length + 1) cap)) w') : wpList Tryz.prog ops Q (o :: rest) a w := by
  obtain ⟨ao, cap, w', hr, h2, h3, h4⟩ := run_append_st w base o.type v xs hown g c s hs hb h63 hbase
  refine wpList_plain hgd fun _ hK => ?_
  unfold Oper.wp execOp
  simp only [ho, resolve, invoke, builtin, Sem.run_bind, Sem.run_pure, Result.andThen_ok, List.map_toArray, List.map_cons, List.map_nil, hx, hy, hr]
  exact hK _ _ (h ao cap w' h2 h3 h4)
/-- A slice of one state. -/
theorem run_one_st (w : World) {s : Sp} (hs : s.Wf) : (Instr.buildSlice 74 1 #[(0, .agg (stV s).toArray)]).run Tryz.prog w = .ok (.slice (some ⟨w.heap.size, 0, none⟩) 1 1) (w.alloc (.cells (stV s).toArray 44)) := by
  obtain ⟨fr, cells, seed, over, win⟩ := s
  obtain ⟨c0, c1, c2, c3, c4, c5, c6, c7, c8, c9, c10, c11, c12, c13, c14, c15, e⟩ := sixteen hs.cells
  simp only at e
  subst e
  obtain ⟨i0, hi, hz0, hz1, hz2⟩ := info_parts Tryz.info44
  refine run_buildSlice w 74 44 1 _ _ i0 (.agg zeroS.toArray) Tryz.underlying74 hi hz0 (by rw [hz1]; decide) (by rw [hz1]; decide) ?_
  rw [hz1]
  kernel_rfl
theorem wpList_one_st {w : World} {ops : Array Oper} {rest : List Oper} {o : Oper} {a : Act} {Q : Exit → Act → World → Prop} (hgd : o.guard = none) (x : Operand) (ho : o.op = .buildSlice 74 1 #[(0, x)]) (cs : List Value) (hrun : Hid (∀ W : World, (Instr.buildSlice 74 1 #[(0, .agg cs.toArray)]).run Tryz.prog W = .ok (.slice (some ⟨W.heap.size, 0, none⟩) 1 1) (W.alloc (.cells cs.toArray 44)))) (hx : a.eval x = .agg cs.toArray)
    (h : ∀ W, Cw W w.heap.size cs 44 → Below w.heap.size w W → Hid (W.heap.size = w.heap.size + 1) → wpList Tryz.prog ops Q rest (a.put o.dst (.slice (some ⟨w.heap.size, 0, none⟩) 1 1)) W) : wpList Tryz.prog ops Q (o :: rest) a w := by
  refine wpList_plain hgd fun _ hK => ?_
  unfold Oper.wp execOp
  simp only [ho, Sem.run_bind, List.map_toArray, List.map_cons, List.map_nil, hx, hrun.out w, Result.andThen_ok]
  exact hK _ _ (h _ (Cw.new w cs 44) ((Below.refl _ _).alloc (Nat.le_refl _) _) (World.size_alloc _ _))
end Go.Proofs.YtbfldcieibdapabGreat
end

section
/-
  Play and States, by contracts.
-/
namespace Go.Proofs.YtbfldcieibdapabGreat
open Go.RowKit
/-- Play. -/
def playE (l : List Ii) (cap fuel seed : Int) (ps : List (Int × Int)) : Sp × Int := if chkG l cap fuel = 0 then (endG l cap fuel (startS seed) ps, 0) else (noS, chkG l cap fuel)
theorem Grows.belowNone {w W : World} (h : Grows (fun k => none = some k) w W) : Below w.heap.size w W := Grows.below h (Nat.le_refl _) (fun k hk => (by cases hk))
theorem playE_wf {l : List Ii} {cap fuel seed : Int} {ps : List (Int × Int)} (hin : InP ps) (hseed : 0 ≤ seed ∧ seed < 4294967296) : (playE l cap fuel seed ps).1.Wf := by
  unfold playE
  split
  · rename_i h
    exact (endG_gs h ps _ hin (startS_gs seed cap hseed (chkG_cap h).2.1)).wf
  · exact noS_wf
/-- What States answers: a row of its own. -/
def StsP (w : World) (l : List Ii) (cap fuel seed : Int) (ps : List (Int × Int)) (e : Ending) (w' : World) : Prop :=
  ∃ v, e = .returned (.tuple #[v, .int .i64 (chkG l cap fuel)]) ∧ So w' w.heap.size v (if chkG l cap fuel = 0 then startS seed :: goS l cap fuel (startS seed) ps else []) ∧ Below w.heap.size w w'
structure Fh (w W : World) (cv : Value) (cap fuel : Int) (os : List Value) : Prop where
  g : Cw W w.heap.size [cv, .int .i64 cap, .int .i64 fuel] 24
  r : Cw W (w.heap.size + 1) os 44
  below : Below w.heap.size w W
theorem Fh.make {w W2 : World} {cv : Value} {cap fuel : Int} {os : List Value} (hr2 : Cw W2 (w.alloc (.cells #[cv, .int .i64 cap, .int .i64 fuel] 24)).heap.size os 44) (B2 : Below (w.alloc (.cells #[cv, .int .i64 cap, .int .i64 fuel] 24)).heap.size (w.alloc (.cells #[cv, .int .i64 cap, .int .i64 fuel] 24)) W2) : Fh w W2 cv cap fuel os := by
  rw [World.size_alloc] at hr2
  have g1 : Cw W2 w.heap.size [cv, .int .i64 cap, .int .i64 fuel] 24 := (Cw.new w [cv, .int .i64 cap, .int .i64 fuel] 24).below B2 (by rw [World.size_alloc]; omega)
  have b0 : Below w.heap.size w (w.alloc (.cells #[cv, .int .i64 cap, .int .i64 fuel] 24)) := (Below.refl _ _).alloc (Nat.le_refl _) _
  exact ⟨g1, hr2, b0.trans (B2.mono b0.size)⟩
theorem Fh.next {w W W' : World} {cv : Value} {cap fuel : Int} {os : List Value} (h : Fh w W cv cap fuel os) (hb : Below W.heap.size W W') : Fh w W' cv cap fuel os := ⟨h.g.below hb h.g.lt, h.r.below hb h.r.lt, h.below.trans (hb.mono h.below.size)⟩
end Go.Proofs.YtbfldcieibdapabGreat
end

section
/-
  The document's Start.
-/
namespace Go.Proofs.YtbfldcieibdapabGreat
open Go.RowKit
set_option maxRecDepth 20000 in
set_option maxHeartbeats 1000000 in
theorem rStart_any (seed : Int) (w : World) : Calls Tryz.prog 47 #[.int .u32 seed] w fun e w' => e = .returned (.agg (stV (startS seed)).toArray) ∧ Below w.heap.size w w' := by
  obtain ⟨os, hos⟩ : ∃ os, os = zeroS := ⟨_, rfl⟩
  have HZ : Hid ((Tryz.prog.info? 44).bind (·.zero) = some (.agg os.toArray)) := by rw [hos]; exact Tryz.zero44
  have hol : os.length = 20 := by rw [hos]; rfl
  have HSo : Hid ((Tryz.prog.info? 44).map (·.size) = some os.length) := by rw [hol]; exact Tryz.size44
  obtain ⟨ds, hds⟩ : ∃ ds, ds = stV (startS seed) := ⟨_, rfl⟩
  have hdl : ds.length = 20 := by rw [hds]; rfl
  have HSd : Hid ((Tryz.prog.info? 44).map (·.size) = some ds.length) := by rw [hdl]; exact Tryz.size44
  have HSl : Hid (os.length = ds.length) := by rw [hol, hdl]; exact hid_into rfl
  have HDo : Hid (∀ v ∈ ds, v.oneCell' = true) := by rw [hds]; exact hid_into (by intro v hv; simp only [stV, startS, zeros, List.map_cons, List.map_nil, List.cons_append, List.nil_append, List.mem_cons, List.not_mem_nil, or_false] at hv; rcases hv with rfl | rfl | rfl | rfl | rfl | rfl | rfl | rfl | rfl | rfl | rfl | rfl | rfl | rfl | rfl | rfl | rfl | rfl | rfl | rfl <;> rfl)
  rw [← hds]
  by_cases h0 : seed = 0
  · subst h0
    have HB : Hid (Tryz.prog.built 44 [(2, .int .u32 1)] = some ds.toArray) := by rw [hds]; exact built28 1
    clear hds hos hol hdl
    go_enter Tryz.func47, Tryz.ntmps47
    go_wp2_with (first
      | (refine wpList_alloc_row rfl 44 rfl os HZ.out ?_; intro W2 hr2 B2 HS2)
      | (refine wpList_build_row rfl 44 #[(2, .tmp 5)] rfl ds [(2, .int .u32 1)] rfl HB.out ?_)
      | (refine wpList_store_rw rfl 44 (.tmp 2) (.tmp 6) rfl w.heap.size os ds 44 rfl rfl hr2 HSo HSl HDo.out ?_; intro W4 hr4 O4))
    exact ret_row rfl rfl rfl hr4 Tryz.underlying44 rfl HSd ⟨rfl, B2.trans (O4.below (Nat.le_refl _))⟩
  · have HB : Hid (Tryz.prog.built 44 [(2, .int .u32 seed)] = some ds.toArray) := by rw [hds, startS, if_neg h0]; exact built28 seed
    have hb : (seed == 0) = false := by simp [h0]
    clear hds hos hol hdl
    go_enter Tryz.func47, Tryz.ntmps47
    go_wp2_with (first
      | (refine wpList_alloc_row rfl 44 rfl os HZ.out ?_; intro W2 hr2 B2 HS2)
      | (refine wpList_build_row rfl 44 #[(2, .tmp 5)] rfl ds [(2, .int .u32 seed)] rfl HB.out ?_)
      | (refine wpList_store_rw rfl 44 (.tmp 2) (.tmp 6) rfl w.heap.size os ds 44 rfl rfl hr2 HSo HSl HDo.out ?_; intro W4 hr4 O4))
    exact ret_row rfl rfl rfl hr4 Tryz.underlying44 rfl HSd ⟨rfl, B2.trans (O4.below (Nat.le_refl _))⟩
end Go.Proofs.YtbfldcieibdapabGreat
end
