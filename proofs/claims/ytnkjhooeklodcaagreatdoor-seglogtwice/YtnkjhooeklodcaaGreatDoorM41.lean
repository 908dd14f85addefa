/-
  Joined from: SegEnd, SegTakeP.
-/
import Derived.Test.YtnkjhooeklodcaaGreatDoorM40
import Derived.Test.YtnkjhooeklodcaaGreatDoorM38
section
/-
  end: the log ends within the first of these files.
-/
namespace Go.Proofs.YtnkjhooeklodcaaGreatDoor
open Go.RowKit Go.Shelf Go.Maps Go.Sort

attribute [local go_sem] Oper.semAt_some
variable {w w' : World} {D F : Nat → Prop} {lb sb : Nat} {u : Ud} {pre : List UInt8} {es : List En} {las : Nat} {ns : List (List UInt8)} {sz : Nat} {dead : Bool}
theorem run_slice1 (w : World) (g off m cap : Nat) (hm : m + 1 ≤ cap) : ∃ ao c2, (Instr.slice 69 (.slice (some ⟨g, off, none⟩) (m + 1) cap) (some (.int .i64 1)) none none).run Tryz.prog w = .ok (.slice ao m c2) w ∧ (m ≠ 0 → ao = some ⟨g, off + 1, none⟩) := by
  obtain ⟨i0, hi, hz0, hz1, hz2⟩ := info_parts Tryz.info9p
  have hsz : ∀ W : World, (sizeOf 9).run Tryz.prog W = .ok 1 W := fun W => by simp [sizeOf, typeInfo, hi, hz1]
  have h4 : (1 : Int) ≤ (m : Int) + 1 := by omega
  by_cases hck : cap = 1
  · have hm0 : m = 0 := by omega
    subst hck; subst hm0
    refine ⟨some ⟨g, off, none⟩, 0, ?_, fun e => absurd rfl e⟩
    simp [Instr.slice, run_underlying Tryz.underlying69, Instr.sliceBounds, Instr.sliceBound, asIntOf, hsz]
  · refine ⟨some ⟨g, off + 1, none⟩, cap - 1, ?_, fun _ => rfl⟩
    simp [Instr.slice, run_underlying Tryz.underlying69, Instr.sliceBounds, Instr.sliceBound, asIntOf, hsz, h4, hck, Addr.add_lit]
theorem wpListIn_slice1 {Fe : Fence} {n : Nat} (w : World) {ops : Array Oper} {rest : List Oper} {o : Oper} {a : Act} {Q : Exit → Act → World → Prop} (hgd : o.guard = none) (x : Operand) (ho : o.op = .slice 69 x (some (.const (.int .i64 1))) none none)
    (g off m cap : Nat) (hx : a.eval x = .slice (some ⟨g, off, none⟩) (m + 1) cap) (hm : m + 1 ≤ cap)
    (h : ∀ ao c2, (m ≠ 0 → ao = some ⟨g, off + 1, none⟩) → wpListIn Fe n Tryz.prog ops Q rest (a.put o.dst (.slice ao m c2)) w) : wpListIn Fe n Tryz.prog ops Q (o :: rest) a w := by
  obtain ⟨ao, c2, hr, hq⟩ := run_slice1 w g off m cap hm
  have hk : a.eval (.const (.int .i64 1)) = .int .i64 1 := rfl
  refine wpListIn_plain hgd fun K hK => ?_
  unfold Oper.wpIn
  refine ⟨by simp [Oper.about, ho], ?_⟩
  rw [Oper.semAt_plain Fe _ _ (by rw [ho]; intro c hc; cases hc)]
  simp only [execOp, ho, Option.map_some, Option.map_none, Sem.run_bind, Instr.sliceAt, run_underlying Tryz.underlying69, hx, hk, hr, Result.andThen_ok, Sem.run_pure]
  exact hK _ _ (h ao c2 hq)
theorem allU_snoc (f : Nm → Us → Int × Us) : ∀ (xs : List Nm) (u : Ud) (x : Nm), (allU f u xs).1 = 0 → allU f u (xs ++ [x]) = (allU f u xs).2.five [x] (f x)
  | [], u, x, _ => by
    simp only [List.nil_append, allU]
    split
    · rename_i h; rw [← h]
    · rfl
  | y :: ys, u, x, h => by
    simp only [List.cons_append, allU] at h ⊢
    split at h
    · rename_i h1
      rw [if_pos h1, if_pos h1]
      exact allU_snoc f ys _ x h
    · rename_i h1
      exact absurd h h1
theorem allU_stop (f : Nm → Us → Int × Us) : ∀ (xs ys : List Nm) (u : Ud), (allU f u xs).1 ≠ 0 → allU f u (xs ++ ys) = allU f u xs
  | [], ys, u, h => absurd rfl h
  | y :: xs, ys, u, h => by
    simp only [List.cons_append, allU] at h ⊢
    split
    · rename_i h1
      rw [if_pos h1] at h
      exact allU_stop f xs ys _ h
    · rfl
def endF (u : Ud) (x : Nm) (xs : List Nm) (good : Nat) : Int × Ud :=
  if (allU rmU u xs.reverse).1 ≠ 0 then allU rmU u xs.reverse else if good = 0 then (allU rmU u xs.reverse).2.five [x] (rmU x) else (allU rmU u xs.reverse).2.five [x] (cuU x (good : Int))
def nmsA (ys : List Al) : List Nm := ys.map fun y => y.2.1
structure EndI (w : World) (D F : Nat → Prop) (lb sb : Nat) (u : Ud) (pre : List UInt8) (es : List En) (las : Nat) (ns : List (List UInt8)) (sz : Nat) (dead : Bool) (ys : List Al) (W : World) : Prop where
  ok : (allU rmU u (nmsA ys)).1 = 0
  ld : Ld W D F lb sb (allU rmU u (nmsA ys)).2 pre es las ns sz dead
  box : Cw W w.heap.size [.pointer (some ⟨lb, 0, none⟩)] 34
  res : Cw W (w.heap.size + 1) [.int .i64 0] 44
  s3 : w.heap.size + 3 ≤ W.heap.size
  g : Grows (fun k => D k ∨ F k) w W
structure EndX (w : World) (D F : Nat → Prop) (lb sb : Nat) (u : Ud) (pre : List UInt8) (es : List En) (las : Nat) (ns : List (List UInt8)) (sz : Nat) (dead : Bool) (c : Code) (ys : List Al) (W : World) : Prop where
  c : c = .ret
  bad : (allU rmU u (nmsA ys)).1 ≠ 0
  ld : Ld W D F lb sb (allU rmU u (nmsA ys)).2 pre es las ns sz (if (allU rmU u (nmsA ys)).1 = 0 ∨ (allU rmU u (nmsA ys)).1 = 6 then dead else true)
  res : Cw W (w.heap.size + 1) [.int .i64 (allU rmU u (nmsA ys)).1] 44
  g : Grows (fun k => D k ∨ F k) w W
theorem Ld.grown (h : Ld w D F lb sb u pre es las ns sz dead) {row : Option Nat} (hg : w.grownBy w' row) (hr : ∀ r, row = some r → ¬ D r ∧ ¬ F r) : Ld w' D F lb sb u pre es las ns sz dead := by
  obtain ⟨ev, nv, hl⟩ := h.l
  have hs := hg.size
  refine ⟨h.d.keep fun k hk hlt => hg.block k hlt fun e => (hr k e.symm).1 hk, ⟨ev, nv, hl.keep hs fun k hk hlt => hg.block k hlt fun e => (hr k e.symm).2 hk⟩, fun k hk => Nat.lt_of_lt_of_le (h.dl k hk) hs, fun k hk => Nat.lt_of_lt_of_le (h.fl k hk) hs, h.ap⟩
theorem Grows.grown {X : Nat → Prop} {W W' : World} (h : Grows X w W) {row : Option Nat} (hg : W.grownBy W' row) (hr : ∀ r, row = some r → w.heap.size ≤ r) : Grows X w W' :=
  ⟨hg.os.trans h.os, hg.tape.trans h.tape, hg.output.trans h.output, Nat.le_trans h.size hg.size, fun k hk hx => (hg.block k (Nat.lt_of_lt_of_le hk h.size) fun e => by have := hr k e.symm; omega).trans (h.block k hk hx)⟩
theorem EndI.own (hD : ∀ k, D k → k < w.heap.size) (hF : ∀ k, F k → k < w.heap.size) (B : Nat) (hB : w.heap.size + 3 ≤ B) : OwnFrom B (EndI w D F lb sb u pre es las ns sz dead) := by
  intro s W W' row h hg hr
  refine ⟨h.ok, h.ld.grown hg fun r e => ?_, h.box.keep (hg.block _ h.box.lt fun e => ?_), h.res.keep (hg.block _ h.res.lt fun e => ?_), Nat.le_trans h.s3 hg.size, h.g.grown hg fun r e => ?_⟩
  · have := (hr r e).1
    exact ⟨fun e2 => by have := hD r e2; omega, fun e2 => by have := hF r e2; omega⟩
  · have := (hr _ e.symm).1; omega
  · have := (hr _ e.symm).1; omega
  · have := (hr r e).1; omega
theorem EndX.own (hD : ∀ k, D k → k < w.heap.size) (hF : ∀ k, F k → k < w.heap.size) (B : Nat) (hB : w.heap.size + 3 ≤ B) (c : Code) : OwnFrom B (EndX w D F lb sb u pre es las ns sz dead c) := by
  intro s W W' row h hg hr
  refine ⟨h.c, h.bad, h.ld.grown hg fun r e => ?_, h.res.keep (hg.block _ h.res.lt fun e => ?_), h.g.grown hg fun r e => ?_⟩
  · have := (hr r e).1
    exact ⟨fun e2 => by have := hD r e2; omega, fun e2 => by have := hF r e2; omega⟩
  · have := (hr _ e.symm).1; omega
  · have := (hr r e).1; omega
theorem Kp.of {X : Nat → Prop} {W W' : World} (n₀ : Nat) (h : Grows X W W') (hn : n₀ ≤ W.heap.size) : Kp n₀ X W W' := ⟨h.size, fun k hk hx => h.block k (by omega) hx⟩
theorem Kp.put {n₀ : Nat} {X : Nat → Prop} (W : World) (l : Nat) (o o' : Obj) (hl : n₀ ≤ l) (h : W.heap[l]? = some o) : Kp n₀ X W (W.putObj l o') := by
  have hg := grownBy_putObj' W l o'
  have hlt := (Array.getElem?_eq_some_iff.1 h).1
  exact ⟨hg.size, fun k hk _ => hg.block k (by omega) fun e => by cases e; omega⟩
theorem KeepsFrom.of {X : Nat → Prop} {W W' : World} (B : Nat) (h : Grows X W W') (hx : ∀ k, X k → k < B) : KeepsFrom B W W' := ⟨h.size, fun k o hB hk _ => (h.block k (Array.getElem?_eq_some_iff.1 hk).1 fun e => by have := hx k e; omega).trans hk⟩
theorem LRes.fin2 {Wa W2 : World} (h : LRes Wa D F lb sb pre u es las ns sz dead W2) (hX : ∀ k, D k ∨ F k → k < w.heap.size) (hg : Grows (fun k => D k ∨ F k) w Wa) (hs : w.heap.size + 1 < Wa.heap.size) {D' : Nat} (hD : w.heap.size ≤ D') (hD2 : D' < Wa.heap.size) (v : Value) (o : Obj) :
    LRes w D F lb sb pre u es las ns sz dead ((W2.setCell ⟨w.heap.size + 1, 0, none⟩ v).putObj D' o) := by
  obtain ⟨D2, F2, h1, h2, h3, h4⟩ := h
  have no : ∀ r, w.heap.size ≤ r → r < Wa.heap.size → ¬ D2 r ∧ ¬ F2 r := fun r hr hl => ⟨fun e => by
    rcases h2 r e with e | e
    · have := hX r (Or.inl e); omega
    · omega, fun e => by
    rcases h3 r e with e | e
    · have := hX r (Or.inr e); omega
    · omega⟩
  have g1 := grownBy_setCell' W2 (w.heap.size + 1) v
  have g2 := grownBy_putObj' (W2.setCell ⟨w.heap.size + 1, 0, none⟩ v) D' o
  have hgs := hg.size
  refine ⟨D2, F2, (h1.grown g1 fun r e => by cases e; exact no _ (by omega) hs).grown g2 (fun r e => by cases e; exact no _ hD hD2), fun k hk => ?_, fun k hk => ?_, ((hg.trans h4 fun k hk => Or.inl hk).grown g1 fun r e => by cases e; omega).grown g2 fun r e => by cases e; exact hD⟩
  · rcases h2 k hk with e | e
    · exact Or.inl e
    · exact Or.inr (Nat.le_trans hgs e)
  · rcases h3 k hk with e | e
    · exact Or.inl e
    · exact Or.inr (Nat.le_trans hgs e)
theorem back_rows : ∀ (n : Nat) (xs : List Nm), xs.length = n → (∀ y ∈ xs, y.length ≤ maxLen) → ∃ ys : List Al, ys.length = n ∧ nmsA ys = xs.reverse ∧ ∀ k y, ys[k]? = some y → y.1 + k + 1 = n ∧ xs[y.1]? = some y.2.1
  | 0, xs, h, _ => by
    rw [List.eq_nil_of_length_eq_zero h]
    exact ⟨[], rfl, rfl, fun k y hk => by simp at hk⟩
  | n + 1, xs, h, hl => by
    rcases List.eq_nil_or_concat xs with rfl | ⟨t, d, rfl⟩
    · simp at h
    simp only [List.concat_eq_append] at *
    have ht : t.length = n := by simpa using h
    obtain ⟨ys, h1, h2, h3⟩ := back_rows n t ht fun y hy => hl y (by simp [hy])
    refine ⟨(n, ⟨d, hl d (by simp)⟩) :: ys, by simp [h1], by simp [nmsA] at h2 ⊢; exact h2, fun k y hk => ?_⟩
    cases k with
    | zero =>
      simp at hk
      subst hk
      exact ⟨rfl, by simp [← ht]⟩
    | succ k =>
      simp at hk
      obtain ⟨e1, e2⟩ := h3 k y hk
      refine ⟨by omega, ?_⟩
      rw [List.getElem?_append_left (by omega)]
      exact e2
set_option maxRecDepth 100000 in
set_option maxHeartbeats 4000000 in
theorem end_any (w : World) (h : Ld w D F lb sb u pre es las ns sz dead) (g off cap : Nat) (x : Nm) (xs : List Nm) (hgl : g < w.heap.size) (hgD : ¬ D g ∧ ¬ F g) (hc : ∀ j y, (x :: xs)[j]? = some y → w.cell? ⟨g, off + j, none⟩ = some (encStr y))
    (hl : ∀ y ∈ x :: xs, y.length ≤ maxLen) (hcap : xs.length + 1 ≤ cap) (hfew : xs.length ≤ 1000000) (good : Nat) (hgood : good ≤ 1073741824) :
    Calls Tryz.prog 89 #[.pointer (some ⟨lb, 0, none⟩), .slice (some ⟨g, off, none⟩) (xs.length + 1) cap, .int .i64 (good : Int)] w fun e w' => e = .returned (.int .i64 (endF u x xs good).1) ∧
      LRes w D F lb sb pre (endF u x xs good).2 es las ns sz (if (endF u x xs good).1 = 0 ∨ (endF u x xs good).1 = 6 then dead else true) w' := by
  obtain ⟨ys, hy1, hy2, hy3⟩ := back_rows xs.length xs rfl fun y hy => hl y (by simp [hy])
  have HC := hid_into hc
  have HL := hid_into hl
  obtain ⟨R, hR⟩ : ∃ R, endF u x xs good = R := ⟨_, rfl⟩
  rw [hR]
  obtain ⟨dd, hdd⟩ : ∃ dd, (if R.1 = 0 ∨ R.1 = 6 then dead else true) = dd := ⟨_, rfl⟩
  rw [hdd]
  have HRR := hid_into hR
  have HDD := hid_into hdd
  clear hR hdd
  have HY2 := hid_into hy2
  have HY3 := hid_into hy3
  clear hc hl hy2 hy3
  refine (callsIn_wide (n := 5)).1 ?_
  refine callsIn_of_wp_marks Tryz.func89 rfl trivial ?_ rfl
  simp only [Tryz.ntmps89, List.size_toArray, List.length_cons, List.length_nil, Nat.reduceAdd, Nat.reduceSub, Array.replicate_succ, Array.replicate_zero, List.push_toArray, List.append_toArray, List.nil_append, List.cons_append]
  gi_wp2_with (first
    | (refine wpListIn_slice1 _ rfl (.tmp 10) rfl g off xs.length cap rfl hcap ?_; intro ao2 c2 hao)
    | (refine ⟨trivial, ?_⟩; gi_at_call 112; refine (back_in Fence.wide _ trivial rfl _ _ _ _).mono ?_; rintro e w' ⟨rfl, rfl⟩))
  have hA1 : Below w.heap.size w (w.alloc (.cells #[.pointer (some ⟨lb, 0, none⟩)] 34)) := (Below.refl _ _).alloc (Nat.le_refl _) _
  have hA2 := hA1.alloc (by simp only [World.size_alloc]; omega) (.cells #[.int .i64 0] 44)
  have hA3 := hA2.alloc (by simp only [World.size_alloc]; omega) (.cells #[.slice ao2 xs.length c2] 69)
  have hb1 : Cw (((w.alloc (.cells #[.pointer (some ⟨lb, 0, none⟩)] 34)).alloc (.cells #[.int .i64 0] 44)).alloc (.cells #[.slice ao2 xs.length c2] 69)) w.heap.size [.pointer (some ⟨lb, 0, none⟩)] 34 :=
    (Cw.new w [.pointer (some ⟨lb, 0, none⟩)] 34).below (((Below.refl _ _).alloc (Nat.le_refl _) _).alloc (by simp only [World.size_alloc]; omega) _) (by simp only [World.size_alloc]; omega)
  have hb2 : Cw (((w.alloc (.cells #[.pointer (some ⟨lb, 0, none⟩)] 34)).alloc (.cells #[.int .i64 0] 44)).alloc (.cells #[.slice ao2 xs.length c2] 69)) (w.heap.size + 1) [.int .i64 0] 44 := by
    have := (Cw.new (w.alloc (.cells #[.pointer (some ⟨lb, 0, none⟩)] 34)) [.int .i64 0] 44).below (w' := ((w.alloc (.cells #[.pointer (some ⟨lb, 0, none⟩)] 34)).alloc (.cells #[.int .i64 0] 44)).alloc (.cells #[.slice ao2 xs.length c2] 69)) ((Below.refl _ _).alloc (Nat.le_refl _) _) (by simp only [World.size_alloc]; omega)
    rwa [World.size_alloc] at this
  have hb3 : (((w.alloc (.cells #[.pointer (some ⟨lb, 0, none⟩)] 34)).alloc (.cells #[.int .i64 0] 44)).alloc (.cells #[.slice ao2 xs.length c2] 69)).cell? ⟨w.heap.size + 2, 0, none⟩ = some (.slice ao2 xs.length c2) := by
    have := (Cw.new ((w.alloc (.cells #[.pointer (some ⟨lb, 0, none⟩)] 34)).alloc (.cells #[.int .i64 0] 44)) [.slice ao2 xs.length c2] 69).cell 0
    rwa [World.size_alloc, World.size_alloc] at this
  have hsz0 : (((w.alloc (.cells #[.pointer (some ⟨lb, 0, none⟩)] 34)).alloc (.cells #[.int .i64 0] 44)).alloc (.cells #[.slice ao2 xs.length c2] 69)).heap.size = w.heap.size + 3 := by rw [World.size_alloc, World.size_alloc, World.size_alloc]
  generalize ((w.alloc (.cells #[.pointer (some ⟨lb, 0, none⟩)] 34)).alloc (.cells #[.int .i64 0] 44)).alloc (.cells #[.slice ao2 xs.length c2] 69) = W0 at *
  have hD := h.dl
  have hF := h.fl
  have hX : ∀ k, D k ∨ F k → k < w.heap.size := fun k hk => hk.elim (hD k) (hF k)
  have hI0 : EndI w D F lb sb u pre es las ns sz dead [] W0 := ⟨rfl, h.below hA3, hb1, hb2, by omega, ⟨hA3.os, hA3.tape, hA3.output, hA3.size, fun k hk _ => hA3.block k hk⟩⟩
  have hbk : Bk (w.heap.size + 3) (fun k => D k ∨ F k) W0 (.slice ao2 xs.length c2) ys := by
    refine ⟨⟨ao2, c2, by rw [hy1]⟩, by rw [hy1]; exact hfew, fun hne => ?_⟩
    have hn0 : xs.length ≠ 0 := fun e => hne (List.eq_nil_of_length_eq_zero (by rw [hy1, e]))
    refine ⟨g, off + 1, c2, by rw [hao hn0, hy1], by omega, fun e => e.elim hgD.1 hgD.2, fun k y hk => ?_⟩
    obtain ⟨e1, e2⟩ := HY3.out k y hk
    refine ⟨by rw [hy1]; exact e1, ?_⟩
    have := HC.out (y.1 + 1) y.2.1 (by simpa using e2)
    rw [hA3.cell (p := ⟨g, off + 1 + y.1, none⟩) hgl, show off + 1 + y.1 = off + (y.1 + 1) by omega]
    exact this
  refine wpIn_rangeFunc_ownG rfl (by omega) (gf := 130) (lb := #[.pointer (some ⟨w.heap.size + 2, 0, none⟩)]) rfl trivial (enters_of Tryz.func130 (by kernel_rfl) rfl)
    (back_stops Fence.wide 4 trivial rfl (by omega) (w.heap.size + 2) (w.heap.size + 3) (fun k => D k ∨ F k) _ ys W0 ⟨by omega, fun e => by have := hX _ e; omega⟩ (by omega) hb3 hbk)
    (fun a b => a.trans b) (fun W l o o' hl ho _ _ => Kp.put W l o o' (by omega) ho) (Below.refl _ _) (fun _ => rfl)
    (EndI w D F lb sb u pre es las ns sz dead) (EndX w D F lb sb u pre es las ns sz dead)
    (EndI.own hD hF _ (by omega)) (EndX.own hD hF _ (by omega)) hI0
    (fun y => { tmps := #[.pointer (some ⟨lb, 0, none⟩), .slice (some ⟨g, off, none⟩) (xs.length + 1) cap, .int .i64 (good : Int), .pointer (some ⟨w.heap.size, 0, none⟩), undef, undef, .pointer (some ⟨w.heap.size + 1, 0, none⟩), undef, encStr y.2.1, undef, .slice (some ⟨g, off, none⟩) (xs.length + 1) cap, .slice ao2 xs.length c2, .func (.func 130) #[] #[.pointer (some ⟨w.heap.size + 2, 0, none⟩)], .int .i64 (y.1 : Int), encStr y.2.1, undef, undef, undef, undef, undef, undef, undef, undef, undef, undef, undef, undef, undef, undef, undef, undef, undef, undef, undef, undef], defers := [] }) ?assign ?body ?done ?stop
  case assign =>
    intro l y W K hK
    gi_wp2
    exact hK
  case body =>
    rintro l pr y W hI hlt
    have hnm : nmsA (pr ++ [y]) = nmsA pr ++ [y.2.1] := by simp [nmsA]
    have hsn := allU_snoc rmU (nmsA pr) u y.2.1 hI.ok
    rw [← hnm] at hsn
    have CR := askRemoveM hI.ld y.2.1 y.2.2
    rw [← hsn] at CR
    have cb : W.cell? ⟨w.heap.size, 0, none⟩ = some (.pointer (some ⟨lb, 0, none⟩)) := hI.box.cell 0
    have HI := hid_into hI
    obtain ⟨r, hr⟩ : ∃ r, allU rmU u (nmsA (pr ++ [y])) = r := ⟨_, rfl⟩
    rw [hr] at CR
    have HR := hid_into hr
    clear hI hsn hnm hr hI0
    gi_wp2_with (refine ⟨trivial, ?_⟩; gi_at_call 55; refine (CallsIn.inRound l (callsIn_wide.2 CR)).mono ?_; rintro e W2 ⟨rfl, hld2, hg2⟩; have hbox2 := HI.out.box.keep (hg2.block _ HI.out.box.lt fun e => by have := hX _ e; omega); have hres2 := HI.out.res.keep (hg2.block _ HI.out.res.lt fun e => by have := hX _ e; omega); have cr2 : W2.cell? ⟨w.heap.size + 1, 0, none⟩ = some (.int .i64 0) := hres2.cell 0; have fr2 : W2.frozen? ⟨w.heap.size + 1, 0, none⟩ = false := hres2.frozen 0)
    · have hgg : Grows (fun k => D k ∨ F k) w W2 := HI.out.g.trans hg2 fun k hk => Or.inl hk
      have hne : r.1 ≠ 0 := by
        have : (r.1 != 0) = true := by assumption
        simpa using this
      have hlb := hld2
      have ho : ∀ k, k < w.heap.size → (W2.setCell ⟨w.heap.size + 1, 0, none⟩ (.int .i64 r.1)).heap[k]? = W2.heap[k]? := fun k hk => set_other _ _ _ _ _ (by omega)
      have hld3 : Ld (W2.setCell ⟨w.heap.size + 1, 0, none⟩ (.int .i64 r.1)) D F lb sb r.2 pre es las ns sz (if r.1 = 0 ∨ r.1 = 6 then dead else true) := by
        obtain ⟨ev, nv, hl⟩ := hld2.l
        exact ⟨hld2.d.keep fun k hk _ => ho k (hD k hk), ⟨ev, nv, hl.keep (by rw [set_size]; exact Nat.le_refl _) fun k hk _ => ho k (hF k hk)⟩, fun k hk => by rw [set_size]; exact hld2.dl k hk, fun k hk => by rw [set_size]; exact hld2.fl k hk, hld2.ap⟩
      have hg3 : Grows (fun k => D k ∨ F k) w (W2.setCell ⟨w.heap.size + 1, 0, none⟩ (.int .i64 r.1)) := ⟨hgg.os, hgg.tape, hgg.output, by rw [set_size]; exact hgg.size, fun k hk hx => (ho k hk).trans (hgg.block k hk hx)⟩
      refine ⟨?_, rfl, by rw [HR.out]; exact hne, by rw [HR.out]; exact hld3, by rw [HR.out]; exact hres2.set 0 _, hg3⟩
      exact (KeepsFrom.of _ hg2 fun k hk => by have := hX k hk; omega).trans ((KeepsOthers.setCell _ _ _).from _)
    · have hgg : Grows (fun k => D k ∨ F k) w W2 := HI.out.g.trans hg2 fun k hk => Or.inl hk
      have h0 : r.1 = 0 := by
        have : (r.1 != 0) = false := by assumption
        simpa using this
      rw [if_pos (Or.inl h0)] at hld2
      exact ⟨KeepsFrom.of _ hg2 fun k hk => by have := hX k hk; omega, Kp.of _ hg2 HI.out.s3, by rw [HR.out]; exact h0, by rw [HR.out]; exact hld2, hbox2, hres2, Nat.le_trans HI.out.s3 hg2.size, hgg⟩
  case done =>
    rintro D' zs W hD' rfl hI hK
    have hok := hI.ok
    have hld := hI.ld
    rw [HY2.out] at hok hld
    have HRE := HRR.out
    unfold endF at HRE
    rw [if_neg (by rw [hok]; exact fun e => e rfl)] at HRE
    generalize (allU rmU u xs.reverse).2 = u2 at *
    have hnd : ¬ (D g ∨ F g) := fun e => e.elim hgD.1 hgD.2
    have cb : W.cell? ⟨w.heap.size, 0, none⟩ = some (.pointer (some ⟨lb, 0, none⟩)) := hI.box.cell 0
    have cg : W.cell? ⟨g, off, none⟩ = some (encStr x) := by
      rw [World.cell?_of_block (w := w) (hI.g.block g hgl hnd)]
      exact HC.out 0 x rfl
    have hxl := HL.out x (by simp)
    have HW : Hid (∀ W2, LRes W.drew D F lb sb pre R.2 es las ns sz dd W2 → W2.cell? ⟨w.heap.size, 0, none⟩ = some (.pointer (some ⟨lb, 0, none⟩)) ∧ W2.cell? ⟨g, off, none⟩ = some (encStr x) ∧ Cw W2 (w.heap.size + 1) [.int .i64 0] 44 ∧ ∀ v, (W2.setCell ⟨w.heap.size + 1, 0, none⟩ v).cell? ⟨w.heap.size, 0, none⟩ = some (.pointer (some ⟨lb, 0, none⟩)) ∧ (W2.setCell ⟨w.heap.size + 1, 0, none⟩ v).cell? ⟨g, off, none⟩ = some (encStr x)) := fun W2 h2 => by
      obtain ⟨D2, F2, _, _, _, h4⟩ := h2
      have hlt := hI.s3
      have k1 : W2.cell? ⟨w.heap.size, 0, none⟩ = some (.pointer (some ⟨lb, 0, none⟩)) := by
        rw [World.cell?_of_block (w := W.drew) (h4.block w.heap.size (by show w.heap.size < W.heap.size; omega) fun e => by have := hX _ e; omega)]; exact cb
      have k2 : W2.cell? ⟨g, off, none⟩ = some (encStr x) := by
        rw [World.cell?_of_block (w := W.drew) (h4.block g (by show g < W.heap.size; omega) hnd)]; exact cg
      refine ⟨k1, k2, (show Cw W.drew (w.heap.size + 1) [.int .i64 0] 44 from hI.res).keep (h4.block (w.heap.size + 1) (by show w.heap.size + 1 < W.heap.size; omega) fun e => by have := hX _ e; omega), fun v => ⟨?_, ?_⟩⟩
      · have hne : w.heap.size ≠ w.heap.size + 1 := by omega
        rw [World.cell?_of_block (w := W2) (set_other _ _ _ _ _ hne)]; exact k1
      · have hne : g ≠ w.heap.size + 1 := by omega
        rw [World.cell?_of_block (w := W2) (set_other _ _ _ _ _ hne)]; exact k2
    have HFIN : Hid (∀ W2 v, LRes W.drew D F lb sb pre R.2 es las ns sz dd W2 → LRes w D F lb sb pre R.2 es las ns sz dd ((W2.setCell ⟨w.heap.size + 1, 0, none⟩ v).putObj D' (.deferred none))) := fun W2 v h2 => by
      have hlt := hI.s3
      exact h2.fin2 hX ⟨hI.g.os, hI.g.tape, hI.g.output, hI.g.size, hI.g.block⟩ (by show w.heap.size + 1 < W.heap.size; omega) (by omega) (Array.getElem?_eq_some_iff.1 hK).1 v _
    have HKD : Hid (∀ W2 v, LRes W.drew D F lb sb pre R.2 es las ns sz dd W2 → (W2.setCell ⟨w.heap.size + 1, 0, none⟩ v).heap[D']? = some (.deferred (some []))) := fun W2 v h2 => by
      obtain ⟨D2, F2, _, _, _, h4⟩ := h2
      have h5 := h4.block D' (Array.getElem?_eq_some_iff.1 hK).1 fun e => by have := hX _ e; omega
      exact (KeepsOthers.setCell W2 ⟨w.heap.size + 1, 0, none⟩ v).same D' _ (h5.trans hK) rfl
    by_cases hg0 : good = 0
    · subst hg0
      rw [if_pos rfl] at HRE
      have CR : Calls Tryz.prog 55 #[.pointer (some ⟨lb, 0, none⟩), .func (.func 113) #[] #[], encStr x] W.drew fun e W2 => e = .returned (.int .i64 R.1) ∧ LRes W.drew D F lb sb pre R.2 es las ns sz dd W2 := by
        have hs : Sm W W.drew := ⟨rfl, rfl, rfl, rfl⟩
        refine (askRemove (hld.sm hs) x hxl).mono fun e W2 hG => ?_
        have := GtP.res (hld.sm hs) _ hG
        rw [HRE, HDD.out] at this
        exact this
      clear hI hld hok hI0 HRE h HC HL
      gi_wp2
      refine wpIn_wide.2 ?_
      go_region_held3 (fun w' => w'.cell? ⟨w.heap.size, 0, none⟩ = some (.pointer (some ⟨lb, 0, none⟩)) ∧ w'.cell? ⟨g, off, none⟩ = some (encStr x)) (first | assumption | exact ⟨cb, cg⟩ | exact hS5 _)
        (first | (go_at_call 55; refine CR.mono ?_; rintro e W2 ⟨rfl, hR2⟩; have hS2 := (HW.out W2 hR2).1; have hS3 := (HW.out W2 hR2).2.1; have hS23 := And.intro hS2 hS3; have hr2 := (HW.out W2 hR2).2.2.1; have hS5 := (HW.out W2 hR2).2.2.2; have cr2 : W2.cell? ⟨w.heap.size + 1, 0, none⟩ = some (.int .i64 0) := hr2.cell 0; have fr2 : W2.frozen? ⟨w.heap.size + 1, 0, none⟩ = false := hr2.frozen 0))
      gi_wp2
      have hkd := HKD.out W2 (.int .i64 R.1) hR2
      refine ⟨by simp, .inl ⟨_, _, rfl, run_takeDeferred hkd, ?_⟩⟩
      have hc5 := cell_kept (World.cell?_setCell_same' W2 ⟨w.heap.size + 1, 0, none⟩ (.int .i64 R.1) (by rw [cr2]; rfl)) (grownBy_putObj' _ D' (.deferred none)) (fun r e => by cases e; exact ⟨_, hkd, rfl⟩)
      refine ⟨.int .i64 R.1, ?_, rfl, HFIN.out W2 _ hR2⟩
      simp [results, go_sem, hc5]
    · have hbg : ((good : Int) == 0) = false := by simp [hg0]
      rw [if_neg hg0] at HRE
      have hs1 : Sm W W.drew := ⟨rfl, rfl, rfl, rfl⟩
      have CI := fun (w1 : World) => withI_any 41 (good : Int) w1
      have CR : Hid (∀ w1 w2, Below W.drew.heap.size W.drew w1 → Two w1 w2 (.func (.func 41) #[] #[]) (.int .i64 (good : Int)) → Calls Tryz.prog 55 #[.pointer (some ⟨lb, 0, none⟩), .func (.func 132) #[] #[.pointer (some ⟨w1.heap.size, 0, none⟩), .pointer (some ⟨w1.heap.size + 1, 0, none⟩)], encStr x] w2 fun e W2 => e = .returned (.int .i64 R.1) ∧ LRes W.drew D F lb sb pre R.2 es las ns sz dd W2) := by
        intro w1 w2 hb1 ht
        have hb2 : Below W.drew.heap.size W.drew w2 := hb1.trans (ht.below.mono hb1.size)
        have hl2 := (hld.sm hs1).below hb2
        refine (askCut hl2 x hxl (good : Int) (by simp [Lit.wf, IntKind.min, IntKind.max, IntKind.signed, IntKind.bits]; omega) w1.heap.size ht.fst ht.snd).mono fun e W2 hG => ?_
        have := GtP.res hl2 _ hG
        rw [HRE, HDD.out] at this
        exact ⟨this.1, LRes.after hb2 this.2⟩
      have HT : Hid (∀ w2, Two W.drew w2 (.func (.func 41) #[] #[]) (.int .i64 (good : Int)) → w2.cell? ⟨w.heap.size, 0, none⟩ = some (.pointer (some ⟨lb, 0, none⟩)) ∧ w2.cell? ⟨g, off, none⟩ = some (encStr x)) := fun w2 ht => by
        have hlt := hI.s3
        exact ⟨(ht.below.cell (p := ⟨w.heap.size, 0, none⟩) (by show w.heap.size < W.heap.size; omega)).trans cb, (ht.below.cell (p := ⟨g, off, none⟩) (by show g < W.heap.size; omega)).trans cg⟩
      clear hI hld hok hI0 HRE h HC HL
      gi_wp2
      refine wpIn_wide.2 ?_
      go_region_held3 (fun w' => w'.cell? ⟨w.heap.size, 0, none⟩ = some (.pointer (some ⟨lb, 0, none⟩)) ∧ w'.cell? ⟨g, off, none⟩ = some (encStr x)) (first | assumption | exact ⟨cb, cg⟩ | exact hS5 _)
        (first
          | (go_at_call 114; refine (CI _).mono ?_; rintro e w2 ⟨rfl, ht⟩; have hS1 := HT.out w2 ht)
          | (go_at_call 55; refine (CR.out W.drew w2 (Below.refl _ _) ht).mono ?_; rintro e W2 ⟨rfl, hR2⟩; have hS2 := (HW.out W2 hR2).1; have hS3 := (HW.out W2 hR2).2.1; have hS23 := And.intro hS2 hS3; have hr2 := (HW.out W2 hR2).2.2.1; have hS5 := (HW.out W2 hR2).2.2.2; have cr2 : W2.cell? ⟨w.heap.size + 1, 0, none⟩ = some (.int .i64 0) := hr2.cell 0; have fr2 : W2.frozen? ⟨w.heap.size + 1, 0, none⟩ = false := hr2.frozen 0))
      all_goals
        gi_wp2
        have hkd := HKD.out W2 (.int .i64 R.1) hR2
        refine ⟨by simp, .inl ⟨_, _, rfl, run_takeDeferred hkd, ?_⟩⟩
        have hc5 := cell_kept (World.cell?_setCell_same' W2 ⟨w.heap.size + 1, 0, none⟩ (.int .i64 R.1) (by rw [cr2]; rfl)) (grownBy_putObj' _ D' (.deferred none)) (fun r e => by cases e; exact ⟨_, hkd, rfl⟩)
        refine ⟨.int .i64 R.1, ?_, rfl, HFIN.out W2 _ hR2⟩
        simp [results, go_sem, hc5]
  case stop =>
    rintro D' c pr W hD' ⟨k, hk, rfl⟩ hXx hK
    obtain rfl := hXx.c
    have hst := allU_stop rmU (nmsA (ys.take k)) (nmsA (ys.drop k)) u hXx.bad
    have hap : nmsA (ys.take k) ++ nmsA (ys.drop k) = xs.reverse := by
      rw [← HY2.out]
      unfold nmsA
      rw [← List.map_append, List.take_append_drop]
    rw [hap] at hst
    have HRE := HRR.out
    unfold endF at HRE
    rw [if_pos (by rw [hst]; exact hXx.bad), hst] at HRE
    have hld := hXx.ld
    have hrs := hXx.res
    rw [HRE] at hld hrs
    rw [HDD.out] at hld
    have hgr := hXx.g
    have cr2 : W.cell? ⟨w.heap.size + 1, 0, none⟩ = some (.int .i64 R.1) := hrs.cell 0
    clear hXx hI0 h HRE hst
    gi_wp2
    refine ⟨by simp, .inl ⟨_, _, rfl, run_takeDeferred hK, ?_⟩⟩
    have hc5 := cell_kept cr2 (grownBy_putObj' _ D' (.deferred none)) (fun r e => by cases e; exact ⟨_, hK, rfl⟩)
    have g2 := grownBy_putObj' W D' (.deferred none)
    refine ⟨.int .i64 R.1, ?_, rfl, ⟨D, F, hld.grown g2 fun r e => by cases e; exact ⟨fun e2 => by have := hD _ e2; omega, fun e2 => by have := hF _ e2; omega⟩, fun k hk => Or.inl hk, fun k hk => Or.inl hk, hgr.grown g2 fun r e => by cases e; omega⟩⟩
    simp [results, go_sem, hc5]
end Go.Proofs.YtnkjhooeklodcaaGreatDoor
end

section
/-
  What take answers, and an opening's step, in plain words.
-/
namespace Go.Proofs.YtnkjhooeklodcaaGreatDoor
open Go.RowKit Go.Maps Go.Sort
open Fr (takeR decN decE decP numR)

variable {w w' : World} {D F : Nat → Prop} {lb sb : Nat} {u : Ud} {pre : List UInt8} {es : List En} {las : Nat} {ns : List (List UInt8)} {sz : Nat} {dead : Bool}
theorem Tk.zero {n : Nat} {zs : List Int} {ps : List (List Int)} (h : Tk n zs ps 0) : ps = [] := by
  cases ps with
  | nil => rfl
  | cons p ps =>
    have := (takeR_some h.1).1
    have := h.2.1
    omega
theorem TakeP.good {x : List UInt8} {zs : List Int} {e : Ending} (h : TakeP w F lb sb pre es las ns sz dead x zs e w') (hs : isSeg x pre = true) (hn : es.length + 1 < 100000000) (hA : numV (x.drop pre.length) = es.length + 1 ∧ (rdF es.length zs).2 = zs.length) :
    e = .returned (.tuple #[.int .i64 (zs.length : Int), .bool true]) ∧ ∃ es' : List En, es'.map (·.2) = (rdF es.length zs).1 ∧ Grows F w w' ∧ ∃ ev nv, Lg w' (Pl F w.heap.size) lb sb pre ev nv (es ++ es') las (ns ++ [x]) (rdF es.length zs).2 dead := by
  obtain ⟨hg, h⟩ := h
  have hx := (seg_name hs hn).2 hA.1
  rcases h with ⟨h1, _⟩ | ⟨_, es', m, h1, h2, he, ev, nv, hl⟩
  · exact absurd hx h1
  · have hl' : (es'.map (·.2)).length = es'.length := by simp
    have hr := rdF_eq h1 (by rw [hl']; exact h2)
    rw [hr] at hA ⊢
    obtain rfl : m = zs.length := hA.2
    rw [if_pos (Or.inr rfl), if_pos (Or.inr rfl)] at hl
    refine ⟨by rw [he, decide_eq_true rfl], es', rfl, hg, ev, nv, hl⟩
theorem TakeP.bad {x : List UInt8} {zs : List Int} {e : Ending} (h : TakeP w F lb sb pre es las ns sz dead x zs e w') (hs : isSeg x pre = true) (hn : es.length + 1 < 100000000) (hA : ¬ (numV (x.drop pre.length) = es.length + 1 ∧ (rdF es.length zs).2 = zs.length)) :
    e = .returned (.tuple #[.int .i64 ((if numV (x.drop pre.length) = es.length + 1 then (rdF es.length zs).2 else 0 : Nat) : Int), .bool false]) ∧
      ∃ es' : List En, es'.map (·.2) = (if numV (x.drop pre.length) = es.length + 1 then (rdF es.length zs).1 else []) ∧ Grows F w w' ∧
        ∃ ev nv, Lg w' (Pl F w.heap.size) lb sb pre ev nv (es ++ es') las (if numV (x.drop pre.length) = es.length + 1 ∧ (rdF es.length zs).2 ≠ 0 then ns ++ [x] else ns) (if numV (x.drop pre.length) = es.length + 1 ∧ (rdF es.length zs).2 ≠ 0 then (rdF es.length zs).2 else sz) dead := by
  obtain ⟨hg, h⟩ := h
  rcases h with ⟨h1, he, ev, nv, hl⟩ | ⟨h0, es', m, h1, h2, he, ev, nv, hl⟩
  · have hc : ¬ numV (x.drop pre.length) = es.length + 1 := fun e => h1 ((seg_name hs hn).2 e)
    rw [if_neg hc, if_neg hc, if_neg (fun e => hc e.1), if_neg (fun e => hc e.1)]
    exact ⟨he, [], rfl, hg, ev, nv, by rw [List.append_nil]; exact hl⟩
  · have hc : numV (x.drop pre.length) = es.length + 1 := (seg_name hs hn).1 h0
    have hl' : (es'.map (·.2)).length = es'.length := by simp
    have hr := rdF_eq h1 (by rw [hl']; exact h2)
    rw [hr] at hA ⊢
    have hm : ¬ m = zs.length := fun e => hA ⟨hc, e⟩
    rw [if_pos hc, if_pos hc]
    refine ⟨by rw [he, decide_eq_false hm], es', rfl, hg, ev, nv, ?_⟩
    by_cases h0 : m = 0
    · rw [if_neg (fun e => e.elim (fun e => by omega) hm), if_neg (fun e => e.elim (fun e => by omega) hm)] at hl
      rw [if_neg (fun e => e.2 h0), if_neg (fun e => e.2 h0)]
      exact hl
    · rw [if_pos (Or.inl (by omega)), if_pos (Or.inl (by omega))] at hl
      rw [if_pos ⟨hc, h0⟩, if_pos ⟨hc, h0⟩]
      exact hl
theorem opF_ok {x : Nm} {xs : List Nm} {next : Nat} (hA : numV (x.drop pre.length) = next ∧ (rdF (next - 1) (at0U u.us x).1).2 = (at0U u.us x).1.length) (sz : Nat) :
    opF pre u (x :: xs) next = ((opF pre u xs (next + (rdF (next - 1) (at0U u.us x).1).1.length)).1, (rdF (next - 1) (at0U u.us x).1).1 ++ (opF pre u xs (next + (rdF (next - 1) (at0U u.us x).1).1.length)).2.1, next :: (opF pre u xs (next + (rdF (next - 1) (at0U u.us x).1).1.length)).2.2) ∧
    opS pre u (x :: xs) next sz = opS pre u xs (next + (rdF (next - 1) (at0U u.us x).1).1.length) (rdF (next - 1) (at0U u.us x).1).2 := by
  constructor
  · simp only [opF]; rw [if_pos hA]
  · simp only [opS]; rw [if_pos hA]
theorem opF_end {x : Nm} {xs : List Nm} {next : Nat} (hA : ¬ (numV (x.drop pre.length) = next ∧ (rdF (next - 1) (at0U u.us x).1).2 = (at0U u.us x).1.length)) (sz : Nat) :
    (opF pre u (x :: xs) next).1 = endF u x xs (if numV (x.drop pre.length) = next then (rdF (next - 1) (at0U u.us x).1).2 else 0) ∧
    ((opF pre u (x :: xs) next).1.1 = 0 → (opF pre u (x :: xs) next).2.1 = (if numV (x.drop pre.length) = next then (rdF (next - 1) (at0U u.us x).1).1 else []) ∧
      (opF pre u (x :: xs) next).2.2 = (if numV (x.drop pre.length) = next ∧ (rdF (next - 1) (at0U u.us x).1).2 ≠ 0 then [next] else []) ∧
      opS pre u (x :: xs) next sz = (if numV (x.drop pre.length) = next ∧ (rdF (next - 1) (at0U u.us x).1).2 ≠ 0 then (rdF (next - 1) (at0U u.us x).1).2 else sz)) := by
  obtain ⟨k1, _⟩ := rdF_spec (next - 1) (at0U u.us x).1
  simp only [opF, opS]
  rw [if_neg hA, if_neg hA]
  unfold endF
  by_cases h1 : (allU rmU u xs.reverse).1 ≠ 0
  · rw [if_pos h1, if_pos h1]
    exact ⟨rfl, fun e => absurd e h1⟩
  · rw [if_neg h1, if_neg h1]
    generalize rdF (next - 1) (at0U u.us x).1 = rd at *
    by_cases hc : numV (x.drop pre.length) = next
    · by_cases h0 : rd.2 = 0
      · rw [h0] at k1
        have hz := Tk.zero k1
        simp [hc, h0, hz]
      · simp [hc, h0]
    · simp [hc]
end Go.Proofs.YtnkjhooeklodcaaGreatDoor
end
