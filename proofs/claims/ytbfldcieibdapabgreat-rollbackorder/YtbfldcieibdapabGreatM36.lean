/-
  Joined from: RbDuo.
-/
import Derived.Test.YtbfldcieibdapabGreatM21
import Derived.Test.YtbfldcieibdapabGreatM09
import Derived.Test.YtbfldcieibdapabGreatM22
import Derived.Test.YtbfldcieibdapabGreatM35
section
/-
  What the laws of this seat share: two sessions in one memory (Bp), small work (Wk), slow, rows of one's own (pairs, places), picks.
-/
namespace Go.Proofs.YtbfldcieibdapabGreat
open Go.RowKit
/-- What one step may add to the work. -/
structure Wk (s : Sa) (n : Nat) : Prop where
  a : 0 ≤ s.st ∧ s.st ≤ 600 * (n : Int)
  b : 0 ≤ s.wr ∧ s.wr ≤ (n : Int)
theorem Wk.new (me cap : Int) : Wk (newS me cap) 0 := ⟨⟨Int.le_refl _, Int.le_refl _⟩, ⟨Int.le_refl _, Int.le_refl _⟩⟩
theorem Wk.loc {s : Sa} {n : Nat} (h : Wk s n) (G : Gm) (x : Int) : Wk (locS s G x) (n + 1) := by
  have h1 := h.a
  have h2 := h.b
  unfold locS
  split
  · exact ⟨by show 0 ≤ s.st + 1 ∧ s.st + 1 ≤ 600 * ((n + 1 : Nat) : Int); omega, by show 0 ≤ s.wr + 0 ∧ s.wr + 0 ≤ ((n + 1 : Nat) : Int); omega⟩
  · exact ⟨by omega, by omega⟩
theorem Wk.rem {s : Sa} {n : Nat} (h : Wk s n) {G : Gm} (hG : G.Ok) (hs : s.Ok G) (f : Int) {x : Int} (hx : 0 ≤ x ∧ x < 65536) : Wk (remS s G f x) (n + 1) := by
  have h1 := h.a
  have h2 := h.b
  unfold remS
  split
  · rename_i c
    obtain ⟨hr, _⟩ := remA_go c
    split
    · rename_i c2
      obtain ⟨c2, _⟩ := c2
      have hfk := hr.fk
      generalize f.toNat = k at *
      subst hfk
      have g1 := (hs.fit.hear (f := k) hx).gs hG (s.hear k x).P
      have hcap := (chkG_cap hG.c).2.2.1
      have hle : (((s.hear k x).now G).frame) ≤ 600 := Int.le_trans g1.f1 hcap
      have hge : (k : Int) ≤ ((s.hear k x).now G).frame := by
        obtain ⟨⟨m, m1, m2, m3, m4, m5⟩, mo⟩ := way s G s.P
        have hkm : k < m := by rw [show s.now G = s.at G s.P from rfl, m2] at c2; omega
        have e1 : (s.hear k x).at G k = s.at G k := Sa.at_congr fun j hj => Sa.hear_use hs.fit hr.cap x hj
        have e2 := m3 k (by omega)
        rw [← e1] at e2
        rw [← e2]
        exact Sa.at_frame_mono (s.hear k x) G (show k ≤ (s.hear k x).P by show k ≤ s.P; omega)
      exact ⟨by show 0 ≤ s.st + (((s.hear k x).now G).frame - (k : Int)) ∧ s.st + (((s.hear k x).now G).frame - (k : Int)) ≤ 600 * ((n + 1 : Nat) : Int); omega, by show 0 ≤ s.wr + 1 ∧ s.wr + 1 ≤ ((n + 1 : Nat) : Int); omega⟩
    · exact ⟨by show 0 ≤ s.st ∧ s.st ≤ 600 * ((n + 1 : Nat) : Int); omega, by show 0 ≤ s.wr ∧ s.wr ≤ ((n + 1 : Nat) : Int); omega⟩
  · exact ⟨by omega, by omega⟩
theorem Wk.st {s : Sa} {n : Nat} (h : Wk s n) (hn : n ≤ 1000000) : (0 ≤ s.st ∧ s.st < 4611686018427300000) ∧ (0 ≤ s.wr ∧ s.wr < 4611686018427300000) := by
  have h1 := h.a
  have h2 := h.b
  exact ⟨⟨by omega, by omega⟩, ⟨by omega, by omega⟩⟩
/-- Is that game more than is looked at? -/
def slw (n : Nat) (fuel : Int) : Bool := decide (120 < n ∨ (300 < fuel ∧ fuel ≤ 2000))
theorem slow_any (ao : Option Addr) (n cp : Nat) (cap fuel : Int) (w : World) : Calls Tryz.prog 5 #[.agg #[.slice ao n cp, .int .i64 cap, .int .i64 fuel]] w fun e w' => e = .returned (.bool (slw n fuel)) ∧ Below w.heap.size w w' := by
  by_cases h1 : 120 < n
  · have h1' : (120 : Int) < n := by omega
    rw [show slw n fuel = true by simp [slw, h1]]
    go_enter Tryz.func5, Tryz.ntmps5
    go_wp2
    go_ret
    exact ⟨rfl, (Below.refl _ _).alloc (Nat.le_refl _) _⟩
  · have h1' : (n : Int) ≤ 120 := by omega
    by_cases h2 : 300 < fuel
    · by_cases h3 : fuel ≤ 2000
      · rw [show slw n fuel = true by simp [slw, h2, h3]]
        go_enter Tryz.func5, Tryz.ntmps5
        go_wp2
        go_ret
        exact ⟨rfl, (Below.refl _ _).alloc (Nat.le_refl _) _⟩
      · rw [show slw n fuel = false by simp [slw]; omega]
        go_enter Tryz.func5, Tryz.ntmps5
        go_wp2
        go_ret
        exact ⟨by simp [Array.getD]; omega, (Below.refl _ _).alloc (Nat.le_refl _) _⟩
    · rw [show slw n fuel = false by simp [slw]; omega]
      go_enter Tryz.func5, Tryz.ntmps5
      go_wp2
      go_ret
      exact ⟨by simp [Array.getD]; omega, (Below.refl _ _).alloc (Nat.le_refl _) _⟩
theorem bits_and (a : Int) (m : Nat) (hm : m < 65536) : bits .and .i64 a (m : Int) = (((BitVec.ofInt 64 a).toNat &&& m : Nat) : Int) := by
  have e : bits .and .i64 a (m : Int) = IntKind.i64.wrap (((BitVec.ofInt 64 a &&& BitVec.ofInt 64 (m : Int)).toNat : Nat) : Int) := rfl
  have hb : (BitVec.ofInt 64 a &&& BitVec.ofInt 64 (m : Int)).toNat = (BitVec.ofInt 64 a).toNat &&& m := by
    rw [BitVec.toNat_and]
    have : (BitVec.ofInt 64 (m : Int)).toNat = m := by
      rw [BitVec.ofInt_natCast, BitVec.toNat_ofNat]
      omega
    rw [this]
  have hlt : (BitVec.ofInt 64 a).toNat &&& m < 65536 := Nat.lt_of_le_of_lt Nat.and_le_right hm
  rw [e, hb]
  generalize (BitVec.ofInt 64 a).toNat &&& m = n at *
  simp [IntKind.wrap, IntKind.bits, IntKind.signed]
  omega
theorem and3 (a : Int) : bits .and .i64 a 3 = a % 4 := by
  have h := bits_and a 3 (by decide)
  rw [show (((3 : Nat)) : Int) = 3 from rfl] at h
  rw [h, show (3 : Nat) = 2 ^ 2 - 1 from rfl, Nat.and_two_pow_sub_one_eq_mod, BitVec.toNat_ofInt]
  omega
theorem and1 (a : Int) : bits .and .i64 a 1 = a % 2 := by
  have h := bits_and a 1 (by decide)
  rw [show (((1 : Nat)) : Int) = 1 from rfl] at h
  rw [h, show (1 : Nat) = 2 ^ 1 - 1 from rfl, Nat.and_two_pow_sub_one_eq_mod, BitVec.toNat_ofInt]
  omega
section
variable {o : Oper} {a : Act} {w w' : World} {ops : Array Oper}
/-- An append whose run is known. -/
theorem step_append_eq {K : Act → World → Prop} {Q : Exit → Act → World → Prop} {E : Prop} (hgd : o.guard = none) (t : TypeId) (s x : Operand) (ho : o.op = .call { callee := .builtin .append, args := #[s, x], argTypes := #[t, t] })
    (v u v' : Value) (hs : a.eval s = v) (hx : a.eval x = u) (hr : ∀ ty, (Builtin.append_ #[t, t] ty #[v, u]).run Tryz.prog w = .ok v' w') (h : K (a.put o.dst v') w') : if Region.wanted o (yielded ops a.tmps) = true then Oper.wp Tryz.prog o a w K Q else E := by
  have hw : Region.wanted o (yielded ops a.tmps) = true := by simp [Region.wanted, hgd]
  rw [if_pos hw]
  unfold Oper.wp execOp
  simp only [ho, resolve, invoke, builtin, Sem.run_bind, Sem.run_pure, Result.andThen_ok, List.map_toArray, List.map_cons, List.map_nil, hs, hx, hr]
  exact h
theorem wpList_append_eq {rest : List Oper} {Q : Exit → Act → World → Prop} (hgd : o.guard = none) (t : TypeId) (s x : Operand) (ho : o.op = .call { callee := .builtin .append, args := #[s, x], argTypes := #[t, t] })
    (v u v' : Value) (hs : a.eval s = v) (hx : a.eval x = u) (hr : ∀ ty, (Builtin.append_ #[t, t] ty #[v, u]).run Tryz.prog w = .ok v' w') (h : wpList Tryz.prog ops Q rest (a.put o.dst v') w') : wpList Tryz.prog ops Q (o :: rest) a w := by
  refine wpList_plain hgd fun _ hK => ?_
  unfold Oper.wp execOp
  simp only [ho, resolve, invoke, builtin, Sem.run_bind, Sem.run_pure, Result.andThen_ok, List.map_toArray, List.map_cons, List.map_nil, hs, hx, hr]
  exact hK _ _ h
end
/-- A pair behind a row of pairs of the call's own. -/
theorem app1 {wr : World} {B : Nat} {v : Value} {xs : List (Int × Int)} (a b : Int) (hp : Po wr B v xs) (hl : xs.length ≤ 1000) (hB : B ≤ wr.heap.size) (W : World) (hW : W.heap = (wr.alloc (.cells #[.int .u16 a, .int .u16 b] 41)).heap) (hb0 : Below B wr W) :
    ∃ v' w', (∀ ty, (Builtin.append_ #[39, 39] ty #[v, .slice (some ⟨wr.heap.size, 0, none⟩) 1 1]).run Tryz.prog W = .ok v' w') ∧ Po w' B v' (xs ++ [(a, b)]) ∧ Below B wr w' := by
  have hsz : W.heap.size = wr.heap.size + 1 := by rw [hW, World.size_alloc]
  have hn : Po W B v xs := hp.keep fun k _ hk => by rw [hW]; exact Below.heap_alloc _ _ _ hk
  have hq : Ps W (.slice (some ⟨wr.heap.size, 0, none⟩) 1 1) [(a, b)] := Ps_of_block (l := [(a, b)]) (by rw [hW]; exact heap_alloc_new wr _) (by unfold maxLen; simp)
  obtain ⟨ao, cap, w2, hr, h2, h3, h4⟩ := run_append_ps W B 39 v xs hn _ [(a, b)] hq (by simp; omega) (by omega)
  refine ⟨_, w2, fun ty => hr, by simpa using h2, ⟨h3.os.trans hb0.os, h3.tape.trans hb0.tape, h3.output.trans hb0.output, Nat.le_trans hb0.size h3.size, fun k hk => ?_⟩⟩
  refine (h3.block k (by omega) fun e => ?_).trans (hb0.block k hk)
  have := (hp.lt k e.symm).1
  omega
/-- The first so many of a row of pairs. -/
def frst (f : Nat → Int × Int) (k : Nat) : List (Int × Int) := (List.range k).map f
theorem frst_succ (f : Nat → Int × Int) (k : Nat) : frst f (k + 1) = frst f k ++ [f k] := by simp [frst, List.range_succ]
theorem frst_len (f : Nat → Int × Int) (k : Nat) : (frst f k).length = k := by simp [frst]
theorem frst_in {f : Nat → Int × Int} (h : ∀ k, (0 ≤ (f k).1 ∧ (f k).1 < 65536) ∧ (0 ≤ (f k).2 ∧ (f k).2 < 65536)) (n : Nat) : InP (frst f n) := fun p hp => by
  obtain ⟨k, _, rfl⟩ := List.mem_map.1 hp
  exact h k
structure Bp (w W : World) (lo hi : Nat) (X : Sx) (lo2 hi2 : Nat) (Y : Sx) (G : Gm) (s t : Sa) : Prop where
  sx : Se W lo hi X G s
  sy : Se W lo2 hi2 Y G t
  b : Below w.heap.size w W
  lo : w.heap.size ≤ lo
  ord : hi ≤ lo2
section
variable {w W W' : World} {lo hi lo2 hi2 : Nat} {X Y : Sx} {G : Gm} {s t u : Sa}
theorem Bp.next (h : Bp w W lo hi X lo2 hi2 Y G s t) (hb : Below W.heap.size W W') : Bp w W' lo hi X lo2 hi2 Y G s t := ⟨h.sx.below hb, h.sy.below hb, h.b.trans (hb.mono h.b.size), h.lo, h.ord⟩
theorem Bp.lohi (h : Bp w W lo hi X lo2 hi2 Y G s t) : lo ≤ hi ∧ lo2 ≤ hi2 := ⟨by have := h.sx.x.s; omega, by have := h.sy.x.s; omega⟩
theorem Bp.growX (h : Bp w W lo hi X lo2 hi2 Y G s t) (hs : Se W' lo hi X G u) (hg : Grows (In2 lo hi) W W') : Bp w W' lo hi X lo2 hi2 Y G u t :=
  ⟨hs, h.sy.grows hg (fun k hk => Or.inl (by have := hk.2; have := h.ord; omega)), h.b.trans (hg.below h.b.size fun _ hk => Nat.le_trans h.lo hk.1), h.lo, h.ord⟩
theorem Bp.growY (h : Bp w W lo hi X lo2 hi2 Y G s t) (hs : Se W' lo2 hi2 Y G u) (hg : Grows (In2 lo2 hi2) W W') : Bp w W' lo hi X lo2 hi2 Y G s u :=
  ⟨h.sx.grows hg (fun k hk => Or.inr (by have := hk.1; have := h.ord; omega)), hs, h.b.trans (hg.below h.b.size fun _ hk => by have := hk.1; have := h.lo; have := h.ord; have := h.lohi; omega), h.lo, h.ord⟩
end
theorem Wk.up {s : Sa} {n : Nat} (h : Wk s n) : Wk s (n + 1) := ⟨by have := h.a; omega, by have := h.b; omega⟩
theorem newS_pf {G : Gm} (hG : G.Ok) {me : Int} (hm : me = 0 ∨ me = 1) (f g : Nat → Int) : Pf G (newS me G.cap) f g 0 0 := by
  have hz : ∀ k, (In.at0 (In.zeros G.cap.toNat) k).2 = false := fun k => by rw [In.zeros_at]
  exact ⟨newS_ok hG hm, newS_P _ _, kn_zeros _, fun k _ => hz k, fun j hj => absurd (show (In.at0 (In.zeros G.cap.toNat) j).2 = true from hj) (by rw [hz]; decide), fun j hj => absurd (show (In.at0 (In.zeros G.cap.toNat) j).2 = true from hj) (by rw [hz]; decide)⟩
theorem yieldsIf_eql28 {ops : Array Oper} {S : World → Prop} {op : Oper} {a : Act} (hw : Region.wanted op (yielded ops a.tmps) = true) (x y : Operand) (ho : op.op = .binOp .eql 44 x y 44) (cs ds : List Value) (q : Bool) (hq : Hid (∀ w, (Op.equalIn 10000 44 (.agg cs.toArray) (.agg ds.toArray)).run Tryz.prog w = .ok q w)) (hx : a.eval x = .agg cs.toArray) (hy : a.eval y = .agg ds.toArray) : YieldsIf Tryz.prog ops S op (.bool q) a :=
  .inl ⟨hw, fun w _ => by
    unfold execOp
    simp only [ho, hx, hy, Sem.run_bind, run_eqGuard_agg w .eql 44 x y cs.toArray ds.toArray guard28, Result.andThen_ok, run_eql_struct, hq.out w, Sem.run_pure]⟩
theorem yieldsIf_neq28 {ops : Array Oper} {S : World → Prop} {op : Oper} {a : Act} (hw : Region.wanted op (yielded ops a.tmps) = true) (x y : Operand) (ho : op.op = .binOp .neq 44 x y 44) (cs ds : List Value) (q : Bool) (hq : Hid (∀ w, (Op.equalIn 10000 44 (.agg cs.toArray) (.agg ds.toArray)).run Tryz.prog w = .ok q w)) (hx : a.eval x = .agg cs.toArray) (hy : a.eval y = .agg ds.toArray) : YieldsIf Tryz.prog ops S op (.bool (!q)) a :=
  .inl ⟨hw, fun w _ => by
    unfold execOp
    simp only [ho, hx, hy, Sem.run_bind, run_eqGuard_agg w .neq 44 x y cs.toArray ds.toArray guard28, Result.andThen_ok, run_neq_struct, hq.out w, Sem.run_pure]⟩
theorem info3 : (Tryz.prog.info? 3).map (fun i => (i.zero, i.size, i.bytes)) = some (some (.int .i64 0), 1, 8) := by kernel_rfl
theorem info4 : (Tryz.prog.info? 4).map (fun i => (i.zero, i.size, i.bytes)) = some (some (.bool false), 1, 1) := by kernel_rfl
theorem kdI : Ax.Kd Tryz.prog 27 3 1 St.i64c := by
  refine ⟨Tryz.underlying27, fun _ => rfl, fun s u hu => ?_, by decide, _, _, info3, rfl, by decide⟩
  simp only [St.i64c, List.mem_cons, List.not_mem_nil, or_false] at hu
  rw [hu]; rfl
abbrev Ro1 (w : World) (B : Nat) (v : Value) (l : List Int) : Prop := Ax.Ro w B 3 1 St.i64c v l
/-- One more place. -/
theorem left1 {wr : World} {B : Nat} {v : Value} {l : List Int} (z : Int) (hp : Ro1 wr B v l) (hl : l.length ≤ 1000) (hB : B ≤ wr.heap.size) : ∃ v' w', (∀ ty, (Builtin.append_ #[27, 27] ty #[v, .slice (some ⟨wr.heap.size, 0, none⟩) 1 1]).run Tryz.prog (wr.alloc (.cells #[.int .i64 z] 3)) = .ok v' w') ∧ Ro1 w' B v' (l ++ [z]) ∧ Below B wr w' := by
  have hn : Ro1 (wr.alloc (.cells #[.int .i64 z] 3)) B v l := hp.keep fun k _ _ hk => Below.heap_alloc _ _ _ hk
  have hc := Cw.new wr (St.i64c z) 3
  have hB2 : B ≤ (wr.alloc (.cells #[.int .i64 z] 3)).heap.size := by rw [World.size_alloc]; omega
  obtain ⟨v', w2, hr, h2, h3, h4⟩ := hn.app kdI ⟨wr.heap.size, 0, none⟩ 1 [z] (fun j u hu => by rw [Addr.add_lit, Nat.zero_add]; exact (hc.cell j).trans (by simpa using hu)) (by simp; omega) hB2
  exact ⟨v', w2, hr, h2, Ax.grown_below h3 ((Below.refl _ _).alloc hB _) hB2 fun k hk => (hp.lt k hk).1⟩
/-- All but one, laid anew. -/
theorem releft {W9 wc : World} {B g cv : Nat} {A C : List Int} {t : Int} (h : Ro1 wc B (.slice (some ⟨g, 0, none⟩) (A ++ t :: C).length cv) (A ++ t :: C)) (hk : W9.heap[g]? = wc.heap[g]?) (hl : (A ++ t :: C).length ≤ 1000) (o2 : Nat) (ho2 : o2 = (A.length + 1) ∨ C = []) :
    ∃ v1 w1 v2 w2, (∀ ty, (Builtin.append_ #[27, 27] ty #[.slice (some ⟨W9.heap.size, 0, none⟩) 0 0, .slice (some ⟨g, 0, none⟩) A.length cv]).run Tryz.prog (W9.alloc (.cells #[] 3)).drew = .ok v1 w1) ∧
      (∀ ty, (Builtin.append_ #[27, 27] ty #[v1, .slice (some ⟨g, o2, none⟩) C.length (cv - (A.length + 1))]).run Tryz.prog w1 = .ok v2 w2) ∧ Ro1 w2 W9.heap.size v2 (A ++ C) ∧ Below W9.heap.size W9 w2 := by
  obtain ⟨g', cap', hv, hg1, hg2, _, _, hcell⟩ := h.spot (by simp)
  simp only [Value.slice.injEq, Option.some.injEq, Addr.mk.injEq, and_true, true_and] at hv
  obtain ⟨rfl, rfl⟩ := hv
  have hgl : g < W9.heap.size := by
    rcases Nat.lt_or_ge g W9.heap.size with h1 | h1
    · exact h1
    · rw [Array.getElem?_eq_none h1] at hk
      rw [Array.getElem?_eq_getElem hg2] at hk
      cases hk
  have hc9 : ∀ j u, ((A ++ t :: C).flatMap St.i64c)[j]? = some u → W9.cell? ⟨g, j, none⟩ = some u := fun j u hu => (World.cell?_of_block (a := ⟨g, j, none⟩) hk).trans (hcell j u hu)
  have hlA : (A.flatMap St.i64c).length = A.length * 1 := Ax.fm_len kdI.len A
  simp only [List.length_append, List.length_cons] at hl
  have e : (A ++ t :: C).flatMap St.i64c = A.flatMap St.i64c ++ (St.i64c t ++ C.flatMap St.i64c) := by simp
  rw [e] at hc9
  have hcA : ∀ j u, (A.flatMap St.i64c)[j]? = some u → W9.cell? ⟨g, j, none⟩ = some u := fun j u hu => hc9 j u (by rw [List.getElem?_append_left (List.getElem?_eq_some_iff.1 hu).1]; exact hu)
  have hcC : ∀ j u, (C.flatMap St.i64c)[j]? = some u → W9.cell? ⟨g, (A.length + 1) + j, none⟩ = some u := fun j u hu => hc9 _ u (by
    rw [List.getElem?_append_right (by omega), List.getElem?_append_right (by rw [kdI.len]; omega), hlA, kdI.len, show (A.length + 1) + j - A.length * 1 - 1 = j by omega]; exact hu)
  have hr0 : Ro1 (W9.alloc (.cells #[] 3)).drew W9.heap.size (.slice (some ⟨W9.heap.size, 0, none⟩) 0 0) [] := ⟨rfl, .inr ⟨W9.heap.size, 0, #[], rfl, Nat.le_refl _, heap_alloc_new W9 _, Nat.le_refl _, by unfold maxLen; omega, rfl, by simp⟩⟩
  have sz0 : (W9.alloc (.cells #[] 3)).drew.heap.size = W9.heap.size + 1 := World.size_alloc _ _
  have b0 : Below W9.heap.size W9 (W9.alloc (.cells #[] 3)).drew := ((Below.refl _ _).alloc (Nat.le_refl _) _).drew
  have c0 : ∀ a, a.block = g → (W9.alloc (.cells #[] 3)).drew.cell? a = W9.cell? a := fun a ha => World.cell?_of_block (by rw [ha]; exact Below.heap_alloc _ _ _ hgl)
  obtain ⟨v1, w1, r1, o1, g1, _⟩ := hr0.app kdI ⟨g, 0, none⟩ cv A (fun j u hu => by rw [Addr.add_lit, Nat.zero_add, c0 _ rfl]; exact hcA j u hu) (by simp; omega) (by rw [sz0]; omega)
  rw [List.nil_append] at o1
  have b1 : Below W9.heap.size W9 w1 := Ax.grown_below g1 b0 (by rw [sz0]; omega) fun k hk => by
    have : W9.heap.size = k := by simpa [Value.ownBlock] using hk
    omega
  have c1 : ∀ a, a.block = g → w1.cell? a = W9.cell? a := fun a ha => World.cell?_of_block (by rw [ha]; exact b1.block g hgl)
  have hB1 : W9.heap.size ≤ w1.heap.size := b1.size
  obtain ⟨v2, w2, r2, o2', g2, _⟩ := o1.app kdI ⟨g, o2, none⟩ (cv - (A.length + 1)) C (fun j u hu => by
    rcases ho2 with rfl | rfl
    · rw [Addr.add_lit, c1 _ rfl]; exact hcC j u hu
    · simp at hu) (by omega) hB1
  exact ⟨v1, w1, v2, w2, r1, r2, o2', Ax.grown_below g2 b1 hB1 fun k hk => (o1.lt k hk).1⟩
theorem cut_at {L : List Int} {K : Nat} (h : K < L.length) : ∃ A t B, L = A ++ t :: B ∧ A.length = K := by
  refine ⟨L.take K, L[K], L.drop (K + 1), ?_, by rw [List.length_take]; omega⟩
  rw [← List.drop_eq_getElem_cons h, List.take_append_drop]
end Go.Proofs.YtbfldcieibdapabGreat
end
