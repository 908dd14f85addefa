/-
  Two sessions of the program in one memory (Bp), as they tell each other (Tm): the steps of RollbackTwo.
-/
import Derived.Test.YtbfldcieibdapaaGreatRbRow
namespace Go.Proofs.YtbfldcieibdapaaGreat
open Go.RowKit
structure Bp (w W : World) (lo hi : Nat) (X : Sx) (lo2 hi2 : Nat) (Y : Sx) (G : Gm) (s t : Sa) : Prop where
  sx : Se W lo hi X G s
  sy : Se W lo2 hi2 Y G t
  b : Below w.heap.size w W
  lo : w.heap.size ≤ lo
  ord : hi ≤ lo2
section
variable {w W W' : World} {lo hi lo2 hi2 : Nat} {X Y : Sx} {G : Gm} {s t u : Sa}
theorem Bp.next (h : Bp w W lo hi X lo2 hi2 Y G s t) (hb : Below W.heap.size W W') : Bp w W' lo hi X lo2 hi2 Y G s t := ⟨h.sx.below hb, h.sy.below hb, h.b.trans (hb.mono h.b.size), h.lo, h.ord⟩
theorem Bp.lohi (h : Bp w W lo hi X lo2 hi2 Y G s t) : lo ≤ hi ∧ lo2 ≤ hi2 := ⟨by have := h.sx.x.s; omega, by have := h.sy.x.s; omega⟩
theorem Bp.growX (h : Bp w W lo hi X lo2 hi2 Y G s t) (hs : Se W' lo hi X G u) (hg : Grows (In2 lo hi) W W') : Bp w W' lo hi X lo2 hi2 Y G u t :=
  ⟨hs, h.sy.grows hg (fun k hk => Or.inl (by have := hk.2; have := h.ord; omega)), h.b.trans (hg.below h.b.size fun _ hk => Nat.le_trans h.lo hk.1), h.lo, h.ord⟩
theorem Bp.growY (h : Bp w W lo hi X lo2 hi2 Y G s t) (hs : Se W' lo2 hi2 Y G u) (hg : Grows (In2 lo2 hi2) W W') : Bp w W' lo hi X lo2 hi2 Y G s u :=
  ⟨h.sx.grows hg (fun k hk => Or.inr (by have := hk.1; have := h.ord; omega)), hs, h.b.trans (hg.below h.b.size fun _ hk => by have := hk.1; have := h.lo; have := h.ord; have := h.lohi; omega), h.lo, h.ord⟩
end
theorem Wk.up {s : Sa} {n : Nat} (h : Wk s n) : Wk s (n + 1) := ⟨by have := h.a; omega, by have := h.b; omega⟩
/-- How RollbackTwo stands behind N rounds. -/
structure Tm (w W : World) (lo hi : Nat) (X : Sx) (lo2 hi2 : Nat) (Y : Sx) (G : Gm) (a b : List Int) (t : Tt) (N : Nat) : Prop where
  m : Bp w W lo hi X lo2 hi2 Y G t.x t.y
  ok : t.Ok G a b
  wx : Wk t.x N
  wy : Wk t.y N
section
variable {w W W' : World} {lo hi lo2 hi2 : Nat} {X Y : Sx} {G : Gm} {a b : List Int} {t : Tt} {N : Nat}
theorem Tm.next (h : Tm w W lo hi X lo2 hi2 Y G a b t N) (hb : Below W.heap.size W W') : Tm w W' lo hi X lo2 hi2 Y G a b t N := ⟨h.m.next hb, h.ok, h.wx, h.wy⟩
theorem Tm.sm (h : Tm w W lo hi X lo2 hi2 Y G a b t N) (hb : Sm W W') : Tm w W' lo hi X lo2 hi2 Y G a b t N := h.next (hb.below _)
theorem Tm.up (h : Tm w W lo hi X lo2 hi2 Y G a b t N) : Tm w W lo hi X lo2 hi2 Y G a b t (N + 1) := ⟨h.m, h.ok, h.wx.up, h.wy.up⟩
theorem tstep0 (hi : t.i < a.length) : tstep G a b 0 t = { t with x := locS t.x G (gd a t.i), i := if (locA t.x G).2 = 0 then t.i + 1 else t.i } := by unfold tstep; rw [if_pos rfl, if_pos hi]
theorem tstep0n (hi : ¬ t.i < a.length) : tstep G a b 0 t = t := by unfold tstep; rw [if_pos rfl, if_neg hi]
theorem tstep1 (hi : t.k < b.length) : tstep G a b 1 t = { t with y := locS t.y G (gd b t.k), k := if (locA t.y G).2 = 0 then t.k + 1 else t.k } := by unfold tstep; rw [if_neg (by decide), if_pos rfl, if_pos hi]
theorem tstep1n (hi : ¬ t.k < b.length) : tstep G a b 1 t = t := by unfold tstep; rw [if_neg (by decide), if_pos rfl, if_neg hi]
theorem tstep2 (hi : t.u < t.i) : tstep G a b 2 t = { t with y := remS t.y G (t.u : Int) (gd a t.u), u := if remA t.y G (t.u : Int) (gd a t.u) = 0 then t.u + 1 else t.u } := by unfold tstep; rw [if_neg (by decide), if_neg (by decide), if_pos rfl, if_pos hi]
theorem tstep2n (hi : ¬ t.u < t.i) : tstep G a b 2 t = t := by unfold tstep; rw [if_neg (by decide), if_neg (by decide), if_pos rfl, if_neg hi]
theorem tstep3 {r : Int} (h0 : ¬ r = 0) (h1 : ¬ r = 1) (h2 : ¬ r = 2) (hi : t.v < t.k) : tstep G a b r t = { t with x := remS t.x G (t.v : Int) (gd b t.v), v := if remA t.x G (t.v : Int) (gd b t.v) = 0 then t.v + 1 else t.v } := by unfold tstep; rw [if_neg h0, if_neg h1, if_neg h2, if_pos hi]
theorem tstep3n {r : Int} (h0 : ¬ r = 0) (h1 : ¬ r = 1) (h2 : ¬ r = 2) (hi : ¬ t.v < t.k) : tstep G a b r t = t := by unfold tstep; rw [if_neg h0, if_neg h1, if_neg h2, if_neg hi]
theorem Tm.go0 (h : Tm w W lo hi X lo2 hi2 Y G a b t N) (hI : Inp G a b) (hN : N ≤ 1000000) (hg : t.i < a.length) : Calls Tryz.prog 13 #[.pointer (some ⟨X.sb, 0, none⟩), .int .u16 (gd a t.i)] W fun e w' => e = .returned (.tuple #[.int .i64 (locA t.x G).1, .int .i64 (locA t.x G).2]) ∧ Tm w w' lo hi X lo2 hi2 Y G a b (tstep G a b 0 t) (N + 1) := by
  have ho := h.ok.step hI 0
  rw [tstep0 hg] at ho ⊢
  refine (h.m.sx.Local (h.wx.st hN).1 (gd_in hI.av _)).mono ?_
  rintro e w' ⟨rfl, h1, h2⟩
  exact ⟨rfl, h.m.growX h1 h2, ho, h.wx.loc G _, h.wy.up⟩
theorem Tm.go1 (h : Tm w W lo hi X lo2 hi2 Y G a b t N) (hI : Inp G a b) (hN : N ≤ 1000000) (hg : t.k < b.length) : Calls Tryz.prog 13 #[.pointer (some ⟨Y.sb, 0, none⟩), .int .u16 (gd b t.k)] W fun e w' => e = .returned (.tuple #[.int .i64 (locA t.y G).1, .int .i64 (locA t.y G).2]) ∧ Tm w w' lo hi X lo2 hi2 Y G a b (tstep G a b 1 t) (N + 1) := by
  have ho := h.ok.step hI 1
  rw [tstep1 hg] at ho ⊢
  refine (h.m.sy.Local (h.wy.st hN).1 (gd_in hI.bv _)).mono ?_
  rintro e w' ⟨rfl, h1, h2⟩
  exact ⟨rfl, h.m.growY h1 h2, ho, h.wx.up, h.wy.loc G _⟩
theorem Tm.small (h : Tm w W lo hi X lo2 hi2 Y G a b t N) : (t.u : Int) ≤ 600 ∧ (t.v : Int) ≤ 600 ∧ (t.i : Int) ≤ 600 ∧ (t.k : Int) ≤ 600 := by
  have h1 := h.ok.x.ple
  have h2 := h.ok.y.ple
  have h3 := h.ok.ui
  have h4 := h.ok.vk
  have h5 := (chkG_cap h.m.sx.g.c).2.2.1
  omega
theorem Tm.go2 (h : Tm w W lo hi X lo2 hi2 Y G a b t N) (hI : Inp G a b) (hN : N ≤ 1000000) (hg : t.u < t.i) : Calls Tryz.prog 15 #[.pointer (some ⟨Y.sb, 0, none⟩), .int .i64 (t.u : Int), .int .u16 (gd a t.u)] W fun e w' => e = .returned (.int .i64 (remA t.y G (t.u : Int) (gd a t.u))) ∧ Tm w w' lo hi X lo2 hi2 Y G a b (tstep G a b 2 t) (N + 1) := by
  have ho := h.ok.step hI 2
  have hs := h.small
  rw [tstep2 hg] at ho ⊢
  refine (h.m.sy.Remote (h.wy.st hN).1 (h.wy.st hN).2 (f := (t.u : Int)) ⟨by omega, by omega⟩ (gd_in hI.av _)).mono ?_
  rintro e w' ⟨rfl, h1, h2⟩
  exact ⟨rfl, h.m.growY h1 h2, ho, h.wx.up, h.wy.rem hI.g h.ok.y.ok _ (gd_in hI.av _)⟩
theorem Tm.go3 (h : Tm w W lo hi X lo2 hi2 Y G a b t N) (hI : Inp G a b) (hN : N ≤ 1000000) {r : Int} (h0 : ¬ r = 0) (h1 : ¬ r = 1) (h2 : ¬ r = 2) (hg : t.v < t.k) : Calls Tryz.prog 15 #[.pointer (some ⟨X.sb, 0, none⟩), .int .i64 (t.v : Int), .int .u16 (gd b t.v)] W fun e w' => e = .returned (.int .i64 (remA t.x G (t.v : Int) (gd b t.v))) ∧ Tm w w' lo hi X lo2 hi2 Y G a b (tstep G a b r t) (N + 1) := by
  have ho := h.ok.step hI r
  have hs := h.small
  rw [tstep3 h0 h1 h2 hg] at ho ⊢
  refine (h.m.sx.Remote (h.wx.st hN).1 (h.wx.st hN).2 (f := (t.v : Int)) ⟨by omega, by omega⟩ (gd_in hI.bv _)).mono ?_
  rintro e w' ⟨rfl, h1, h2⟩
  exact ⟨rfl, h.m.growX h1 h2, ho, h.wx.rem hI.g h.ok.x.ok _ (gd_in hI.bv _), h.wy.up⟩
end
/-- Both, just made. -/
def newT (cap : Int) : Tt := ⟨newS 0 cap, newS 1 cap, 0, 0, 0, 0⟩
theorem newS_pf {G : Gm} (hG : G.Ok) {me : Int} (hm : me = 0 ∨ me = 1) (f g : Nat → Int) : Pf G (newS me G.cap) f g 0 0 := by
  have hz : ∀ k, (In.at0 (In.zeros G.cap.toNat) k).2 = false := fun k => by rw [In.zeros_at]
  exact ⟨newS_ok hG hm, newS_P _ _, kn_zeros _, fun k _ => hz k, fun j hj => absurd (show (In.at0 (In.zeros G.cap.toNat) j).2 = true from hj) (by rw [hz]; decide), fun j hj => absurd (show (In.at0 (In.zeros G.cap.toNat) j).2 = true from hj) (by rw [hz]; decide)⟩
theorem newT_ok {G : Gm} {a b : List Int} (hI : Inp G a b) : (newT G.cap).Ok G a b := ⟨newS_pf hI.g (Or.inl rfl) _ _, newS_pf hI.g (Or.inr rfl) _ _, rfl, rfl, Nat.zero_le _, Nat.zero_le _, Nat.le_refl _, Nat.le_refl _⟩
theorem allW_frst {G : Gm} {a b : List Int} (hI : Inp G a b) : endG G.l G.cap G.fuel (startS G.seed) (frst (fun k => (gd a k, gd b k)) a.length) = allW G a b a.length := by
  have e : frst (fun k => (gd a k, gd b k)) a.length = (allS a b).usL a.length := List.map_congr_left fun k hk => (allS_use (List.mem_range.1 hk) hI.ll).symm
  rw [e]
  rfl
theorem yieldsIf_eql28 {ops : Array Oper} {S : World → Prop} {op : Oper} {a : Act} (hw : Region.wanted op (yielded ops a.tmps) = true) (x y : Operand) (ho : op.op = .binOp .eql 48 x y 48) (cs ds : List Value) (q : Bool) (hq : Hid (∀ w, (Op.equalIn 10000 48 (.agg cs.toArray) (.agg ds.toArray)).run Tryz.prog w = .ok q w)) (hx : a.eval x = .agg cs.toArray) (hy : a.eval y = .agg ds.toArray) : YieldsIf Tryz.prog ops S op (.bool q) a :=
  .inl ⟨hw, fun w _ => by
    unfold execOp
    simp only [ho, hx, hy, Sem.run_bind, run_eqGuard_agg w .eql 48 x y cs.toArray ds.toArray guard28, Result.andThen_ok, run_eql_struct, hq.out w, Sem.run_pure]⟩
theorem yieldsIf_neq28 {ops : Array Oper} {S : World → Prop} {op : Oper} {a : Act} (hw : Region.wanted op (yielded ops a.tmps) = true) (x y : Operand) (ho : op.op = .binOp .neq 48 x y 48) (cs ds : List Value) (q : Bool) (hq : Hid (∀ w, (Op.equalIn 10000 48 (.agg cs.toArray) (.agg ds.toArray)).run Tryz.prog w = .ok q w)) (hx : a.eval x = .agg cs.toArray) (hy : a.eval y = .agg ds.toArray) : YieldsIf Tryz.prog ops S op (.bool (!q)) a :=
  .inl ⟨hw, fun w _ => by
    unfold execOp
    simp only [ho, hx, hy, Sem.run_bind, run_eqGuard_agg w .neq 48 x y cs.toArray ds.toArray guard28, Result.andThen_ok, run_neq_struct, hq.out w, Sem.run_pure]⟩
end Go.Proofs.YtbfldcieibdapaaGreat
