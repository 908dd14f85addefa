/-
  Joined from: OrStep, OrHear, OrWay, OrPick, OrRem, OrLast.
-/
import Derived.Test.YtahodgmdikaedaaDoorM18
import Derived.Test.YtahodgmdikaedaaDoorM17
import Derived.Laws.Slices
import Derived.Test.YtahodgmdikaedaaDoorM16
section
/-
  LinkOrder: Send, Tick, what goes out, on the law's own state.
-/
namespace Go.Proofs.YtahodgmdikaedaaDoor
open Go.RowKit
/-- What stays as it is while the law goes on. -/
structure Kk where
  w : World
  la : Nat
  xb : Nat
  l0 : Nat
  l1 : Nat
  da : Nat
  db : Nat
  gb : Nat
  sb : Nat
  cb : Nat
  av : Value
  bv : Value
  A : List (List Int)
  B : List (List Int)
structure Kk.Ok (K : Kk) : Prop where
  t : Tab K.w
  h0 : 0 < K.la
  a : K.A.length ≤ 900
  b : K.B.length ≤ 900
def qB9 (Q : Qe) : List (Int × List Int) := Q.map fun q => (if q.1 = true then 1 else 0, encP 9 q.2)
def oq (e : Nat) (l : List Pk) : Qe := if e = 0 then outX l else outY l
theorem qB9_app (P Q : Qe) : qB9 (P ++ Q) = qB9 P ++ qB9 Q := by simp [qB9]
theorem qB9_oq {e : Nat} (he : e ≤ 1) (l : List Pk) : qB9 (oq e l) = (l.map (encP 9)).map fun z => (1 - (e : Int), z) := by
  have : e = 0 ∨ e = 1 := by omega
  rcases this with rfl | rfl <;> simp [qB9, oq, outX, outY]
theorem oq_len (e : Nat) (l : List Pk) : (oq e l).length = l.length := by unfold oq; split <;> simp [outX, outY]
theorem oq_good {e : Nat} {l : List Pk} {Q : Qe} (h : ∀ q ∈ Q ++ oq e l, q.2.Good) : ∀ p ∈ l, p.Good := fun p hp => by
  unfold oq at h
  split at h
  · exact h (true, p) (List.mem_append_right _ (List.mem_map.2 ⟨p, hp, rfl⟩))
  · exact h (false, p) (List.mem_append_right _ (List.mem_map.2 ⟨p, hp, rfl⟩))
/-- A round's top. -/
def OrT (K : Kk) (c : Nat) (u0 u1 : Value) (s0 s1 : Nat) (W : World) : Prop :=
  ∃ F G x y Q v ps r0 r1, Om K.w K.la K.xb K.l0 K.l1 K.da K.db K.gb K.sb K.cb F G x y v ps u0 r0 u1 r1 s0 s1 K.av K.bv W ∧ ps.map (fun p => (p.to, p.b)) = qB9 Q ∧ Og K.A K.B s0 s1 x y Q (bytesOf2 r0) (bytesOf2 r1) c
/-- Packets of an end are to go out. -/
def OrM (K : Kk) (c : Nat) (e : Nat) (out : Value) (u0 u1 : Value) (s0 s1 : Nat) (W : World) : Prop :=
  ∃ F G x y Q pk n v ps r0 r1, Om K.w K.la K.xb K.l0 K.l1 K.da K.db K.gb K.sb K.cb F G x y v ps u0 r0 u1 r1 s0 s1 K.av K.bv W ∧ ps.map (fun p => (p.to, p.b)) = qB9 Q ∧ Og K.A K.B s0 s1 x y (Q ++ oq e pk) (bytesOf2 r0) (bytesOf2 r1) c ∧
    Po W n 9 pk out ∧ ∀ k, n ≤ k → k < W.heap.size → ¬ BlkP v ps k ∧ k ≠ K.xb ∧ k ≠ K.sb ∧ k ≠ K.cb
theorem ps_len {Q : Qe} {ps : List Pq} (h : ps.map (fun p => (p.to, p.b)) = qB9 Q) : ps.length = Q.length := by
  have := congrArg List.length h
  rw [List.length_map] at this
  rw [this]
  simp [qB9]
section
variable {K : Kk} {c e : Nat} {u0 u1 ov : Value} {s0 s1 : Nat} {W W' : World}
theorem OrT.keep (h : OrT K c u0 u1 s0 s1 W) (hg : Gr (fun _ => False) W W') : OrT K c u0 u1 s0 s1 W' := by
  obtain ⟨F, G, x, y, Q, v, ps, r0, r1, h1, h2⟩ := h
  exact ⟨F, G, x, y, Q, v, ps, r0, r1, h1.keep hg, h2⟩
theorem OrT.drew (h : OrT K c u0 u1 s0 s1 W) : OrT K c u0 u1 s0 s1 W.drew := h.keep (Gr.drew _ _)
theorem OrT.mono {d : Nat} (h : OrT K c u0 u1 s0 s1 W) (hd : c ≤ d) : OrT K d u0 u1 s0 s1 W := by
  obtain ⟨F, G, x, y, Q, v, ps, r0, r1, h1, h2, h3⟩ := h
  exact ⟨F, G, x, y, Q, v, ps, r0, r1, h1, h2, h3.mono hd⟩
/-- Nothing goes out. -/
theorem OrT.quiet (h : OrT K c u0 u1 s0 s1 W) (e : Nat) : OrM K c e (.slice none 0 0) u0 u1 s0 s1 W := by
  obtain ⟨F, G, x, y, Q, v, ps, r0, r1, h1, h2, h3⟩ := h
  refine ⟨F, G, x, y, Q, [], W.heap.size, v, ps, r0, r1, h1, h2, ?_, ⟨[], ⟨World.ownsRow_nil _ _ _ _, fun r hr => by cases hr⟩, rfl⟩, fun k h1 h2 => by omega⟩
  have : oq e [] = [] := by unfold oq; split <;> rfl
  rw [this, List.append_nil]
  exact h3
/-- Its cells. -/
theorem OrT.form (h : OrT K c u0 u1 s0 s1 W) : ∃ a0 n0 c0 a1 n1 c1, u0 = .slice a0 n0 c0 ∧ u1 = .slice a1 n1 c1 ∧ n0 ≤ s1 ∧ n1 ≤ s0 ∧ s0 ≤ K.A.length ∧ s1 ≤ K.B.length ∧ W.cell? ⟨K.cb, 0, none⟩ = some u0 ∧ W.cell? ⟨K.cb, 1, none⟩ = some u1 ∧ W.cell? ⟨K.sb, 0, none⟩ = some (.int .i64 (s0 : Int)) ∧ W.cell? ⟨K.sb, 1, none⟩ = some (.int .i64 (s1 : Int)) ∧
    W.cell? ⟨K.gb, 0, none⟩ = some K.av ∧ W.cell? ⟨K.gb, 1, none⟩ = some K.bv ∧ W.cell? ⟨K.xb, 0, none⟩ = some (.pointer (some ⟨K.l0, 0, none⟩)) ∧ W.cell? ⟨K.xb, 1, none⟩ = some (.pointer (some ⟨K.l1, 0, none⟩)) ∧ Below K.la K.w W ∧ (∀ j, W.frozen? ⟨K.sb, j, none⟩ = false) ∧ ∀ j, W.frozen? ⟨K.cb, j, none⟩ = false := by
  obtain ⟨F, G, x, y, Q, v, ps, r0, r1, h1, h2, h3⟩ := h
  obtain ⟨a0, c0, e0⟩ := h1.a0.row.form
  obtain ⟨a1, c1, e1⟩ := h1.a1.row.form
  obtain ⟨f1, _, f3, _⟩ := h3.first
  rw [bytesOf2_len] at f1 f3
  exact ⟨a0, _, c0, a1, _, c1, e0, e1, f1, f3, h3.l0, h3.l1, h1.qc.cell 0, h1.qc.cell 1, h1.qs.cell 0, h1.qs.cell 1, h1.qg.cell 0, h1.qg.cell 1, h1.m.o.q.cell 0, h1.m.o.q.cell 1, h1.l, h1.qs.frozen, h1.qc.frozen⟩
theorem OrM.goes (h : OrM K c e ov u0 u1 s0 s1 W) (he : e ≤ 1) (hc : c ≤ 900000) : Calls Tryd.prog 17 #[.pointer (some ⟨K.xb, 0, none⟩), .int .i64 (e : Int), ov] W fun r W2 => r = .returned (.tuple #[]) ∧ OrT K c u0 u1 s0 s1 W2 := by
  obtain ⟨F, G, x, y, Q, pk, n, v, ps, r0, r1, h1, h2, h3, h4, h5⟩ := h
  have hl := h3.ql
  rw [List.length_append, oq_len] at hl
  have hp := ps_len h2
  refine (h1.out (e : Int) (by omega) pk h4 (fun k k1 k2 => ⟨(h5 k k1 k2).1, (h5 k k1 k2).2.1⟩) (oq_good h3.gd) (by omega)).mono ?_
  rintro r W2 ⟨v', new, rfl, m2, hn⟩
  exact ⟨rfl, F, G, x, y, _, v', _, r0, r1, m2, by rw [List.map_append, h2, hn, qB9_app, qB9_oq he], h3⟩
theorem lenL {K : Kk} {c0 c1 : List (List Int)} {x y : Lk} {Q : Qe} (hK : K.Ok) (h : Og K.A K.B s0 s1 x y Q c0 c1 c) : x.L.length ≤ 900 ∧ y.L.length ≤ 900 ∧ x.first ≤ 901 ∧ y.first ≤ 901 ∧ x.came ≤ 900 ∧ y.came ≤ 900 := by
  have h1 := h.two.lx.len
  have h2 := h.two.ly.len
  have h3 := h.two.kx.le
  have h4 := h.two.ky.le
  have h5 := h.two.lx.le
  have h6 := h.two.ly.le
  have h7 := hK.a
  have h8 := hK.b
  rw [List.length_take] at h1 h2 h3 h4 h5 h6
  omega
theorem pick {α : Type} {e : Nat} (he : e ≤ 1) {P : α → Prop} {a b : α} (h0 : e = 0 → P a) (h1 : e = 1 → P b) : P (if e = 0 then a else b) := by
  by_cases h : e = 0
  · rw [if_pos h]; exact h0 h
  · rw [if_neg h]; exact h1 (by omega)
theorem outs_good {s : Lk} {B : Nat} {F : Nat → Prop} {lb : Nat} {id : Int} {z : List Int} {w : World} {A : List (List Int)} (hl : Lv A (s.put z)) (h : Ld w B F lb id ((s.put z).goes 16)) : ∀ q ∈ (s.put z).outs 16, q.Good := fun q hq => by
  obtain ⟨k, hk, rfl⟩ := List.mem_map.1 hq
  rw [List.mem_range'_1] at hk
  have hle : (s.put z).full 16 ≤ (s.put z).L.length := full_le (W := 16) hl
  obtain ⟨v, rs, hp⟩ := h.l
  exact hp.pkGood (n := k) (by show (s.put z).first ≤ k; omega) (by show k < (s.put z).first + (s.put z).L.length; omega)
theorem tick_good {s : Lk} {B : Nat} {F : Nat → Prop} {lb : Nat} {id : Int} {w : World} {A : List (List Int)} (hl : Lv A s) (h : Ld w B F lb id s) : ∀ q ∈ s.tickO, q.Good := fun q hq => by
  obtain ⟨v, rs, hp⟩ := h.l
  unfold Lk.tickO at hq
  split at hq
  · cases hq
  · obtain ⟨n, hn, rfl⟩ := List.mem_map.1 hq
    rw [List.mem_range'_1] at hn
    have := hl.w
    exact hp.pkGood (by omega) (by omega)
theorem Fw_new {F : Nat → Prop} {a n : Nat} : ∀ k, Fw F a n k → F k ∨ a ≤ k := fun k hk => by
  rcases hk with hk | hk
  · exact Or.inl hk
  · exact Or.inr (by omega)
/-- A Tick of an end. -/
theorem OrT.tick (h : OrT K c u0 u1 s0 s1 W) (hK : K.Ok) (he : e ≤ 1) (hc : c ≤ 900000) : Calls Tryd.prog 15 #[.pointer (some ⟨if e = 0 then K.l0 else K.l1, 0, none⟩)] W fun r W2 => ∃ a n c', r = .returned (.slice a n c') ∧ Hid (OrM K (c + 17) e (.slice a n c') u0 u1 s0 s1 W2) := by
  obtain ⟨F, G, x, y, Q, v, ps, r0, r1, h1, h2, h3⟩ := h
  have hb := h3.bx.g
  have hb2 := h3.bY.g
  refine pick (P := fun l => Calls Tryd.prog 15 #[.pointer (some ⟨l, 0, none⟩)] W fun r W2 => ∃ a n c', r = .returned (.slice a n c') ∧ Hid (OrM K (c + 17) e (.slice a n c') u0 u1 s0 s1 W2)) he (fun he => ?_) (fun he => ?_)
  · subst he
    refine (h1.m.a.tick (hK.t.below h1.l hK.h0) hK.h0 (by omega) h3.sx).mono ?_
    rintro r W2 ⟨ao, cap, rfl, P2, A2, G2⟩
    have hz := G2.size
    refine ⟨ao, _, cap, rfl, F, G, _, y, Q, x.tickO, W.heap.size, v, ps, r0, r1, h1.chg0 A2 G2 (fun k hk => Or.inl hk), h2, h3.tick (tick_good h3.two.lx h1.m.a), P2, fun k k1 k2 => ?_⟩
    obtain ⟨_, _, f3, f4, _, _, f7, f8, _⟩ := h1.fresh k k1
    exact ⟨f4, f3, f7, f8⟩
  · subst he
    refine (h1.m.b.tick (hK.t.below h1.l hK.h0) hK.h0 (by omega) h3.sy).mono ?_
    rintro r W2 ⟨ao, cap, rfl, P2, A2, G2⟩
    have f := (h3.flip.tick (tick_good h3.two.ly h1.m.b)).flip
    rw [fl_app, fl_fl, fl_outX] at f
    refine ⟨ao, _, cap, rfl, F, G, x, _, Q, y.tickO, W.heap.size, v, ps, r0, r1, h1.chg1 A2 G2 (fun k hk => Or.inl hk), h2, f, P2, fun k k1 k2 => ?_⟩
    obtain ⟨_, _, f3, f4, _, _, f7, f8, _⟩ := h1.fresh k k1
    exact ⟨f4, f3, f7, f8⟩
/-- A row is Sent at an end. -/
theorem OrT.send (h : OrT K c u0 u1 s0 s1 W) (hK : K.Ok) (he : e ≤ 1) (hc : c ≤ 900000) {sv : Value} {z : List Int} (hz : (if e = 0 then K.A else K.B)[if e = 0 then s0 else s1]? = some z) (hb : Bs W sv z) (hy : Byt z) (hz4 : z.length ≤ 4096) :
    Calls Tryd.prog 14 #[.pointer (some ⟨if e = 0 then K.l0 else K.l1, 0, none⟩), sv] W fun r W2 => ∃ a n c', r = .returned (.tuple #[.slice a n c', .int .i64 0]) ∧ W2.cell? ⟨K.sb, e, none⟩ = some (.int .i64 ((if e = 0 then s0 else s1 : Nat) : Int)) ∧ W2.frozen? ⟨K.sb, e, none⟩ = false ∧
      Hid (OrM K (c + 17) e (.slice a n c') u0 u1 (if e = 0 then s0 + 1 else s0) (if e = 0 then s1 else s1 + 1) (W2.setCell ⟨K.sb, e, none⟩ (.int .i64 (((if e = 0 then s0 else s1 : Nat) : Int) + 1)))) := by
  obtain ⟨F, G, x, y, Q, v, ps, r0, r1, h1, h2, h3⟩ := h
  have hb1 := h3.bx.g
  have hb2 := h3.bY.g
  obtain ⟨q1, q2, q3, q4, q5, q6⟩ := lenL hK h3
  have he2 : e = 0 ∨ e = 1 := by omega
  rcases he2 with rfl | rfl
  · simp only [if_true] at hz ⊢
    refine (h1.m.a.send h1.sz (hK.t.below h1.l hK.h0) hK.h0 hb hy hz4 (by omega) (by omega)).mono ?_
    rintro r W2 ⟨ao, cap, n, rfl, hn, P2, A2, G2⟩
    have m2 := h1.chg0 A2 G2 Fw_new
    have hz2 := G2.size
    have gs : Gr (fun k => k = K.sb) W2 (W2.setCell ⟨K.sb, 0, none⟩ (.int .i64 ((s0 : Int) + 1))) := Gr.setCell _ _ _ rfl
    have fr : ∀ k, n ≤ k → k < W2.heap.size → ¬ BlkP v ps k ∧ k ≠ K.xb ∧ k ≠ K.sb ∧ k ≠ K.cb := fun k k1 k2 => by
      obtain ⟨_, _, f3, f4, _, _, f7, f8, _⟩ := h1.fresh k (by omega)
      exact ⟨f4, f3, f7, f8⟩
    refine ⟨ao, _, cap, rfl, m2.qs.cell 0, m2.qs.frozen 0, _, G, _, y, Q, _, n, v, ps, r0, r1, m2.box K.sb (Or.inl rfl) gs (s0 + 1) s1 u0 u1 r0 r1 ?_ ?_ m2.a0 m2.a1 ?_ ?_, h2, h3.send hz (outs_good (h3.two.lx.put z) A2), P2.gr gs fun k k1 e => ?_, fun k k1 k2 => fr k k1 (by simpa [World.setCell] using k2)⟩
    · have := m2.qs.set 0 (.int .i64 ((s0 : Int) + 1))
      exact this
    · exact gs.cw m2.qc (fun e => h1.ne.1 e.symm)
    · intro k hk
      obtain ⟨a1, a2, a3, a4, a5⟩ := m2.z0 k hk
      exact ⟨a1, a2, a3, a4, a5, fun e => (m2.zz k (Or.inl e)).2.2.2.2.2.1 hk, fun e => (m2.zz k (Or.inr (Or.inl e))).2.2.2.2.2.1 hk, fun e => (m2.zz k (Or.inr (Or.inr e))).2.2.2.2.2.1 hk⟩
    · intro k hk
      obtain ⟨a1, a2, a3, a4⟩ := m2.z1 k hk
      exact ⟨a1, a2, a3, a4, fun e => (m2.zz k (Or.inl e)).2.2.2.2.2.2 hk, fun e => (m2.zz k (Or.inr (Or.inl e))).2.2.2.2.2.2 hk, fun e => (m2.zz k (Or.inr (Or.inr e))).2.2.2.2.2.2 hk⟩
    · have := (fr k k1 (by have := m2.qs.lt; omega)).2.2.1
      exact this e
  · simp only [show ¬ (1 : Nat) = 0 from by decide, if_false] at hz ⊢
    refine (h1.m.b.send h1.sz (hK.t.below h1.l hK.h0) hK.h0 hb hy hz4 (by omega) (by omega)).mono ?_
    rintro r W2 ⟨ao, cap, n, rfl, hn, P2, A2, G2⟩
    have m2 := h1.chg1 A2 G2 Fw_new
    have hz2 := G2.size
    have gs : Gr (fun k => k = K.sb) W2 (W2.setCell ⟨K.sb, 1, none⟩ (.int .i64 ((s1 : Int) + 1))) := Gr.setCell _ _ _ rfl
    have fr : ∀ k, n ≤ k → k < W2.heap.size → ¬ BlkP v ps k ∧ k ≠ K.xb ∧ k ≠ K.sb ∧ k ≠ K.cb := fun k k1 k2 => by
      obtain ⟨_, _, f3, f4, _, _, f7, f8, _⟩ := h1.fresh k (by omega)
      exact ⟨f4, f3, f7, f8⟩
    have f := (h3.flip.send hz (outs_good (h3.two.ly.put z) A2)).flip
    rw [fl_app, fl_fl, fl_outX] at f
    refine ⟨ao, _, cap, rfl, m2.qs.cell 1, m2.qs.frozen 1, F, _, x, _, Q, _, n, v, ps, r0, r1, m2.box K.sb (Or.inl rfl) gs s0 (s1 + 1) u0 u1 r0 r1 ?_ ?_ m2.a0 m2.a1 ?_ ?_, h2, f, P2.gr gs fun k k1 e => ?_, fun k k1 k2 => fr k k1 (by simpa [World.setCell] using k2)⟩
    · have := m2.qs.set 1 (.int .i64 ((s1 : Int) + 1))
      exact this
    · exact gs.cw m2.qc (fun e => h1.ne.1 e.symm)
    · intro k hk
      obtain ⟨a1, a2, a3, a4, a5⟩ := m2.z0 k hk
      exact ⟨a1, a2, a3, a4, a5, fun e => (m2.zz k (Or.inl e)).2.2.2.2.2.1 hk, fun e => (m2.zz k (Or.inr (Or.inl e))).2.2.2.2.2.1 hk, fun e => (m2.zz k (Or.inr (Or.inr e))).2.2.2.2.2.1 hk⟩
    · intro k hk
      obtain ⟨a1, a2, a3, a4⟩ := m2.z1 k hk
      exact ⟨a1, a2, a3, a4, fun e => (m2.zz k (Or.inl e)).2.2.2.2.2.2 hk, fun e => (m2.zz k (Or.inr (Or.inl e))).2.2.2.2.2.2 hk, fun e => (m2.zz k (Or.inr (Or.inr e))).2.2.2.2.2.2 hk⟩
    · have := (fr k k1 (by have := m2.qs.lt; omega)).2.2.1
      exact this e
end
end Go.Proofs.YtahodgmdikaedaaDoor
end

section
/-
  LinkOrder: a packet comes to an end, on the law's own state.
-/
namespace Go.Proofs.YtahodgmdikaedaaDoor
open Go.RowKit
section
variable {w W W' : World} {la xb l0 l1 da db gb sb cb : Nat} {F G : Nat → Prop} {x y : Lk} {v : Value} {ps : List Pq} {u0 u1 : Value} {r0 r1 : List Rw2} {s0 s1 : Nat} {av bv : Value}
/-- What came is put anew. -/
theorem Om.put (h : Om w la xb l0 l1 da db gb sb cb F G x y v ps u0 r0 u1 r1 s0 s1 av bv W) {H : Nat → Prop} (hg : Gr H W W') (hH : ∀ k, H k → la ≤ k ∧ ¬ F k ∧ ¬ G k ∧ k ≠ xb ∧ ¬ BlkP v ps k ∧ k ≠ gb) (v0 v1 : Value) (t0 t1 : List Rw2) (qs : Cw W' sb [.int .i64 (s0 : Int), .int .i64 (s1 : Int)] 36) (qc : Cw W' cb [v0, v1] 35)
    (a0 : Rq W' la v0 t0) (a1 : Rq W' la v1 t1) (n0 : ∀ k, BlkR v0 t0 k → ¬ F k ∧ ¬ G k ∧ k ≠ xb ∧ ¬ BlkP v ps k ∧ ¬ BlkR v1 t1 k ∧ k ≠ sb ∧ k ≠ cb ∧ k ≠ gb) (n1 : ∀ k, BlkR v1 t1 k → ¬ F k ∧ ¬ G k ∧ k ≠ xb ∧ ¬ BlkP v ps k ∧ k ≠ sb ∧ k ≠ cb ∧ k ≠ gb) : Om w la xb l0 l1 da db gb sb cb F G x y v ps v0 t0 v1 t1 s0 s1 av bv W' := by
  refine ⟨⟨h.m.o.gr hg (fun e => (hH xb e).2.2.2.1 rfl) fun k hk e => (hH k e).2.2.2.2.1 hk, h.m.a.gr hg fun k hk e => (hH k e).2.1 hk, h.m.b.gr hg fun k hk e => (hH k e).2.2.1 hk, h.m.x, h.m.fg, h.m.p⟩, a0, a1, fun k hk => ?_, fun k hk => ?_, qs, qc, hg.cw h.qg (fun e => (hH gb e).2.2.2.2.2 rfl), fun k hk => ?_, h.ne, h.l.trans (hg.below h.sz fun k hk => (hH k hk).1)⟩
  · obtain ⟨b1, b2, b3, b4, b5, _⟩ := n0 k hk
    exact ⟨b1, b2, b3, b4, b5⟩
  · obtain ⟨b1, b2, b3, b4, _⟩ := n1 k hk
    exact ⟨b1, b2, b3, b4⟩
  · obtain ⟨b1, b2, b3, b4, b5, _, _⟩ := h.zz k hk
    refine ⟨b1, b2, b3, b4, b5, fun e => ?_, fun e => ?_⟩
    · obtain ⟨_, _, _, _, _, d1, d2, d3⟩ := n0 k e
      rcases hk with e2 | e2 | e2
      · exact d1 e2
      · exact d2 e2
      · exact d3 e2
    · obtain ⟨_, _, _, _, d1, d2, d3⟩ := n1 k e
      rcases hk with e2 | e2 | e2
      · exact d1 e2
      · exact d2 e2
      · exact d3 e2
theorem Om.full0 (h : Om w la xb l0 l1 da db gb sb cb F G x y v ps u0 r0 u1 r1 s0 s1 av bv W) (k : Nat) (hk : BlkR u0 r0 k) : ¬ F k ∧ ¬ G k ∧ k ≠ xb ∧ ¬ BlkP v ps k ∧ ¬ BlkR u1 r1 k ∧ k ≠ sb ∧ k ≠ cb ∧ k ≠ gb := by
  obtain ⟨a1, a2, a3, a4, a5⟩ := h.z0 k hk
  exact ⟨a1, a2, a3, a4, a5, fun e => (h.zz k (Or.inl e)).2.2.2.2.2.1 hk, fun e => (h.zz k (Or.inr (Or.inl e))).2.2.2.2.2.1 hk, fun e => (h.zz k (Or.inr (Or.inr e))).2.2.2.2.2.1 hk⟩
theorem Om.full1 (h : Om w la xb l0 l1 da db gb sb cb F G x y v ps u0 r0 u1 r1 s0 s1 av bv W) (k : Nat) (hk : BlkR u1 r1 k) : ¬ F k ∧ ¬ G k ∧ k ≠ xb ∧ ¬ BlkP v ps k ∧ ¬ BlkR u0 r0 k ∧ k ≠ sb ∧ k ≠ cb ∧ k ≠ gb := by
  obtain ⟨a1, a2, a3, a4⟩ := h.z1 k hk
  exact ⟨a1, a2, a3, a4, fun e => (h.z0 k e).2.2.2.2 hk, fun e => (h.zz k (Or.inl e)).2.2.2.2.2.2 hk, fun e => (h.zz k (Or.inr (Or.inl e))).2.2.2.2.2.2 hk, fun e => (h.zz k (Or.inr (Or.inr e))).2.2.2.2.2.2 hk⟩
end
/-- A packet that comes to end e is read from sv; Q' are those that are under way then. -/
def OrP (K : Kk) (c : Nat) (e : Nat) (sv : Value) (u0 u1 : Value) (s0 s1 : Nat) (W : World) : Prop :=
  ∃ F G x y Q Q' p v ps r0 r1, Om K.w K.la K.xb K.l0 K.l1 K.da K.db K.gb K.sb K.cb F G x y v ps u0 r0 u1 r1 s0 s1 K.av K.bv W ∧ ps.map (fun p => (p.to, p.b)) = qB9 Q' ∧ Og K.A K.B s0 s1 x y Q (bytesOf2 r0) (bytesOf2 r1) c ∧ (!decide (e = 0), p) ∈ Q ∧ (∀ q ∈ Q', q ∈ Q) ∧ Q'.length ≤ Q.length ∧ Bs W sv (encP 9 p)
section
variable {K : Kk} {c e : Nat} {u0 u1 sv : Value} {s0 s1 : Nat} {W W' : World}
theorem OrP.keep (h : OrP K c e sv u0 u1 s0 s1 W) (hg : Gr (fun _ => False) W W') : OrP K c e sv u0 u1 s0 s1 W' := by
  obtain ⟨F, G, x, y, Q, Q', p, v, ps, r0, r1, h1, h2, h3, h4, h5, h6, h7⟩ := h
  exact ⟨F, G, x, y, Q, Q', p, v, ps, r0, r1, h1.keep hg, h2, h3, h4, h5, h6, h7.keep fun k _ hlt => hg.block k hlt fun h => h⟩
/-- It is lost. -/
theorem OrP.lost (h : OrP K c e sv u0 u1 s0 s1 W) : OrT K c u0 u1 s0 s1 W := by
  obtain ⟨F, G, x, y, Q, Q', p, v, ps, r0, r1, h1, h2, h3, _, h5, h6, _⟩ := h
  exact ⟨F, G, x, y, Q', v, ps, r0, r1, h1, h2, h3.lost h5 h6⟩
theorem hear_good {s : Lk} {B : Nat} {F : Nat → Prop} {lb : Nat} {id : Int} {w : World} {A : List (List Int)} {p : Pk} (hl : Lv A s) (h : Ld w B F lb id (s.hearS 16 p)) (hc : s.came ≤ 900) : ∀ q ∈ s.hearO 16 p, q.Good := fun q hq => by
  have hlv : Lv A (s.hear1 p) := (hl.own p.ack).come p
  have hle : (s.hear1 p).full 16 ≤ (s.hear1 p).L.length := full_le (W := 16) hlv
  have e1 : (s.hearS 16 p).L = (s.hear1 p).L ∧ (s.hearS 16 p).first = (s.hear1 p).first ∧ (s.hearS 16 p).came = (s.hear1 p).came := by
    unfold Lk.hearS
    split <;> exact ⟨rfl, rfl, rfl⟩
  unfold Lk.hearO at hq
  split at hq
  · simp only [List.mem_cons, List.not_mem_nil, or_false] at hq
    rw [hq]
    have h1 := come_came s 16 p
    rw [e1.2.2] at h1
    exact ⟨Nat.zero_le _, (by show (s.hear1 p).came ≤ _; rw [h1]; split <;> omega), (fun z hz => by cases hz), Nat.zero_le _, fun _ => rfl⟩
  · obtain ⟨n, hn, rfl⟩ := List.mem_map.1 hq
    rw [List.mem_range'_1] at hn
    obtain ⟨_, _, hp⟩ := h.l
    have := hp.pkGood (n := n) (by rw [e1.2.1]; omega) (by rw [e1.2.1, e1.1]; omega)
    unfold Lk.pk at this ⊢
    rw [e1.2.1, e1.2.2, e1.1] at this
    exact this
/-- It comes to end 0. -/
theorem OrP.hear0 (h : OrP K c 0 sv u0 u1 s0 s1 W) (hK : K.Ok) (hc : c ≤ 900000) : Calls Tryd.prog 16 #[.pointer (some ⟨K.l0, 0, none⟩), sv] W fun r W2 => ∃ a1 n1 c1 a2 n2 c2 a3 n3 c3 W5, r = .returned (.tuple #[.slice a1 n1 c1, .slice a2 n2 c2]) ∧ W2.cell? ⟨K.cb, 0, none⟩ = some u0 ∧ Hid (∀ ty, (Builtin.append_ #[33, 33] ty #[u0, .slice a1 n1 c1]).run Tryd.prog W2 = .ok (.slice a3 n3 c3) W5) ∧ (W5.cell? ⟨K.cb, 0, none⟩).isSome = true ∧ W5.frozen? ⟨K.cb, 0, none⟩ = false ∧
      Hid (OrM K (c + 17) 0 (.slice a2 n2 c2) (.slice a3 n3 c3) u1 s0 s1 (W5.setCell ⟨K.cb, 0, none⟩ (.slice a3 n3 c3))) := by
  obtain ⟨F, G, x, y, Q, Q', p, v, ps, r0, r1, h1, h2, h3, h4, h5, h6, h7⟩ := h
  have hg : p.Good := h3.gd _ h4
  have R := rd_enc 9 9 (by decide) p hg
  rw [if_pos rfl] at R
  have hL := encP_len 9 p hg
  have hsz := h1.sz
  obtain ⟨q1, q2, q3, q4, q5, q6⟩ := lenL hK h3
  have wx := h3.wx
  have wy := h3.wy
  refine (h1.m.a.hear (hK.t.below h1.l hK.h0) hK.h0 h7 (encP_byt 9 (by decide) p hg) (by omega) p R (by have := h3.bx.g; omega) (by omega) (by have := h3.bx.v; omega) (by omega)).mono ?_
  rintro r W2 ⟨ao, cap, os, bo, bc, rfl, O4, r4, P4, A4, G4⟩
  have m4 := h1.chg0 A4 G4 (fun k hk => Or.inl hk)
  have z4 := G4.size
  have hrl : r0.length ≤ 900 := by
    obtain ⟨f1, _, f3, _⟩ := h3.first
    rw [bytesOf2_len] at f1 f3
    have := h3.l0
    have := h3.l1
    have := hK.a
    have := hK.b
    omega
  have hosl : os.length ≤ 1 := by
    have := congrArg List.length r4
    rw [bytesOf2_len] at this
    rw [this]
    unfold Lk.rows
    split <;> simp
  obtain ⟨a3, c3, W5, hrun, hq5, g5, hat⟩ := m4.a0.app O4 hsz (fun k hk => (h1.a0.row.lt k hk).2) (by omega) (by omega)
  have gs : Gr (fun k => k = K.cb) W5 (W5.setCell ⟨K.cb, 0, none⟩ (.slice a3 (r0.length + os.length) c3)) := Gr.setCell _ _ _ rfl
  have gg : Gr (fun k => k = K.cb ∨ u0.ownBlock = some k) W2 (W5.setCell ⟨K.cb, 0, none⟩ (.slice a3 (r0.length + os.length) c3)) := (g5.mono fun _ h => Or.inr h).trans gs fun k hk => Or.inl (Or.inl hk)
  have own : ∀ k, u0.ownBlock = some k → BlkR u0 r0 k := fun k hk => Or.inl hk
  have qc5 : Cw W5 K.cb [u0, u1] 35 := g5.cw m4.qc fun e => (m4.full0 K.cb (own _ e)).2.2.2.2.2.2.1 rfl
  have nw : ∀ k, BlkR (.slice a3 (r0.length + os.length) c3) (r0 ++ os) k → BlkR u0 r0 k ∨ W.heap.size ≤ k := fun k hk => by
    rcases hk with hk | ⟨t, ht, hk⟩
    · rcases hat with e | ⟨k', e, hk'⟩
      · exact Or.inl (Or.inl (by rw [← e]; exact hk))
      · rw [e] at hk
        have := Option.some.inj hk
        exact Or.inr (by omega)
    · rcases List.mem_append.1 ht with ht | ht
      · exact Or.inl (Or.inr ⟨t, ht, hk⟩)
      · exact Or.inr (World.ownsRow.lt (O4.each t ht).1 k hk).1
  have ncb : ∀ k, BlkR (.slice a3 (r0.length + os.length) c3) (r0 ++ os) k → ¬ k = K.cb := fun k hk e => by
    rcases nw k hk with h | h
    · exact (m4.full0 k h).2.2.2.2.2.2.1 e
    · exact (h1.fresh k h).2.2.2.2.2.2.2.1 e
  have aN : Rq (W5.setCell ⟨K.cb, 0, none⟩ (.slice a3 (r0.length + os.length) c3)) K.la (.slice a3 (r0.length + os.length) c3) (r0 ++ os) := hq5.gr3 gs ncb
  have aO : Rq (W5.setCell ⟨K.cb, 0, none⟩ (.slice a3 (r0.length + os.length) c3)) K.la u1 r1 := m4.a1.gr3 gg fun k hk e => by
    have := m4.full1 k hk
    rcases e with e | e
    · exact this.2.2.2.2.2.2.1 e
    · exact this.2.2.2.2.1 (own k e)
  have f2 := h3.hear h4 h5 h6 (hear_good h3.two.lx A4 q5)
  rw [← r4, ← bytesOf2_append] at f2
  refine ⟨ao, os.length, cap, bo, _, bc, a3, _, c3, W5, rfl, m4.qc.cell 0, hrun, by rw [qc5.cell 0]; rfl, qc5.frozen 0, F, G, _, _, Q', _, W.heap.size, v, ps, r0 ++ os, r1, m4.put gg (fun k hk => ?_) _ _ _ _ (gs.cw (g5.cw m4.qs fun e => (m4.full0 K.sb (own _ e)).2.2.2.2.2.1 rfl) h1.ne.1) (qc5.set 0 _) aN aO (fun k hk => ?_) (fun k hk => ?_), h2, f2, (P4.gr g5 fun k k1 e => ?_).gr gs fun k k1 e => ?_, fun k k1 k2 => ?_⟩
  · rcases hk with rfl | hk
    · obtain ⟨b1, b2, b3, b4, b5, _⟩ := m4.zz K.cb (Or.inr (Or.inl rfl))
      exact ⟨b1, b2, b3, b4, b5, h1.ne.2.2⟩
    · obtain ⟨b1, b2, b3, b4, _, _, _, b8⟩ := m4.full0 k (own k hk)
      exact ⟨(h1.a0.row.lt k hk).1, b1, b2, b3, b4, b8⟩
  · rcases nw k hk with h | h
    · exact m4.full0 k h
    · obtain ⟨b1, b2, b3, b4, _, b6, b7, b8, b9⟩ := h1.fresh k h
      exact ⟨b1, b2, b3, b4, b6, b7, b8, b9⟩
  · obtain ⟨b1, b2, b3, b4, _, b6, b7, b8⟩ := m4.full1 k hk
    exact ⟨b1, b2, b3, b4, b6, b7, b8⟩
  · have := (h1.a0.row.lt k e).2
    omega
  · exact (h1.fresh k k1).2.2.2.2.2.2.2.1 e
  · obtain ⟨_, _, f3, f4, _, _, f7, f8, _⟩ := h1.fresh k k1
    exact ⟨f4, f3, f7, f8⟩
/-- It comes to end 1. -/
theorem OrP.hear1 (h : OrP K c 1 sv u0 u1 s0 s1 W) (hK : K.Ok) (hc : c ≤ 900000) : Calls Tryd.prog 16 #[.pointer (some ⟨K.l1, 0, none⟩), sv] W fun r W2 => ∃ a1 n1 c1 a2 n2 c2 a3 n3 c3 W5, r = .returned (.tuple #[.slice a1 n1 c1, .slice a2 n2 c2]) ∧ W2.cell? ⟨K.cb, 1, none⟩ = some u1 ∧ Hid (∀ ty, (Builtin.append_ #[33, 33] ty #[u1, .slice a1 n1 c1]).run Tryd.prog W2 = .ok (.slice a3 n3 c3) W5) ∧ (W5.cell? ⟨K.cb, 1, none⟩).isSome = true ∧ W5.frozen? ⟨K.cb, 1, none⟩ = false ∧
      Hid (OrM K (c + 17) 1 (.slice a2 n2 c2) u0 (.slice a3 n3 c3) s0 s1 (W5.setCell ⟨K.cb, 1, none⟩ (.slice a3 n3 c3))) := by
  obtain ⟨F, G, x, y, Q, Q', p, v, ps, r0, r1, h1, h2, h3, h4, h5, h6, h7⟩ := h
  have hg : p.Good := h3.gd _ h4
  have R := rd_enc 9 9 (by decide) p hg
  rw [if_pos rfl] at R
  have hL := encP_len 9 p hg
  have hsz := h1.sz
  obtain ⟨q1, q2, q3, q4, q5, q6⟩ := lenL hK h3
  have wx := h3.wx
  have wy := h3.wy
  refine (h1.m.b.hear (hK.t.below h1.l hK.h0) hK.h0 h7 (encP_byt 9 (by decide) p hg) (by omega) p R (by have := h3.bY.g; omega) (by omega) (by have := h3.bY.v; omega) (by omega)).mono ?_
  rintro r W2 ⟨ao, cap, os, bo, bc, rfl, O4, r4, P4, A4, G4⟩
  have m4 := h1.chg1 A4 G4 (fun k hk => Or.inl hk)
  have z4 := G4.size
  have hrl : r1.length ≤ 900 := by
    obtain ⟨f1, _, f3, _⟩ := h3.first
    rw [bytesOf2_len] at f1 f3
    have := h3.l0
    have := h3.l1
    have := hK.a
    have := hK.b
    omega
  have hosl : os.length ≤ 1 := by
    have := congrArg List.length r4
    rw [bytesOf2_len] at this
    rw [this]
    unfold Lk.rows
    split <;> simp
  obtain ⟨a3, c3, W5, hrun, hq5, g5, hat⟩ := m4.a1.app O4 hsz (fun k hk => (h1.a1.row.lt k hk).2) (by omega) (by omega)
  have gs : Gr (fun k => k = K.cb) W5 (W5.setCell ⟨K.cb, 1, none⟩ (.slice a3 (r1.length + os.length) c3)) := Gr.setCell _ _ _ rfl
  have gg : Gr (fun k => k = K.cb ∨ u1.ownBlock = some k) W2 (W5.setCell ⟨K.cb, 1, none⟩ (.slice a3 (r1.length + os.length) c3)) := (g5.mono fun _ h => Or.inr h).trans gs fun k hk => Or.inl (Or.inl hk)
  have own : ∀ k, u1.ownBlock = some k → BlkR u1 r1 k := fun k hk => Or.inl hk
  have qc5 : Cw W5 K.cb [u0, u1] 35 := g5.cw m4.qc fun e => (m4.full1 K.cb (own _ e)).2.2.2.2.2.2.1 rfl
  have nw : ∀ k, BlkR (.slice a3 (r1.length + os.length) c3) (r1 ++ os) k → BlkR u1 r1 k ∨ W.heap.size ≤ k := fun k hk => by
    rcases hk with hk | ⟨t, ht, hk⟩
    · rcases hat with e | ⟨k', e, hk'⟩
      · exact Or.inl (Or.inl (by rw [← e]; exact hk))
      · rw [e] at hk
        have := Option.some.inj hk
        exact Or.inr (by omega)
    · rcases List.mem_append.1 ht with ht | ht
      · exact Or.inl (Or.inr ⟨t, ht, hk⟩)
      · exact Or.inr (World.ownsRow.lt (O4.each t ht).1 k hk).1
  have ncb : ∀ k, BlkR (.slice a3 (r1.length + os.length) c3) (r1 ++ os) k → ¬ k = K.cb := fun k hk e => by
    rcases nw k hk with h | h
    · exact (m4.full1 k h).2.2.2.2.2.2.1 e
    · exact (h1.fresh k h).2.2.2.2.2.2.2.1 e
  have aN : Rq (W5.setCell ⟨K.cb, 1, none⟩ (.slice a3 (r1.length + os.length) c3)) K.la (.slice a3 (r1.length + os.length) c3) (r1 ++ os) := hq5.gr3 gs ncb
  have aO : Rq (W5.setCell ⟨K.cb, 1, none⟩ (.slice a3 (r1.length + os.length) c3)) K.la u0 r0 := m4.a0.gr3 gg fun k hk e => by
    have := m4.full0 k hk
    rcases e with e | e
    · exact this.2.2.2.2.2.2.1 e
    · exact this.2.2.2.2.1 (own k e)
  have f2 := (h3.flip.hear (p := p) (fl_mem h4) (fl_sub h5) (by rw [fl_len, fl_len]; exact h6) (hear_good h3.two.ly A4 q6)).flip
  rw [fl_app, fl_fl, fl_outX] at f2
  rw [← r4, ← bytesOf2_append] at f2
  refine ⟨ao, os.length, cap, bo, _, bc, a3, _, c3, W5, rfl, m4.qc.cell 1, hrun, by rw [qc5.cell 1]; rfl, qc5.frozen 1, F, G, _, _, Q', _, W.heap.size, v, ps, r0, r1 ++ os, m4.put gg (fun k hk => ?_) _ _ _ _ (gs.cw (g5.cw m4.qs fun e => (m4.full1 K.sb (own _ e)).2.2.2.2.2.1 rfl) h1.ne.1) (qc5.set 1 _) aO aN (fun k hk => ?_) (fun k hk => ?_), h2, f2, (P4.gr g5 fun k k1 e => ?_).gr gs fun k k1 e => ?_, fun k k1 k2 => ?_⟩
  · rcases hk with rfl | hk
    · obtain ⟨b1, b2, b3, b4, b5, _⟩ := m4.zz K.cb (Or.inr (Or.inl rfl))
      exact ⟨b1, b2, b3, b4, b5, h1.ne.2.2⟩
    · obtain ⟨b1, b2, b3, b4, _, _, _, b8⟩ := m4.full1 k (own k hk)
      exact ⟨(h1.a1.row.lt k hk).1, b1, b2, b3, b4, b8⟩
  · obtain ⟨b1, b2, b3, b4, b5, b6, b7, b8⟩ := m4.full0 k hk
    refine ⟨b1, b2, b3, b4, fun h => ?_, b6, b7, b8⟩
    rcases nw k h with h | h
    · exact b5 h
    · exact (h1.fresh k h).2.2.2.2.1 hk
  · rcases nw k hk with h | h
    · obtain ⟨b1, b2, b3, b4, _, b6, b7, b8⟩ := m4.full1 k h
      exact ⟨b1, b2, b3, b4, b6, b7, b8⟩
    · obtain ⟨b1, b2, b3, b4, _, _, b7, b8, b9⟩ := h1.fresh k h
      exact ⟨b1, b2, b3, b4, b7, b8, b9⟩
  · have := (h1.a1.row.lt k e).2
    omega
  · exact (h1.fresh k k1).2.2.2.2.2.2.2.1 e
  · obtain ⟨_, _, f3, f4, _, _, f7, f8, _⟩ := h1.fresh k k1
    exact ⟨f4, f3, f7, f8⟩
end
end Go.Proofs.YtahodgmdikaedaaDoor
end

section
/-
  LinkOrder: a packet is picked out of those under way, and taken away.
-/
namespace Go.Proofs.YtahodgmdikaedaaDoor
open Go.RowKit
theorem flP_take (ps : List Pq) (k : Nat) : flP (ps.take k) = (flP ps).take (2 * k) := by
  induction ps generalizing k with
  | nil => simp [flP]
  | cons p t ih =>
    cases k with
    | zero => rfl
    | succ k =>
      rw [List.take_succ_cons, flP_cons, flP_cons, ih, show 2 * (k + 1) = 2 * k + 1 + 1 by omega, List.take_succ_cons, List.take_succ_cons]
theorem flP_drop (ps : List Pq) (k : Nat) : flP (ps.drop k) = (flP ps).drop (2 * k) := by
  induction ps generalizing k with
  | nil => simp [flP]
  | cons p t ih =>
    cases k with
    | zero => rfl
    | succ k =>
      rw [List.drop_succ_cons, flP_cons, ih, show 2 * (k + 1) = 2 * k + 1 + 1 by omega, List.drop_succ_cons, List.drop_succ_cons]
theorem flP_get {ps : List Pq} {k : Nat} {p : Pq} (h : ps[k]? = some p) : (flP ps)[2 * k]? = some (.int .i64 p.to) ∧ (flP ps)[2 * k + 1]? = some p.v := by
  induction ps generalizing k with
  | nil => cases h
  | cons q t ih =>
    cases k with
    | zero =>
      obtain rfl : q = p := Option.some.inj h
      exact ⟨rfl, rfl⟩
    | succ k =>
      have := ih (k := k) h
      rw [flP_cons, show 2 * (k + 1) = 2 * k + 1 + 1 by omega]
      exact this
section
variable {w w' : World} {B : Nat} {v : Value} {ps : List Pq}
theorem flP_one (h : Wq w B v ps) : ∀ u ∈ flP ps, u.oneCell' = true := fun u hu => by
  unfold flP at hu
  rw [List.mem_flatMap] at hu
  obtain ⟨p, hp, hu⟩ := hu
  simp only [List.mem_cons, List.not_mem_nil, or_false] at hu
  rcases hu with rfl | rfl
  · rfl
  · obtain ⟨a, c, e, _⟩ := (h.each p hp).1.bs.len
    rw [e]
    rfl
/-- A packet of them. -/
theorem Wq.get (h : Wq w B v ps) {k : Nat} {p : Pq} (hp : ps[k]? = some p) : ∃ g off cap ap cp, v = .slice (some ⟨g, off, none⟩) ps.length cap ∧ ps.length ≤ cap ∧ cap ≤ maxLen ∧ p.v = .slice ap p.b.length cp ∧ w.cell? ⟨g, off + 2 * k, none⟩ = some (.int .i64 p.to) ∧ w.cell? ⟨g, off + 2 * k + 1, none⟩ = some (.slice ap p.b.length cp) ∧ Ow w B p.v p.b := by
  have hk := (List.getElem?_eq_some_iff.1 hp).1
  obtain ⟨g, off, cap, hv, _, c1, c2, _, hc, _⟩ := h.row.cell (by omega)
  obtain ⟨e1, _⟩ := h.each p (List.mem_of_getElem? hp)
  obtain ⟨ap, cp, hr, _⟩ := e1.bs.len
  obtain ⟨f1, f2⟩ := flP_get hp
  refine ⟨g, off, cap, ap, cp, hv, c1, c2, hr, hc _ _ f1, ?_, e1⟩
  have := hc _ _ f2
  rw [hr] at this
  exact this
/-- All but one of them, in a row anew. -/
theorem Wq.erase (h : Wq w B v ps) (hB : B ≤ w.heap.size) {k : Nat} (hk : k < ps.length) (hl : ps.length ≤ 1000000) {g off cap : Nat} (hv : v = .slice (some ⟨g, off, none⟩) ps.length cap) (a2 : Addr) (cc : Nat) (ha : k + 1 < ps.length → a2 = ⟨g, off + 2 * (k + 1), none⟩) :
    ∃ a3 c3 w3 a4 c4 w4, (∀ ty, (Builtin.append_ #[44, 44] ty #[.slice (some ⟨w.heap.size, 0, none⟩) 0 0, .slice (some ⟨g, off, none⟩) k cap]).run Tryd.prog (w.alloc (.cells #[] 50)) = .ok (.slice a3 k c3) w3) ∧
      (∀ ty, (Builtin.append_ #[44, 44] ty #[.slice a3 k c3, .slice (some a2) (ps.length - (k + 1)) cc]).run Tryd.prog w3 = .ok (.slice a4 (ps.length - 1) c4) w4) ∧ Below w.heap.size w w3 ∧ Below w.heap.size w w4 ∧ Wq w4 B (.slice a4 (ps.length - 1) c4) (ps.eraseIdx k) ∧ (∀ j, (Value.slice a4 (ps.length - 1) c4).ownBlock = some j → w.heap.size ≤ j) := by
  obtain ⟨g2, off2, cap2, hv2, _, c1, c2, _, hc, _⟩ := h.row.cell (by omega)
  rw [hv] at hv2
  simp only [Value.slice.injEq, Option.some.injEq, Addr.mk.injEq, and_true] at hv2
  obtain ⟨⟨rfl, rfl⟩, _, rfl⟩ := hv2
  have hlen := flP_len ps
  have hone := flP_one h
  have Ba : Below w.heap.size w (w.alloc (.cells #[] 50)) := (Below.refl _ _).alloc (Nat.le_refl _) _
  have hsa : (w.alloc (.cells #[] 50)).heap.size = w.heap.size + 1 := World.size_alloc _ _
  have hx : Qr (w.alloc (.cells #[] 50)) w.heap.size 50 2 (.slice (some ⟨w.heap.size, 0, none⟩) 0 0) 0 [] := ⟨rfl, Or.inr ⟨w.heap.size, 0, 0, #[], rfl, Nat.le_refl _, heap_alloc_new w _, Nat.le_refl _, by unfold maxLen; omega, by simp, by simp⟩⟩
  obtain ⟨a3, c3, w3, hr3, hq3, hg3, hat3⟩ := hx.append 44 (.agg #[.int .i64 0, .slice none 0 0]) Tryd.underlying44 info50 rfl (by decide) ⟨g, off, none⟩ k cap ((flP ps).take (2 * k)) (by rw [List.length_take, hlen]; omega) (fun j u hu => by
    have hj := (List.getElem?_eq_some_iff.1 hu).1
    rw [List.length_take] at hj
    rw [List.getElem?_take_of_lt (by omega)] at hu
    rw [Addr.add_lit, Ba.cell (World.block_lt_of_cell? w _ (hc j u hu))]
    exact hc j u hu) (fun u hu => hone u (List.mem_of_mem_take hu)) (by unfold maxLen; omega) (by omega) (by omega)
  rw [Nat.zero_add, List.nil_append] at *
  have hown : ∀ j, (Value.slice (some ⟨w.heap.size, 0, none⟩) 0 0).ownBlock = some j → w.heap.size ≤ j := fun j hj => by
    have : w.heap.size = j := Option.some.inj hj
    omega
  have B3 : Below w.heap.size w w3 := Ba.trans ⟨hg3.os, hg3.tape, hg3.output, hg3.size, fun j hj => hg3.block j (by omega) (fun e => by have := hown j e.symm; omega)⟩
  obtain ⟨a4, c4, w4, hr4, hq4, hg4, hat4⟩ := hq3.append 44 (.agg #[.int .i64 0, .slice none 0 0]) Tryd.underlying44 info50 rfl (by decide) a2 (ps.length - (k + 1)) cc ((flP ps).drop (2 * (k + 1))) (by rw [List.length_drop, hlen]; omega) (fun j u hu => by
    have hj := (List.getElem?_eq_some_iff.1 hu).1
    rw [List.length_drop, hlen] at hj
    rw [List.getElem?_drop] at hu
    rw [ha (by omega), Addr.add_lit, B3.cell (by have := World.block_lt_of_cell? w _ (hc _ u hu); exact this)]
    have := hc _ u hu
    rw [← Nat.add_assoc] at this
    exact this) (fun u hu => hone u (List.mem_of_mem_drop hu)) (by unfold maxLen; omega) (by omega) (by have := B3.size; omega)
  rw [show k + (ps.length - (k + 1)) = ps.length - 1 by omega] at hr4 hq4 hat4
  have B4 : Below w.heap.size w w4 := B3.trans ⟨hg4.os, hg4.tape, hg4.output, hg4.size, fun j hj => hg4.block j (by have := B3.size; omega) (fun e => by have := (hq3.lt j e.symm).1; omega)⟩
  have he : ps.eraseIdx k = ps.take k ++ ps.drop (k + 1) := List.eraseIdx_eq_take_drop_succ ps k
  have hlt4 := hq4.lt
  refine ⟨a3, c3, w3, a4, c4, w4, hr3, hr4, B3, B4, ⟨?_, fun p hp => ?_⟩, fun j hj => (hlt4 j hj).1⟩
  · rw [List.length_eraseIdx, if_pos hk, he, flP_app, flP_take, flP_drop]
    exact hq4.mono hB
  · have hm : p ∈ ps := List.mem_of_mem_eraseIdx hp
    obtain ⟨e1, _⟩ := h.each p hm
    refine ⟨e1.keep fun j _ hlt => B4.block j hlt, fun j hj e => ?_⟩
    have := (World.ownsRow.lt e1 j hj).2
    have := (hlt4 j e).1
    omega
end
end Go.Proofs.YtahodgmdikaedaaDoor
end

section
/-
  LinkOrder: a packet is picked, on the law's own state.
-/
namespace Go.Proofs.YtahodgmdikaedaaDoor
open Go.RowKit
section
variable {w W W' : World} {la xb l0 l1 da db gb sb cb : Nat} {F G : Nat → Prop} {x y : Lk} {v : Value} {ps : List Pq} {u0 u1 : Value} {r0 r1 : List Rw2} {s0 s1 : Nat} {av bv : Value}
/-- Other packets are under way. -/
theorem Om.way (h : Om w la xb l0 l1 da db gb sb cb F G x y v ps u0 r0 u1 r1 s0 s1 av bv W) (hb : Below W.heap.size W W') {v' : Value} {ps' : List Pq} (hq : Wq W' la v' ps') (hs : ∀ p ∈ ps', p ∈ ps) (ho : ∀ j, v'.ownBlock = some j → W.heap.size ≤ j) : Om w la xb l0 l1 da db gb sb cb F G x y v' ps' u0 r0 u1 r1 s0 s1 av bv (W'.setCell ⟨xb, 4, none⟩ v') := by
  have h4 := h.keep (Gr.of_below hb (fun _ => False) fun k h1 h2 => by omega)
  have gs : Gr (fun k => k = xb) W' (W'.setCell ⟨xb, 4, none⟩ v') := Gr.setCell _ _ _ rfl
  have bk : ∀ k, BlkP v' ps' k → BlkP v ps k ∨ W.heap.size ≤ k := fun k hk => by
    rcases hk with hk | ⟨p, hp, hk⟩
    · exact Or.inr (ho k hk)
    · exact Or.inl (Or.inr ⟨p, hs p hp, hk⟩)
  have nk : ∀ k, k < W.heap.size → ¬ BlkP v ps k → ¬ BlkP v' ps' k := fun k h1 h2 e => by
    rcases bk k e with e | e
    · exact h2 e
    · omega
  have nx : ¬ BlkP v' ps' xb := nk xb h.m.o.q.lt h.m.o.n
  refine ⟨⟨⟨h4.m.o.q.set 4 v', hq.gr gs fun k hk e => nx (by rw [← e]; exact hk), nx, h.m.o.b⟩, h4.m.a.gr gs fun k hk e => h.m.x.1 (by rw [← e]; exact hk), h4.m.b.gr gs fun k hk e => h.m.x.2 (by rw [← e]; exact hk), h.m.x, h.m.fg, fun k hk => ?_⟩, h4.a0.gr3 gs fun k hk => (h.z0 k hk).2.2.1, h4.a1.gr3 gs fun k hk => (h.z1 k hk).2.2.1, fun k hk => ?_, fun k hk => ?_, gs.cw h4.qs (h.zz sb (Or.inl rfl)).2.2.2.1, gs.cw h4.qc (h.zz cb (Or.inr (Or.inl rfl))).2.2.2.1, gs.cw h4.qg (h.zz gb (Or.inr (Or.inr rfl))).2.2.2.1, fun k hk => ?_, h.ne, h4.l.trans (gs.below h4.sz fun k hk => by have := h.m.o.b; omega)⟩
  · rcases bk k hk with e | e
    · exact h.m.p k e
    · exact ⟨(h.fresh k e).1, (h.fresh k e).2.1⟩
  · obtain ⟨a1, a2, a3, a4, a5⟩ := h.z0 k hk
    exact ⟨a1, a2, a3, nk k (h.a0.blkR k hk).2 a4, a5⟩
  · obtain ⟨a1, a2, a3, a4⟩ := h.z1 k hk
    exact ⟨a1, a2, a3, nk k (h.a1.blkR k hk).2 a4⟩
  · obtain ⟨a1, a2, a3, a4, a5, a6⟩ := h.zz k hk
    refine ⟨a1, a2, a3, a4, nk k ?_ a5, a6⟩
    rcases hk with rfl | rfl | rfl
    · exact h.qs.lt
    · exact h.qc.lt
    · exact h.qg.lt
end
theorem qB9_get {Q : Qe} {ps : List Pq} (h : ps.map (fun p => (p.to, p.b)) = qB9 Q) {k : Nat} {p : Pq} (hp : ps[k]? = some p) : ∃ q, Q[k]? = some q ∧ p.to = (if q.1 = true then 1 else 0) ∧ p.b = encP 9 q.2 := by
  have h2 := congrArg (fun l => l[k]?) h
  simp only [qB9, List.getElem?_map, hp, Option.map_some] at h2
  cases hq : Q[k]? with
  | none => rw [hq] at h2; cases h2
  | some q =>
    rw [hq] at h2
    simp only [Option.map_some, Option.some.injEq, Prod.mk.injEq] at h2
    exact ⟨q, rfl, h2.1, h2.2⟩
theorem eraseIdx_map {α β : Type} (f : α → β) (l : List α) (k : Nat) : (l.eraseIdx k).map f = (l.map f).eraseIdx k := by
  rw [List.eraseIdx_eq_take_drop_succ, List.eraseIdx_eq_take_drop_succ, List.map_append, List.map_take, List.map_drop]
section
variable {K : Kk} {c : Nat} {u0 u1 : Value} {s0 s1 : Nat} {W : World}
/-- What is under way. -/
theorem OrT.queue (h : OrT K c u0 u1 s0 s1 W) (hc : c ≤ 900000) : ∃ ao n cap, W.cell? ⟨K.xb, 4, none⟩ = some (.slice ao n cap) ∧ n ≤ c ∧ (∀ j, W.frozen? ⟨K.xb, j, none⟩ = false) ∧ K.xb < W.heap.size ∧ ∀ k, k < n → ∃ (g off : Nat) (ap : Option Addr) (bl cp e : Nat), ao = some ⟨g, off, none⟩ ∧ n ≤ cap ∧ cap ≤ maxLen ∧ e ≤ 1 ∧ W.cell? ⟨g, off + 2 * k, none⟩ = some (.int .i64 (e : Int)) ∧ W.cell? ⟨g, off + 2 * k + 1, none⟩ = some (.slice ap bl cp) ∧
    Hid (∀ W2, Gr (fun _ => False) W W2 → OrP K c e (.slice ap bl cp) u0 u1 s0 s1 W2) ∧
    Hid (∀ W2, Gr (fun _ => False) W W2 → ∀ a2 cc, (k + 1 < n → a2 = ⟨g, off + 2 * (k + 1), none⟩) → ∃ a3 c3 w3 a4 c4 w4, (∀ ty, (Builtin.append_ #[44, 44] ty #[.slice (some ⟨W2.heap.size, 0, none⟩) 0 0, .slice (some ⟨g, off, none⟩) k cap]).run Tryd.prog (W2.alloc (.cells #[] 50)) = .ok (.slice a3 k c3) w3) ∧
      (∀ ty, (Builtin.append_ #[44, 44] ty #[.slice a3 k c3, .slice (some a2) (n - (k + 1)) cc]).run Tryd.prog w3 = .ok (.slice a4 (n - 1) c4) w4) ∧ Below W2.heap.size W2 w3 ∧ Below W2.heap.size W2 w4 ∧ OrP K c e (.slice ap bl cp) u0 u1 s0 s1 (w4.setCell ⟨K.xb, 4, none⟩ (.slice a4 (n - 1) c4))) := by
  obtain ⟨F, G, x, y, Q, v, ps, r0, r1, h1, h2, h3⟩ := h
  obtain ⟨ao, cap, hv⟩ := h1.m.o.k.row.form
  subst hv
  have hp := ps_len h2
  have hql := h3.ql
  refine ⟨ao, ps.length, cap, h1.m.o.q.cell 4, by omega, h1.m.o.q.frozen, h1.m.o.q.lt, fun k hk => ?_⟩
  obtain ⟨p, hp2⟩ : ∃ p, ps[k]? = some p := ⟨_, List.getElem?_eq_getElem hk⟩
  obtain ⟨g, off, cap2, ap, cp, hv, c1, c2, hpv, k0, k1, hpo⟩ := h1.m.o.k.get hp2
  simp only [Value.slice.injEq] at hv
  obtain ⟨rfl, _, rfl⟩ := hv
  obtain ⟨q, hq, hto, hpb⟩ := qB9_get h2 hp2
  obtain ⟨b, pk⟩ := q
  obtain ⟨e, he, heb, hte⟩ : ∃ e : Nat, e ≤ 1 ∧ b = !decide (e = 0) ∧ p.to = (e : Int) := by
    cases b
    · exact ⟨0, by decide, rfl, hto⟩
    · exact ⟨1, by decide, rfl, hto⟩
  have hmem : (!decide (e = 0), pk) ∈ Q := by rw [← heb]; exact List.mem_of_getElem? hq
  have hpb : p.b = encP 9 pk := hpb
  have hbs : Bs W (.slice ap p.b.length cp) (encP 9 pk) := by
    have := hpo.bs
    rw [hpv] at this
    rw [← hpb]
    exact this
  rw [hte] at k0
  refine ⟨g, off, ap, p.b.length, cp, e, rfl, c1, c2, he, k0, k1, fun W2 hg => ?_, fun W2 hg a2 cc ha => ?_⟩
  · exact ⟨F, G, x, y, Q, Q, pk, _, ps, r0, r1, h1.keep hg, h2, h3, hmem, fun _ h => h, Nat.le_refl _, hbs.keep fun k _ hlt => hg.block k hlt fun h => h⟩
  · have m2 := h1.keep hg
    obtain ⟨a3, c3, w3, a4, c4, w4, hr3, hr4, B3, B4, hq4, ho4⟩ := m2.m.o.k.erase m2.sz hk (by omega) rfl a2 cc ha
    have m5 := m2.way B4 hq4 (fun p hp => List.mem_of_mem_eraseIdx hp) ho4
    refine ⟨a3, c3, w3, a4, c4, w4, hr3, hr4, B3, B4, F, G, x, y, Q, Q.eraseIdx k, pk, _, _, r0, r1, m5, ?_, h3, hmem, fun q hq => List.mem_of_mem_eraseIdx hq, List.length_eraseIdx_le .., ?_⟩
    · rw [eraseIdx_map, h2]
      unfold qB9
      rw [eraseIdx_map]
    · have hb2 : Bs W2 (.slice ap p.b.length cp) (encP 9 pk) := hbs.keep fun k _ hlt => hg.block k hlt fun h => h
      have hb4 : Bs w4 (.slice ap p.b.length cp) (encP 9 pk) := hb2.keep fun k _ hlt => B4.block k hlt
      have gs : Gr (fun k => k = K.xb) w4 (w4.setCell ⟨K.xb, 4, none⟩ (.slice a4 (ps.length - 1) c4)) := Gr.setCell _ _ _ rfl
      refine hb4.keep fun j hj hlt => gs.block j hlt fun e => ?_
      exact h1.m.o.n (Or.inr ⟨p, List.mem_of_getElem? hp2, by rw [hpv, ← e]; exact hj⟩)
end
end Go.Proofs.YtahodgmdikaedaaDoor
end

section
/-
  The removal of what was picked: 'append([]packet{}, way[:k]...)' and its rest, in a region that draws its order.
-/
namespace Go.Proofs.YtahodgmdikaedaaDoor
open Go.RowKit
theorem run_made_nil44 (w : World) : (Instr.buildSlice 44 0 #[]).run Tryd.prog w = .ok (.slice (some ⟨w.heap.size, 0, none⟩) 0 0) (w.alloc (.cells #[] 50)) := by kernel_rfl
section
variable {a : Act} {w : World} {ops : Array Oper} {o : Oper} {K : Act → World → Prop} {Q : Exit → Act → World → Prop} {E : Prop}
theorem step_made_nil44 (hgd : o.guard = none) (ho : o.op = .buildSlice 44 0 #[]) (h : K (a.put o.dst (.slice (some ⟨w.heap.size, 0, none⟩) 0 0)) (w.alloc (.cells #[] 50))) : if Region.wanted o (yielded ops a.tmps) = true then Oper.wp Tryd.prog o a w K Q else E := by
  have hw : Region.wanted o (yielded ops a.tmps) = true := by simp [Region.wanted, hgd]
  rw [if_pos hw]
  unfold Oper.wp execOp
  simp only [ho, Sem.run_bind, List.map_toArray, List.map_nil, run_made_nil44, Result.andThen_ok]
  exact h
end
/-- way[k+1:] -/
theorem run_rest44 (g off qn qc kk : Nat) (h1 : kk < qn) (h2 : qn ≤ qc) : ∃ a2 : Addr, (kk + 1 < qn → a2 = ⟨g, off + 2 * (kk + 1), none⟩) ∧ ∀ w : World, (Instr.slice 44 (.slice (some ⟨g, off, none⟩) qn qc) (some (.int .i64 ((kk : Int) + 1))) none none).run Tryd.prog w = .ok (.slice (some a2) (qn - (kk + 1)) (qc - (kk + 1))) w := by
  have kw : (kk : Int) + 1 ≤ (qn : Int) := by omega
  have k0 : (0 : Int) ≤ (kk : Int) + 1 := by omega
  have e1 : ((kk : Int) + 1).toNat = kk + 1 := by omega
  have hs : ∀ w : World, (sizeOf (Tryd.prog.elem 44)).run Tryd.prog w = .ok 2 w := fun w => by kernel_rfl
  have hr := fun w : World => run_slice_l (P := Tryd.prog) w 44 (some ⟨g, off, none⟩) qn qc (by kernel_rfl) .i64 ((kk : Int) + 1) k0 kw
  simp only [e1, hs, Result.andThen] at hr
  by_cases h : kk + 1 = qc
  · refine ⟨⟨g, off, none⟩, fun hh => by omega, fun w => ?_⟩
    rw [hr w]
    simp [sliced, h]
    try omega
  · refine ⟨⟨g, off + 2 * (kk + 1), none⟩, fun _ => rfl, fun w => ?_⟩
    have e2 : ¬ qc = kk + 1 := by omega
    have e3 : ¬ qc ≤ kk + 1 := by omega
    have e4 : ¬ qc - (kk + 1) = 0 := by omega
    have e5 : 0 < qc - (kk + 1) := by omega
    rw [hr w]
    simp [sliced, e2, Addr.add, Nat.mul_comm]
end Go.Proofs.YtahodgmdikaedaaDoor
end

section
/-
  LinkOrder: its beginning and its end, on the law's own state.
-/
namespace Go.Proofs.YtahodgmdikaedaaDoor
open Go.RowKit
/-- Numbers that can be read. -/
def Ir9 (w : World) (v : Value) (zs : List Int) : Prop := ∃ ao cap, v = .slice ao zs.length cap ∧ zs.length ≤ 140737488355328 ∧ (zs ≠ [] → ∃ b off, ao = some ⟨b, off, none⟩ ∧ b < w.heap.size ∧ ∀ i, i < zs.length → w.cell? ⟨b, off + i, none⟩ = some (.int .i64 (zs.getD i 0)))
theorem Rq.rs9 {w : World} {B : Nat} {v : Value} {rs : List Rw2} (h : Rq w B v rs) (hy : ∀ z ∈ bytesOf2 rs, Byt z ∧ z.length ≤ 140737488355328) (hl : rs.length ≤ 100000) : Rs w v rs := by
  obtain ⟨ao, cap, hv⟩ := h.row.form
  refine ⟨ao, cap, hv, by omega, fun r hr => ?_, fun hne => ?_⟩
  · obtain ⟨h1, h2⟩ := hy r.2 (List.mem_map.2 ⟨r, hr, rfl⟩)
    exact ⟨(h.each r hr).1.bs, h1, h2⟩
  · have hp : 0 < rs.length := by cases rs with
      | nil => exact absurd rfl hne
      | cons _ _ => simp
    obtain ⟨g, off, cap2, hv2, _, _, _, _, hc, _⟩ := h.row.cell hp
    rw [hv] at hv2
    simp only [Value.slice.injEq] at hv2
    obtain ⟨rfl, _, _⟩ := hv2
    exact ⟨g, off, rfl, fun i r hi => hc i r.1 (by simp [slOf, hi])⟩
theorem Rs.take9 {w : World} {rs : List Rw2} {ao : Option Addr} {cap : Nat} (h : Rs w (.slice ao rs.length cap) rs) {n : Nat} (hn : n ≤ rs.length) : Rs w (.slice ao n cap) (rs.take n) := by
  obtain ⟨ao', cap', hv, hl, hr, hc⟩ := h
  simp only [Value.slice.injEq] at hv
  obtain ⟨rfl, _, rfl⟩ := hv
  have e : (rs.take n).length = n := by rw [List.length_take]; omega
  refine ⟨ao, cap, by rw [e], by omega, fun r hm => hr r (List.mem_of_mem_take hm), fun hne => ?_⟩
  obtain ⟨b, off, e1, h1⟩ := hc (fun e2 => hne (by rw [e2]; simp))
  refine ⟨b, off, e1, fun i r hi => h1 i r ?_⟩
  have hi2 := (List.getElem?_eq_some_iff.1 hi).1
  rw [e] at hi2
  rw [List.getElem?_take_of_lt hi2] at hi
  exact hi
theorem bytesOf2_take9 (rs : List Rw2) (n : Nat) : bytesOf2 (rs.take n) = (bytesOf2 rs).take n := by unfold bytesOf2; rw [List.map_take]
section
variable {K : Kk} {c : Nat} {u0 u1 : Value} {s0 s1 : Nat} {W : World}
/-- The beginning. -/
theorem OrT.start {w w1 W : World} {la xb l0 l1 da db gb sb cb : Nat} {F G : Nat → Prop} {av bv : Value} (A B : List (List Int)) (h : Bn w1 la xb l0 l1 da db F G 9 newL newL (.slice none 0 0) []) (hl : Below la w w1) (hla : la ≤ w1.heap.size) (hb : Below w1.heap.size w1 W) (n1 : w1.heap.size ≤ gb) (n2 : gb < sb) (n3 : sb < cb)
    (qg : Cw W gb [av, bv] 35) (qs : Cw W sb [.int .i64 0, .int .i64 0] 36) (qc : Cw W cb [.slice none 0 0, .slice none 0 0] 35) : OrT ⟨w, la, xb, l0, l1, da, db, gb, sb, cb, av, bv, A, B⟩ 0 (.slice none 0 0) (.slice none 0 0) 0 0 W := by
  have hg : Gr (fun _ => False) w1 W := Gr.of_below hb _ fun k h1 h2 => by omega
  have nb : ∀ k, ¬ BlkR (.slice none 0 0) [] k := fun k hk => by
    rcases hk with hk | ⟨r, hr, _⟩
    · cases hk
    · cases hr
  have np : ∀ k, ¬ BlkP (.slice none 0 0) [] k := fun k hk => by
    rcases hk with hk | ⟨r, hr, _⟩
    · cases hk
    · cases hr
  refine ⟨F, G, newL, newL, [], _, [], [], [], ⟨⟨h.o.gr hg (fun h => h) fun _ _ h => h, h.a.gr hg fun _ _ h => h, h.b.gr hg fun _ _ h => h, h.x, h.fg, h.p⟩, Rq.nil _ _, Rq.nil _ _, fun k hk => (nb k hk).elim, fun k hk => (nb k hk).elim, qs, qc, qg, fun k hk => ?_, ⟨(by show sb ≠ cb; omega), (by show sb ≠ gb; omega), (by show cb ≠ gb; omega)⟩, hl.trans (hb.mono hla)⟩, rfl, Og.start A B⟩
  have hk : k = sb ∨ k = cb ∨ k = gb := hk
  have hk : w1.heap.size ≤ k := by omega
  exact ⟨(by show la ≤ k; omega), fun e => by have := h.a.hi k e; omega, fun e => by have := h.b.hi k e; omega, fun e => by have e : k = xb := e; have := h.o.q.lt; omega, np k, nb k, nb k⟩
/-- The end: what came is the first so many of what was sent. -/
theorem OrT.last (h : OrT K c u0 u1 s0 s1 W) (hK : K.Ok) (h0 : K.la = K.w.heap.size) {ra rb : List Rw2} {ao bo : Option Addr} {ca cb : Nat} (ha : Rs K.w (.slice ao ra.length ca) ra) (hb : Rs K.w (.slice bo rb.length cb) rb) (eA : K.A = bytesOf2 ra) (eB : K.B = bytesOf2 rb) {a0 a1 : Option Addr} {n0 n1 c0 c1 : Nat} (e0 : u0 = .slice a0 n0 c0) (e1 : u1 = .slice a1 n1 c1) :
    n1 ≤ ra.length ∧ n0 ≤ rb.length ∧ Hid (∀ V, Sm W V → Calls Tryd.prog 18 #[.slice a1 n1 c1, .slice ao n1 ca] V fun r V2 => r = .returned (.bool true) ∧ Sm V V2) ∧ Hid (∀ V, Sm W V → Calls Tryd.prog 18 #[.slice a0 n0 c0, .slice bo n0 cb] V fun r V2 => r = .returned (.bool true) ∧ Sm V V2) := by
  obtain ⟨F, G, x, y, Q, v, ps, r0, r1, h1, h2, h3⟩ := h
  obtain ⟨f1, f2, f3, f4⟩ := h3.first
  have g0 := h3.l0
  have g1 := h3.l1
  have hka := hK.a
  have hkb := hK.b
  rw [bytesOf2_len] at f1 f2 f3 f4
  obtain ⟨b0, d0, k0⟩ := h1.a0.row.form
  obtain ⟨b1, d1, k1⟩ := h1.a1.row.form
  rw [k0] at e0
  rw [k1] at e1
  simp only [Value.slice.injEq] at e0 e1
  obtain ⟨rfl, rfl, rfl⟩ := e0
  obtain ⟨rfl, rfl, rfl⟩ := e1
  subst k0
  subst k1
  have lA : K.A.length = ra.length := by rw [eA, bytesOf2_len]
  have lB : K.B.length = rb.length := by rw [eB, bytesOf2_len]
  have byA : ∀ z ∈ K.A, Byt z ∧ z.length ≤ 140737488355328 := fun z hz => by
    rw [eA] at hz
    obtain ⟨_, _, _, _, hr, _⟩ := ha
    obtain ⟨r, hr2, rfl⟩ := List.mem_map.1 hz
    exact (hr r hr2).2
  have byB : ∀ z ∈ K.B, Byt z ∧ z.length ≤ 140737488355328 := fun z hz => by
    rw [eB] at hz
    obtain ⟨_, _, _, _, hr, _⟩ := hb
    obtain ⟨r, hr2, rfl⟩ := List.mem_map.1 hz
    exact (hr r hr2).2
  have C1 : Rs W (.slice b1 r1.length d1) r1 := h1.a1.rs9 (by rw [f4]; exact fun z hz => byA z (List.mem_of_mem_take hz)) (by omega)
  have C0 : Rs W (.slice b0 r0.length d0) r0 := h1.a0.rs9 (by rw [f2]; exact fun z hz => byB z (List.mem_of_mem_take hz)) (by omega)
  have hbl := h1.l
  rw [h0] at hbl
  have DA : Rs W (.slice ao r1.length ca) (ra.take r1.length) := (Rs.take9 ha (by omega)).below hbl
  have DB : Rs W (.slice bo r0.length cb) (rb.take r0.length) := (Rs.take9 hb (by omega)).below hbl
  refine ⟨by omega, by omega, fun V hs => ?_, fun V hs => ?_⟩
  · have := rows_any _ _ r1 _ V (C1.below (hs.below _)) (DA.below (hs.below _))
    rw [eqR_true (by rw [bytesOf2_take9, ← eA]; exact f4)] at this
    exact this
  · have := rows_any _ _ r0 _ V (C0.below (hs.below _)) (DB.below (hs.below _))
    rw [eqR_true (by rw [bytesOf2_take9, ← eB]; exact f2)] at this
    exact this
end
end Go.Proofs.YtahodgmdikaedaaDoor
end
