/-
  LinkEnds: a packet comes to an end, by contracts: Hear, what came appended, what goes out.
-/
import Derived.Test.YtahodgmdikaedaaDoorEnMem
import Derived.Test.YtahodgmdikaedaaDoorEnStep
namespace Go.Proofs.YtahodgmdikaedaaDoor
open Go.RowKit
/-- All of it. -/
structure Ee (w : World) (la xb l0 l1 da db : Nat) (A : List (List Int)) (F G : Nat → Prop) (x y : Lk) (Q : Qe) (v : Value) (ps : List Pq) (cv : Value) (cr : List Rw2) (c : Nat) (W : World) : Prop where
  m : Em w la xb l0 l1 da db F G x y v ps cv cr W
  q : ps.map (fun p => (p.to, p.b)) = qB Q
  f : Ef A x y Q (bytesOf2 cr) c
theorem qB_len (Q : Qe) : (qB Q).length = Q.length := by simp [qB]
section
variable {w W : World} {la xb l0 l1 da db : Nat} {A : List (List Int)} {F G : Nat → Prop} {x y : Lk} {Q : Qe} {v : Value} {ps : List Pq} {cv : Value} {cr : List Rw2} {c : Nat} {p : Pk} {sv : Value}
theorem Ld.pkGood {w : World} {B : Nat} {F : Nat → Prop} {lb : Nat} {id : Int} {s : Lk} (h : Ld w B F lb id s) {n : Nat} (h1 : s.first ≤ n) (h2 : n < s.first + s.L.length) : (s.pk n).Good := by
  obtain ⟨v, rs, hl⟩ := h.l
  exact hl.pkGood h1 h2
theorem Ld.tab {w W : World} (ht : Tab w) {B : Nat} (hb : Below B w W) (h0 : 0 < B) : Tab W := ht.below hb h0
/-- A packet with a row comes to the second end. -/
theorem Ee.hearY (ht : Tab w) (h0 : 0 < la) (f : Ef A x y ((true, p) :: Q) (bytesOf2 cr) c) (m : Em w la xb l0 l1 da db F G x y v ps cv cr W) (hq : ps.map (fun p => (p.to, p.b)) = qB Q) (hb : Bs W sv (encP 3 p)) (hc : c ≤ 1000000000) (hQ : Q.length ≤ 1000) (pb : Nat) (hpb : ¬ F pb ∧ ¬ G pb ∧ cv.ownBlock ≠ some pb ∧ pb < W.heap.size) :
    Calls Tryd.prog 16 #[.pointer (some ⟨l1, 0, none⟩), sv] W fun e W4 => ∃ a1 n1 c1 a2 n2 c2 a3 n3 c3 W5, e = .returned (.tuple #[.slice a1 n1 c1, .slice a2 n2 c2]) ∧ (W4.heap[pb]? = W.heap[pb]? ∧ W5.heap[pb]? = W.heap[pb]?) ∧
      Hid (∀ ty, (Builtin.append_ #[33, 33] ty #[cv, .slice a1 n1 c1]).run Tryd.prog W4 = .ok (.slice a3 n3 c3) W5) ∧
      Hid (Calls Tryd.prog 17 #[.pointer (some ⟨xb, 0, none⟩), .int .i64 1, .slice a2 n2 c2] W5 fun e W6 => e = .returned (.tuple #[]) ∧ ∃ v' ps' cr', Ee w la xb l0 l1 da db A F G x (y.hearS 16 p) (Q ++ outY (y.hearO 16 p)) v' ps' (.slice a3 n3 c3) cr' (c + 17) W6) := by
  obtain ⟨hg, _⟩ := f.gd (true, p) (List.mem_cons_self ..)
  obtain ⟨hn, _⟩ := f.e.tr (true, p) (List.mem_cons_self ..) rfl
  obtain ⟨e1, e2, e3⟩ := yHear (W := 16) f.e.yL f.e.yw hn
  have hg : p.Good := hg
  have R := rd_enc 3 3 (by decide) p hg
  rw [if_pos rfl] at R
  have hL := encP_len 3 p hg
  have hyc := f.ycame
  have hsz := m.sz
  have f2 := f.popY
  refine (m.m.b.hear (ht.below m.l h0) h0 hb (encP_byt 3 (by decide) p hg) (by omega) p R (by have := f.bY.g; omega) (by omega) (by have := f.bY.v; omega) (by rw [f.yf, f.e.yw]; decide)).mono ?_
  rintro e W4 ⟨ao, cap, os, bo, bc, rfl, O4, r4, P4, B4, G4⟩
  have hcr4 := m.r.gr3 G4 fun k hk => (m.rb k hk).2.1
  have z4 := G4.size
  have hcrl : cr.length ≤ 60 := by
    have := congrArg List.length f.k.c
    rw [bytesOf2_len, List.length_take] at this
    omega
  have hosl : os.length ≤ 1 := by
    have := congrArg List.length r4
    rw [bytesOf2_len] at this
    rw [this]
    unfold Lk.rows
    split <;> simp
  obtain ⟨a3, c3, W5, hrun, hq5, g5, hat⟩ := hcr4.app O4 hsz (fun k hk => (m.r.row.lt k hk).2) (by omega) (by omega)
  have m4 : Em w la xb l0 l1 da db F G x (y.hearS 16 p) v ps cv cr W4 := ⟨⟨m.m.o.gr G4 m.m.x.2 fun k hk => (m.m.p k hk).2, m.m.a.gr G4 fun k hk => m.m.fg k hk, B4, m.m.x, m.m.fg, m.m.p⟩, hcr4, m.rb, m.l.trans (G4.below hsz m.m.b.b)⟩
  have b5 : ∀ k, cv.ownBlock = some k → ¬ F k ∧ ¬ G k ∧ k ≠ xb ∧ ¬ BlkP v ps k := fun k hk => m.rb k (Or.inl hk)
  have m5 : Em w la xb l0 l1 da db F G x (y.hearS 16 p) v ps (.slice a3 (cr.length + os.length) c3) (cr ++ os) W5 := by
    refine ⟨⟨m4.m.o.gr g5 (fun e => (b5 xb e).2.2.1 rfl) fun k hk e => (b5 k e).2.2.2 hk, m4.m.a.gr g5 fun k hk e => (b5 k e).1 hk, m4.m.b.gr g5 fun k hk e => (b5 k e).2.1 hk, m.m.x, m.m.fg, m.m.p⟩, hq5, fun k hk => ?_, m4.l.trans (g5.below m4.sz fun k hk => (m.r.row.lt k hk).1)⟩
    have fresh : W.heap.size ≤ k → ¬ F k ∧ ¬ G k ∧ k ≠ xb ∧ ¬ BlkP v ps k := fun hk => ⟨fun e => by have := m.m.a.hi k e; omega, fun e => by have := m.m.b.hi k e; omega, fun e => by have := m.m.o.q.lt; omega, fun e => by have := (m.m.o.k.blk k e).2; omega⟩
    rcases hk with hk | ⟨r, hr, hk⟩
    · rcases hat with e | ⟨k', e, hk'⟩
      · exact m.rb k (Or.inl (by rw [← e]; exact hk))
      · rw [e] at hk
        have := Option.some.inj hk
        exact fresh (by omega)
    · rcases List.mem_append.1 hr with hr | hr
      · exact m.rb k (Or.inr ⟨r, hr, hk⟩)
      · exact fresh (World.ownsRow.lt (O4.each r hr).1 k hk).1
  have P5 : Po W5 W.heap.size 3 (y.hearO 16 p) (.slice bo (y.hearO 16 p).length bc) := P4.gr g5 fun k hk e => by have := (m.r.row.lt k e).2; omega
  have hgo : ∀ q ∈ y.hearO 16 p, q.Good := fun q hq2 => (f2.gd (false, q) (List.mem_append_right _ (List.mem_map.2 ⟨q, hq2, rfl⟩))).1
  have hpl : ps.length = Q.length := by have := congrArg List.length hq; rw [List.length_map, qB_len] at this; exact this
  have hp4 : W4.heap[pb]? = W.heap[pb]? := G4.block pb hpb.2.2.2 hpb.2.1
  refine ⟨ao, os.length, cap, bo, _, bc, a3, cr.length + os.length, c3, W5, rfl, ⟨hp4, (g5.block pb (by have := hpb.2.2.2; omega) hpb.2.2.1).trans hp4⟩, hrun, ?_⟩
  refine (m5.out 1 (by decide) (y.hearO 16 p) P5 (fun k h1 h2 => ⟨fun e => by have := (m.m.o.k.blk k e).2; omega, fun e => by have := m.m.o.q.lt; omega⟩) hgo (by rw [e3, hpl]; simp; omega)).mono ?_
  rintro e W6 ⟨v', new, rfl, m6, hnew⟩
  exact ⟨rfl, v', ps ++ new, cr ++ os, m6, by rw [List.map_append, hq, hnew, qB_app, qB_outY], by rw [bytesOf2_append, r4]; exact f2⟩
/-- A packet without a row comes to the first end. -/
theorem Ee.hearX (ht : Tab w) (h0 : 0 < la) (f : Ef A x y ((false, p) :: Q) (bytesOf2 cr) c) (m : Em w la xb l0 l1 da db F G x y v ps cv cr W) (hq : ps.map (fun p => (p.to, p.b)) = qB Q) (hb : Bs W sv (encP 3 p)) (hc : c ≤ 1000000000) (hQ : Q.length ≤ 1000) (pb : Nat) (hpb : ¬ F pb ∧ ¬ G pb ∧ cv.ownBlock ≠ some pb ∧ pb < W.heap.size) :
    Calls Tryd.prog 16 #[.pointer (some ⟨l0, 0, none⟩), sv] W fun e W4 => ∃ a1 n1 c1 a2 n2 c2, e = .returned (.tuple #[.slice a1 n1 c1, .slice a2 n2 c2]) ∧ W4.heap[pb]? = W.heap[pb]? ∧
      Hid (Calls Tryd.prog 17 #[.pointer (some ⟨xb, 0, none⟩), .int .i64 0, .slice a2 n2 c2] W4 fun e W6 => e = .returned (.tuple #[]) ∧ ∃ v' ps', Ee w la xb l0 l1 da db A F G (x.hearS 16 p) y (Q ++ outX (x.hearO 16 p)) v' ps' cv cr (c + 17) W6) := by
  obtain ⟨hg, _⟩ := f.gd (false, p) (List.mem_cons_self ..)
  obtain ⟨hn, _⟩ := f.e.tk (false, p) (List.mem_cons_self ..) rfl
  have hn : p.n = 0 := hn
  obtain ⟨e1, e2⟩ := xHear (x := x) (W := 16) hn
  have hg : p.Good := hg
  have R := rd_enc 3 3 (by decide) p hg
  rw [if_pos rfl] at R
  have hL := encP_len 3 p hg
  have hsz := m.sz
  have hw := f.way16
  have hfi := f.first
  refine (m.m.a.hear (ht.below m.l h0) h0 hb (encP_byt 3 (by decide) p hg) (by omega) p R (by have := f.bx.g; omega) (by rw [f.xc]; decide) (by have := f.bx.v; omega) (by omega)).mono ?_
  rintro e W4 ⟨ao, cap, os, bo, bc, rfl, O4, r4, P4, A4, G4⟩
  have z4 := G4.size
  have hgo : ∀ q ∈ x.hearO 16 p, q.Good := fun q hq2 => by
    rw [e2] at hq2
    obtain ⟨n, hn2, rfl⟩ := List.mem_map.1 hq2
    rw [List.mem_range'_1] at hn2
    have hle : (x.own p.ack).full 16 ≤ (x.own p.ack).L.length := full_le (W := 16) (f.e.lx.own p.ack)
    have := A4.pkGood (n := n) (by rw [e1]; show (x.own p.ack).first ≤ n; omega) (by rw [e1]; show n < (x.own p.ack).first + (x.own p.ack).L.length; omega)
    rw [e1] at this
    exact this
  have f2 := f.popX hgo
  have m4 : Em w la xb l0 l1 da db F G (x.hearS 16 p) y v ps cv cr W4 := ⟨⟨m.m.o.gr G4 m.m.x.1 fun k hk => (m.m.p k hk).1, A4, m.m.b.gr G4 fun k hk e => m.m.fg k e hk, m.m.x, m.m.fg, m.m.p⟩, m.r.gr3 G4 fun k hk => (m.rb k hk).1, m.rb, m.l.trans (G4.below hsz m.m.a.b)⟩
  have hpl : ps.length = Q.length := by have := congrArg List.length hq; rw [List.length_map, qB_len] at this; exact this
  have hol : (x.hearO 16 p).length ≤ 16 := by
    rw [e2]
    unfold Lk.outs Lk.full
    rw [List.length_map, List.length_range']
    have : (x.own p.ack).way ≤ x.way := by show x.way - _ ≤ _; omega
    omega
  refine ⟨ao, os.length, cap, bo, _, bc, rfl, G4.block pb hpb.2.2.2 hpb.1, ?_⟩
  refine (m4.out 0 (by decide) (x.hearO 16 p) P4 (fun k h1 h2 => ⟨fun e => by have := (m.m.o.k.blk k e).2; omega, fun e => by have := m.m.o.q.lt; omega⟩) hgo (by omega)).mono ?_
  rintro e W6 ⟨v', new, rfl, m6, hnew⟩
  exact ⟨rfl, v', ps ++ new, m6, by rw [List.map_append, hq, hnew, qB_app, qB_outX], f2⟩
end
end Go.Proofs.YtahodgmdikaedaaDoor
