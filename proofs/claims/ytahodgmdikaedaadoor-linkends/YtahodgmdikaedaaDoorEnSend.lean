/-
  LinkEnds: rows are Sent at the first end; Ticks of both; by contracts.
-/
import Derived.Test.YtahodgmdikaedaaDoorEnHear
namespace Go.Proofs.YtahodgmdikaedaaDoor
open Go.RowKit
theorem En.put {A : List (List Int)} {x y : Lk} {Q : Qe} (h : En A 16 x y Q) (z : List Int) : En (A ++ [z]) 16 ((x.put z).goes 16) y (Q ++ outX ((x.put z).outs 16)) ∧ ((x.put z).goes 16).way = x.way + ((x.put z).outs 16).length := by
  have hf := h.fw
  have hw := h.lx.w
  have ef : (x.put z).full 16 = min (x.L.length + 1) 16 := by
    unfold Lk.full
    show max x.way (min (x.L ++ [z]).length 16) = _
    rw [List.length_append, List.length_singleton]
    omega
  have h1 := h.hi
  have hlf := h.lx.f
  refine ⟨⟨(h.lx.put z).goes, h.yL, h.yw, fun q hq hb => ?_, fun q hq hb => ?_, h.lo, ?_, ?_⟩, ?_⟩
  · show 0 < q.2.n ∧ q.2.n < x.first + (x.put z).full 16
    rw [ef]
    rcases List.mem_append.1 hq with hq | hq
    · have := h.tr q hq hb; omega
    · obtain ⟨r, hr, rfl⟩ := List.mem_map.1 hq
      obtain ⟨n, hn, rfl⟩ := List.mem_map.1 hr
      rw [List.mem_range'_1, ef] at hn
      have hn : x.first + x.way ≤ n ∧ n < x.first + x.way + (min (x.L.length + 1) 16 - x.way) := hn
      show 0 < n ∧ n < _
      omega
  · rcases List.mem_append.1 hq with hq | hq
    · exact h.tk q hq hb
    · obtain ⟨r, _, rfl⟩ := List.mem_map.1 hq
      cases hb
  · show y.came + 1 ≤ x.first + (x.put z).full 16
    rw [ef]; omega
  · show (x.put z).full 16 = min (x.L ++ [z]).length 16
    rw [ef, List.length_append, List.length_singleton]
  · show (x.put z).full 16 = x.way + _
    unfold Lk.outs
    rw [List.length_map, List.length_range', ef]
    show _ = x.way + (_ - x.way)
    omega
theorem Ef.put {A : List (List Int)} {x y : Lk} {Q : Qe} {c : Nat} (h : Ef A x y Q [] c) (hy : y.came = 0) (z : List Int) (hgo : ∀ q ∈ (x.put z).outs 16, q.Good) (hA : A.length < 60) : Ef (A ++ [z]) ((x.put z).goes 16) y (Q ++ outX ((x.put z).outs 16)) [] (c + 16) := by
  have hb : Bd c (x.put z) := ⟨h.bx.g, h.bx.v⟩
  refine ⟨(h.e.put z).1, ⟨by rw [hy]; rfl, by rw [hy]; omega⟩, fun q hq => ?_, hb.goes, h.bY.mono (by omega), ?_, h.sy, h.xc, h.yf, by rw [List.length_append]; simp; omega⟩
  · rcases List.mem_append.1 hq with hq | hq
    · obtain ⟨g1, g2⟩ := h.gd q hq
      exact ⟨g1, fun e => (g2 e).more z⟩
    · obtain ⟨r, hr, rfl⟩ := List.mem_map.1 hq
      exact ⟨hgo r hr, fun _ => outs_tr (h.e.lx.put z) r hr⟩
  · show (if _ then 0 else _) ≤ 4
    split
    · omega
    · exact h.sx
section
variable {w W : World} {la xb l0 l1 da db : Nat} {A : List (List Int)} {F G : Nat → Prop} {x y : Lk} {Q : Qe} {v : Value} {ps : List Pq} {cv : Value} {cr : List Rw2} {c : Nat} {sv : Value} {zs : List Int}
theorem Ee.send (ht : Tab w) (h0 : 0 < la) (h : Ee w la xb l0 l1 da db A F G x y Q v ps cv [] c W) (hy : y.came = 0) (hQ : Q.length = x.way) (hb : Bs W sv zs) (hyt : Byt zs) (hz : zs.length ≤ 4096) (hA : A.length < 60) (hc : c ≤ 1000000) :
    Calls Tryd.prog 14 #[.pointer (some ⟨l0, 0, none⟩), sv] W fun e W2 => ∃ a2 n2 c2, e = .returned (.tuple #[.slice a2 n2 c2, .int .i64 0]) ∧
      Hid (Calls Tryd.prog 17 #[.pointer (some ⟨xb, 0, none⟩), .int .i64 0, .slice a2 n2 c2] W2 fun e W6 => e = .returned (.tuple #[]) ∧ ∃ F' v' ps' Q', Ee w la xb l0 l1 da db (A ++ [zs]) F' G ((x.put zs).goes 16) y Q' v' ps' cv [] (c + 16) W6 ∧ Q'.length = ((x.put zs).goes 16).way) := by
  have hsz := h.m.sz
  have hl := h.f.len
  refine (h.m.m.a.send hsz (ht.below h.m.l h0) h0 hb hyt hz (by omega) (by have := h.f.bx.g; omega)).mono ?_
  rintro e W2 ⟨ao, cap, n, rfl, hn, P2, A2, G2⟩
  have z2 := G2.size
  obtain ⟨e1, e2⟩ := h.f.e.put zs
  have hgo : ∀ q ∈ (x.put zs).outs 16, q.Good := fun q hq => by
    obtain ⟨k, hk, rfl⟩ := List.mem_map.1 hq
    rw [List.mem_range'_1] at hk
    have hle : (x.put zs).full 16 ≤ (x.put zs).L.length := full_le (W := 16) (h.f.e.lx.put zs)
    exact A2.pkGood (n := k) (by show (x.put zs).first ≤ k; omega) (by show k < (x.put zs).first + (x.put zs).L.length; omega)
  have f2 := h.f.put hy zs hgo hA
  have m2 : Em w la xb l0 l1 da db (Fw F W.heap.size n) G ((x.put zs).goes 16) y v ps cv [] W2 := by
    have ob := h.m.m.o.k.blk
    refine ⟨⟨h.m.m.o.gr G2 h.m.m.x.1 fun k hk => (h.m.m.p k hk).1, A2, h.m.m.b.gr G2 fun k hk e => h.m.m.fg k e hk, ⟨fun e => ?_, h.m.m.x.2⟩, fun k hk => ?_, fun k hk => ⟨fun e => ?_, (h.m.m.p k hk).2⟩⟩, h.m.r.gr3 G2 fun k hk => (h.m.rb k hk).1, fun k hk => ?_, h.m.l.trans (G2.below hsz h.m.m.a.b)⟩
    · rcases e with e | e
      · exact h.m.m.x.1 e
      · have := h.m.m.o.q.lt; omega
    · rcases hk with hk | hk
      · exact h.m.m.fg k hk
      · exact fun e => by have := h.m.m.b.hi k e; omega
    · rcases e with e | e
      · exact (h.m.m.p k hk).1 e
      · have := (ob k hk).2; omega
    · obtain ⟨a1, a2, a3, a4⟩ := h.m.rb k hk
      refine ⟨fun e => ?_, a2, a3, a4⟩
      rcases e with e | e
      · exact a1 e
      · have := (h.m.r.blkR k hk).2; omega
  have hpl : ps.length = Q.length := by have := congrArg List.length h.q; rw [List.length_map, qB_len] at this; exact this
  have hw := h.f.way16
  have hol : ((x.put zs).outs 16).length ≤ 16 := by
    unfold Lk.outs Lk.full
    rw [List.length_map, List.length_range']
    have : (x.put zs).way = x.way := rfl
    omega
  refine ⟨ao, _, cap, rfl, ?_⟩
  refine (m2.out 0 (by decide) ((x.put zs).outs 16) P2 (fun k h1 h2 => ⟨fun e => by have := (h.m.m.o.k.blk k e).2; omega, fun e => by have := h.m.m.o.q.lt; omega⟩) hgo (by omega)).mono ?_
  rintro e W6 ⟨v', new, rfl, m6, hnew⟩
  refine ⟨rfl, _, v', ps ++ new, _, ⟨m6, by rw [List.map_append, h.q, hnew, qB_app, qB_outX], f2⟩, ?_⟩
  rw [List.length_append, e2, hQ]
  simp [outX]
/-- Both Ticks, behind an inner loop that left no packet. -/
theorem Ee.ticks (ht : Tab w) (h0 : 0 < la) (h : Ee w la xb l0 l1 da db A F G x y [] v ps cv cr c W) (hc : c ≤ 1000000000) :
    Calls Tryd.prog 15 #[.pointer (some ⟨l0, 0, none⟩)] W fun e W2 => ∃ a2 n2 c2, e = .returned (.slice a2 n2 c2) ∧
      Hid (Calls Tryd.prog 17 #[.pointer (some ⟨xb, 0, none⟩), .int .i64 0, .slice a2 n2 c2] W2 fun e W3 => e = .returned (.tuple #[]) ∧
        W3.cell? ⟨xb, 1, none⟩ = some (.pointer (some ⟨l1, 0, none⟩)) ∧ Hid (Calls Tryd.prog 15 #[.pointer (some ⟨l1, 0, none⟩)] W3 fun e W4 => ∃ a4 n4 c4, e = .returned (.slice a4 n4 c4) ∧
          Hid (Calls Tryd.prog 17 #[.pointer (some ⟨xb, 0, none⟩), .int .i64 1, .slice a4 n4 c4] W4 fun e W5 => e = .returned (.tuple #[]) ∧ ∃ v' ps', Ee w la xb l0 l1 da db A F G x.tickS y.tickS (outX x.tickO) v' ps' cv cr (c + 16) W5))) := by
  have hsz := h.m.sz
  have hw := h.f.way16
  have hps : ps = [] := by have := congrArg List.length h.q; rw [List.length_map] at this; exact List.eq_nil_of_length_eq_zero this
  subst hps
  refine (h.m.m.a.tick (ht.below h.m.l h0) h0 (by have := h.f.bx.g; omega) h.f.sx).mono ?_
  rintro e W2 ⟨ao, cap, rfl, P2, A2, G2⟩
  have z2 := G2.size
  have hgo : ∀ q ∈ x.tickO, q.Good := fun q hq => by
    obtain ⟨v', rs', hl⟩ := h.m.m.a.l
    unfold Lk.tickO at hq
    split at hq
    · cases hq
    · obtain ⟨n, hn, rfl⟩ := List.mem_map.1 hq
      rw [List.mem_range'_1] at hn
      have := h.f.e.lx.w
      exact hl.pkGood (by omega) (by omega)
  have f2 := h.f.tick hgo
  have m2 : Em w la xb l0 l1 da db F G x.tickS y v [] cv cr W2 := ⟨⟨h.m.m.o.gr G2 h.m.m.x.1 fun k hk => (h.m.m.p k hk).1, A2, h.m.m.b.gr G2 fun k hk e => h.m.m.fg k e hk, h.m.m.x, h.m.m.fg, h.m.m.p⟩, h.m.r.gr3 G2 fun k hk => (h.m.rb k hk).1, h.m.rb, h.m.l.trans (G2.below hsz h.m.m.a.b)⟩
  have hol := tickO_len x hw
  refine ⟨ao, _, cap, rfl, ?_⟩
  refine (m2.out 0 (by decide) x.tickO P2 (fun k h1 h2 => ⟨fun e => by have := (h.m.m.o.k.blk k e).2; omega, fun e => by have := h.m.m.o.q.lt; omega⟩) hgo (by simp; omega)).mono ?_
  rintro e W3 ⟨v3, new, rfl, m3, hnew⟩
  refine ⟨rfl, m3.m.o.q.cell 1, ?_⟩
  have z3 := m3.sz
  refine (m3.m.b.tick (ht.below m3.l h0) h0 (by have := h.f.bY.g; omega) h.f.sy).mono ?_
  rintro e W4 ⟨ao4, cap4, rfl, P4, B4, G4⟩
  have hyo : y.tickO = [] := h.f.e.tick.2
  have m4 : Em w la xb l0 l1 da db F G x.tickS y.tickS v3 ([] ++ new) cv cr W4 := ⟨⟨m3.m.o.gr G4 m3.m.x.2 fun k hk => (m3.m.p k hk).2, m3.m.a.gr G4 fun k hk e => m3.m.fg k hk e, B4, m3.m.x, m3.m.fg, m3.m.p⟩, m3.r.gr3 G4 fun k hk => (m3.rb k hk).2.1, m3.rb, m3.l.trans (G4.below z3 m3.m.b.b)⟩
  rw [hyo] at P4 ⊢
  refine ⟨ao4, _, cap4, rfl, ?_⟩
  have hnl : new.length = x.tickO.length := by have := congrArg List.length hnew; simpa using this
  refine (m4.out 1 (by decide) [] P4 (fun k h1 h2 => ⟨fun e => by have := (m3.m.o.k.blk k e).2; omega, fun e => by have := m3.m.o.q.lt; omega⟩) (fun q hq => by cases hq) (by simp; omega)).mono ?_
  rintro e W5 ⟨v5, new5, rfl, m5, hnew5⟩
  have hn5 : new5 = [] := by simpa using hnew5
  subst hn5
  rw [List.append_nil] at m5
  exact ⟨rfl, v5, [] ++ new, m5, by rw [List.nil_append, hnew, qB_outX], f2⟩
end
end Go.Proofs.YtahodgmdikaedaaDoor
