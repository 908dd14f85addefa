/-
  LinkEnds' walk.
-/
import Derived.Test.YtahodgmdikaedaaDoorEnSend
import Derived.Test.YtahodgmdikaedaaDoorRowsK
namespace Go.Proofs.YtahodgmdikaedaaDoor
open Go.RowKit
/-- Numbers that can be read. -/
def Ir (w : World) (v : Value) (zs : List Int) : Prop := ∃ ao cap, v = .slice ao zs.length cap ∧ zs.length ≤ 140737488355328 ∧ (zs ≠ [] → ∃ b off, ao = some ⟨b, off, none⟩ ∧ b < w.heap.size ∧ ∀ i, i < zs.length → w.cell? ⟨b, off + i, none⟩ = some (.int .i64 (zs.getD i 0)))
/-- How heavy rows are. -/
def hvE (l : List (List Int)) : Nat := (l.map fun r => 10 + r.length).sum
theorem hvE_app (a b : List (List Int)) : hvE (a ++ b) = hvE a + hvE b := by simp [hvE]
theorem hvE_mem {l : List (List Int)} {r : List Int} (h : r ∈ l) : r.length ≤ hvE l := by
  induction l with
  | nil => cases h
  | cons x t ih =>
    have e : hvE (x :: t) = 10 + x.length + hvE t := by simp [hvE]
    rcases List.mem_cons.1 h with rfl | h
    · omega
    · have := ih h; omega
theorem Rq.rs {w : World} {B : Nat} {v : Value} {rs : List Rw2} (h : Rq w B v rs) (hy : ∀ z ∈ bytesOf2 rs, Byt z ∧ z.length ≤ 140737488355328) (hl : rs.length ≤ 100000) : Rs w v rs := by
  obtain ⟨ao, cap, hv⟩ := h.row.form
  refine ⟨ao, cap, hv, by omega, fun r hr => ?_, fun hne => ?_⟩
  · obtain ⟨h1, h2⟩ := hy r.2 (List.mem_map.2 ⟨r, hr, rfl⟩)
    exact ⟨(h.each r hr).1.bs, h1, h2⟩
  · have hp : 0 < rs.length := by cases rs with
      | nil => exact absurd rfl hne
      | cons _ _ => simp
    obtain ⟨g, off, cap2, hv2, _, _, _, _, hc, _⟩ := h.row.cell hp
    rw [hv] at hv2
    simp only [Value.slice.injEq] at hv2
    obtain ⟨rfl, _, _⟩ := hv2
    exact ⟨g, off, rfl, fun i r hi => hc i r.1 (by simp [slOf, hi])⟩
/-- A round's top. -/
def EnT (w : World) (la xb l0 l1 da db : Nat) (A : List (List Int)) (m t : Nat) (cv : Value) (W : World) : Prop :=
  ∃ F G x y Q v ps cr, Ee w la xb l0 l1 da db A F G x y Q v ps cv cr (4000 * (t + 1)) W ∧ Q.length ≤ 16 ∧ (m < t → Ph A (t - m) x y Q)
/-- Within a round. -/
def EnR (w : World) (la xb l0 l1 da db : Nat) (A : List (List Int)) (m t k : Nat) (cv : Value) (W : World) : Prop :=
  ∃ F G x y Q v ps cr, Ee w la xb l0 l1 da db A F G x y Q v ps cv cr (4000 * (t + 1) + 17 * k) W ∧ k + pot x Q ≤ 160 ∧ (m ≤ t → Pg x y Q ∨ (Q = [] ∧ Pm A (t - m) x y) ∨ t = m)
theorem EnT.start {w : World} {la xb l0 l1 da db : Nat} {A : List (List Int)} {m t : Nat} {cv : Value} {W : World} (h : EnT w la xb l0 l1 da db A m t cv W) : EnR w la xb l0 l1 da db A m t 0 cv W := by
  obtain ⟨F, G, x, y, Q, v, ps, cr, h1, h2, h3⟩ := h
  refine ⟨F, G, x, y, Q, v, ps, cr, h1, by have := pot_top h1.f h2; omega, fun hm => ?_⟩
  by_cases c : t = m
  · exact Or.inr (Or.inr c)
  · rcases h3 (by omega) with ⟨g1, g2⟩ | ⟨g1, _⟩ | ⟨g1, g2, g3⟩
    · exact Or.inr (Or.inl ⟨g2, Or.inl g1⟩)
    · exact Or.inl g1
    · exact Or.inr (Or.inl ⟨g1, Or.inr ⟨g2, g3⟩⟩)
theorem Ee.drew {w W : World} {la xb l0 l1 da db : Nat} {A : List (List Int)} {F G : Nat → Prop} {x y : Lk} {Q : Qe} {v : Value} {ps : List Pq} {cv : Value} {cr : List Rw2} {c : Nat} (h : Ee w la xb l0 l1 da db A F G x y Q v ps cv cr c W) : Ee w la xb l0 l1 da db A F G x y Q v ps cv cr c W.drew := ⟨h.m.keep (Gr.drew (fun _ => False) W), h.q, h.f⟩
theorem Ee.mono {w W : World} {la xb l0 l1 da db : Nat} {A : List (List Int)} {F G : Nat → Prop} {x y : Lk} {Q : Qe} {v : Value} {ps : List Pq} {cv : Value} {cr : List Rw2} {c d : Nat} (h : Ee w la xb l0 l1 da db A F G x y Q v ps cv cr c W) (hd : c ≤ d) : Ee w la xb l0 l1 da db A F G x y Q v ps cv cr d W :=
  ⟨h.m, h.q, ⟨h.f.e, h.f.k, h.f.gd, h.f.bx.mono hd, h.f.bY.mono hd, h.f.sx, h.f.sy, h.f.xc, h.f.yf, h.f.al⟩⟩
/-- What the inner loop's end leaves behind both Ticks. -/
theorem EnR.tick {A : List (List Int)} {x y : Lk} {cy : List (List Int)} {c m t : Nat} (f : Ef A x y [] cy c) (h : m ≤ t → Pg x y [] ∨ (([] : Qe) = [] ∧ Pm A (t - m) x y) ∨ t = m) (hm : m ≤ t) : Ph A (t + 1 - m) x.tickS y.tickS (outX x.tickO) := by
  have hp : Pm A (t - m) x y := by
    rcases h hm with g | ⟨_, g⟩ | g
    · exact Or.inl (Pg.done f.e g (by decide))
    · exact g
    · exact Or.inr ⟨by omega, f.sx⟩
  have := hp.tick f.e
  rwa [show t - m + 1 = t + 1 - m by omega] at this
theorem zero50 : (Tryd.prog.info? 50).bind (·.zero) = some (.agg [Value.int .i64 0, .slice none 0 0].toArray) := by kernel_rfl
theorem size50' : (Tryd.prog.info? 50).map (·.size) = some 2 := by kernel_rfl
theorem size50 : Hid ((Tryd.prog.info? 50).map (·.size) = some 2) := size50'
theorem range2 {w : World} {g off : Nat} {a b : Value} (h0 : w.cell? ⟨g, off, none⟩ = some a) (h1 : w.cell? ⟨g, off + 1, none⟩ = some b) : w.rangeAt g off [a, b] := by
  intro j v hj
  match j, hj with
  | 0, hj => simp at hj; rw [← hj]; exact h0
  | 1, hj => simp at hj; rw [← hj]; exact h1
  | (n + 2), hj => simp at hj
theorem len2 (a b c d : Value) : Hid ([a, b].length = [c, d].length) := rfl
theorem one2 (n : Int) (a : Option Addr) (l c : Nat) : ∀ v ∈ [Value.int .i64 n, .slice a l c], v.oneCell' = true := by
  intro v hv
  simp at hv
  rcases hv with rfl | rfl <;> rfl
theorem pot_pos (x : Lk) (q : Bool × Pk) (Q : Qe) : 1 ≤ pot x (q :: Q) := by
  unfold pot
  simp only [List.length_cons]
  omega
theorem pot_lost (x : Lk) (q : Bool × Pk) (Q : Qe) : pot x Q + 1 ≤ pot x (q :: Q) := by
  obtain ⟨b, p⟩ := q
  have : (toY Q).length ≤ (toY ((b, p) :: Q)).length := by
    cases b
    · exact Nat.le_refl _
    · show (toY Q).length ≤ (p.n :: toY Q).length
      simp
  unfold pot
  simp only [List.length_cons]
  omega
/-- What a packet that was taken out leaves. -/
structure EnP (w : World) (la xb l0 l1 da db : Nat) (A : List (List Int)) (m t k : Nat) (cv : Value) (pb : Nat) (to : Int) (ap : Option Addr) (bl cp : Nat) (W4 : World) : Prop where
  a0 : W4.cell? ⟨xb, 0, none⟩ = some (.pointer (some ⟨l0, 0, none⟩))
  a1 : W4.cell? ⟨xb, 1, none⟩ = some (.pointer (some ⟨l1, 0, none⟩))
  q0 : W4.cell? ⟨pb, 0, none⟩ = some (.int .i64 to)
  q1 : W4.cell? ⟨pb, 1, none⟩ = some (.slice ap bl cp)
  lost : t < m → EnR w la xb l0 l1 da db A m t (k + 1) cv W4
  go : (to = 1 ∧ Hid (Calls Tryd.prog 16 #[.pointer (some ⟨l1, 0, none⟩), .slice ap bl cp] W4.drew fun e W5 => ∃ a1 n1 c1 a2 n2 c2 a3 n3 c3 W6, e = .returned (.tuple #[.slice a1 n1 c1, .slice a2 n2 c2]) ∧ W5.cell? ⟨pb, 0, none⟩ = some (.int .i64 1) ∧ W6.cell? ⟨pb, 0, none⟩ = some (.int .i64 1) ∧
      Hid (∀ ty, (Builtin.append_ #[33, 33] ty #[cv, .slice a1 n1 c1]).run Tryd.prog W5 = .ok (.slice a3 n3 c3) W6) ∧
      Hid (Calls Tryd.prog 17 #[.pointer (some ⟨xb, 0, none⟩), .int .i64 1, .slice a2 n2 c2] W6 fun e W7 => e = .returned (.tuple #[]) ∧ EnR w la xb l0 l1 da db A m t (k + 1) (.slice a3 n3 c3) W7))) ∨
    (to = 0 ∧ Hid (Calls Tryd.prog 16 #[.pointer (some ⟨l0, 0, none⟩), .slice ap bl cp] W4.drew fun e W5 => ∃ a1 n1 c1 a2 n2 c2, e = .returned (.tuple #[.slice a1 n1 c1, .slice a2 n2 c2]) ∧ W5.cell? ⟨pb, 0, none⟩ = some (.int .i64 0) ∧
      Hid (Calls Tryd.prog 17 #[.pointer (some ⟨xb, 0, none⟩), .int .i64 0, .slice a2 n2 c2] W5 fun e W7 => e = .returned (.tuple #[]) ∧ EnR w la xb l0 l1 da db A m t (k + 1) cv W7)))
theorem Ee.round {w wr W4 : World} {la xb l0 l1 da db : Nat} {A : List (List Int)} {F G : Nat → Prop} {x y : Lk} {q : Bool × Pk} {Q : Qe} {v v4 : Value} {p : Pq} {ps : List Pq} {cv : Value} {cr : List Rw2} {m t k : Nat} {ap : Option Addr} {cp : Nat} (ht : Tab w) (h0 : 0 < la)
    (E : Ee w la xb l0 l1 da db A F G x y (q :: Q) v (p :: ps) cv cr (4000 * (t + 1) + 17 * k) wr) (hpot : k + pot x (q :: Q) ≤ 160) (ht6 : t < 600) (hJ : m ≤ t → Pg x y (q :: Q) ∨ ((q :: Q) = [] ∧ Pm A (t - m) x y) ∨ t = m)
    (m4 : Em w la xb l0 l1 da db F G x y v4 ps cv cr W4) (hb : Bs W4 (.slice ap p.b.length cp) p.b) (q0 : W4.cell? ⟨wr.heap.size, 0, none⟩ = some (.int .i64 p.to)) (q1 : W4.cell? ⟨wr.heap.size, 1, none⟩ = some (.slice ap p.b.length cp)) :
    EnP w la xb l0 l1 da db A m t k cv wr.heap.size p.to ap p.b.length cp W4 := by
  obtain ⟨hto, hpb, hqq⟩ : p.to = (if q.1 = true then 1 else 0) ∧ p.b = encP 3 q.2 ∧ ps.map (fun p => (p.to, p.b)) = qB Q := by
    have := E.q
    simp only [List.map_cons, qB, List.cons.injEq, Prod.mk.injEq] at this
    exact ⟨this.1.1, this.1.2, this.2⟩
  have hl := pot_lost x q Q
  have hQ : Q.length ≤ 160 := by
    have : (q :: Q).length ≤ pot x (q :: Q) := by unfold pot; omega
    simp only [List.length_cons] at this
    omega
  have hlt := World.block_lt_of_cell? W4 _ q0
  have hlt : wr.heap.size < W4.heap.size := hlt
  have hfr : ¬ F wr.heap.size ∧ ¬ G wr.heap.size ∧ cv.ownBlock ≠ some wr.heap.size ∧ wr.heap.size < W4.drew.heap.size :=
    ⟨fun e => by have := E.m.m.a.hi _ e; omega, fun e => by have := E.m.m.b.hi _ e; omega, fun e => by have := (E.m.r.row.lt _ e).2; omega, hlt⟩
  have gd : Gr (fun _ => False) W4 W4.drew := Gr.drew _ _
  have md := m4.keep gd
  have hbd : Bs W4.drew (.slice ap p.b.length cp) p.b := hb.keep fun k hk hlt => gd.block k hlt fun h => h
  have bd : W4.drew.heap[wr.heap.size]? = W4.heap[wr.heap.size]? := rfl
  refine ⟨m4.m.o.q.cell 0, m4.m.o.q.cell 1, q0, q1, fun hm => ⟨F, G, x, y, Q, v4, ps, cr, Ee.mono ⟨m4, hqq, E.f.lost⟩ (by omega), by omega, fun h => by omega⟩, ?_⟩
  obtain ⟨b, pk⟩ := q
  have hpb : p.b = encP 3 pk := hpb
  rw [hpb] at hbd ⊢
  cases b with
  | true =>
    have hto : p.to = 1 := hto
    rw [hto] at q0
    have e1 := pot_popY (W := 16) E.f.e
    refine Or.inl ⟨hto, ?_⟩
    refine (Ee.hearY ht h0 E.f md hqq hbd (by omega) (by omega) wr.heap.size hfr).mono ?_
    rintro e W5 ⟨a1, n1, c1, a2, n2, c2, a3, n3, c3, W6, rfl, ⟨g5, g6⟩, hrun, C⟩
    refine ⟨a1, n1, c1, a2, n2, c2, a3, n3, c3, W6, rfl, (World.cell?_of_block (g5.trans bd)).trans q0, (World.cell?_of_block (g6.trans bd)).trans q0, hrun, C.out.mono ?_⟩
    rintro e W7 ⟨he, v', ps', cr', E7⟩
    refine ⟨he, F, G, _, _, _, v', ps', cr', E7.mono (by omega), by omega, fun hm => ?_⟩
    rcases hJ hm with g | ⟨g, _⟩ | g
    · exact Or.inl (Pg.popY E.f.e g)
    · cases g
    · exact Or.inr (Or.inr g)
  | false =>
    have hto : p.to = 0 := hto
    rw [hto] at q0
    have e1 := pot_popX (W := 16) E.f.e
    refine Or.inr ⟨hto, ?_⟩
    refine (Ee.hearX ht h0 E.f md hqq hbd (by omega) (by omega) wr.heap.size hfr).mono ?_
    rintro e W5 ⟨a1, n1, c1, a2, n2, c2, rfl, g5, C⟩
    refine ⟨a1, n1, c1, a2, n2, c2, rfl, (World.cell?_of_block (g5.trans bd)).trans q0, C.out.mono ?_⟩
    rintro e W7 ⟨he, v', ps', E7⟩
    refine ⟨he, F, G, _, _, _, v', ps', cr, E7.mono (by omega), by omega, fun hm => ?_⟩
    rcases hJ hm with g | ⟨g, _⟩ | g
    · exact Or.inl (Pg.popX E.f.e g)
    · cases g
    · exact Or.inr (Or.inr g)
theorem bits_and (a : Int) (m : Nat) (hm : m < 65536) : bits .and .i64 a (m : Int) = (((BitVec.ofInt 64 a).toNat &&& m : Nat) : Int) := by
  have e : bits .and .i64 a (m : Int) = IntKind.i64.wrap (((BitVec.ofInt 64 a &&& BitVec.ofInt 64 (m : Int)).toNat : Nat) : Int) := rfl
  have hb : (BitVec.ofInt 64 a &&& BitVec.ofInt 64 (m : Int)).toNat = (BitVec.ofInt 64 a).toNat &&& m := by
    rw [BitVec.toNat_and]
    have : (BitVec.ofInt 64 (m : Int)).toNat = m := by
      rw [BitVec.ofInt_natCast, BitVec.toNat_ofNat]
      omega
    rw [this]
  have hlt : (BitVec.ofInt 64 a).toNat &&& m < 65536 := Nat.lt_of_le_of_lt Nat.and_le_right hm
  rw [e, hb]
  generalize (BitVec.ofInt 64 a).toNat &&& m = n at *
  simp [IntKind.wrap, IntKind.bits, IntKind.signed]
  omega
theorem and3 (a : Int) : bits .and .i64 a 3 = a % 4 := by
  have h := bits_and a 3 (by decide)
  rw [show (((3 : Nat)) : Int) = 3 from rfl] at h
  rw [h, show (3 : Nat) = 2 ^ 2 - 1 from rfl, Nat.and_two_pow_sub_one_eq_mod, BitVec.toNat_ofInt]
  omega
theorem and1 (a : Int) : bits .and .i64 a 1 = a % 2 := by
  have h := bits_and a 1 (by decide)
  rw [show (((1 : Nat)) : Int) = 1 from rfl] at h
  rw [h, show (1 : Nat) = 2 ^ 1 - 1 from rfl, Nat.and_two_pow_sub_one_eq_mod, BitVec.toNat_ofInt]
  omega

section
variable {ops : Array Oper} {rest : List Oper} {o : Oper} {a : Act} {w : World} {Q : Exit → Act → World → Prop}
theorem wpList_append_eqE {w' : World} (hgd : o.guard = none) (t : TypeId) (s x : Operand) (ho : o.op = .call { callee := .builtin .append, args := #[s, x], argTypes := #[t, t] })
    (v u v' : Value) (hs : a.eval s = v) (hx : a.eval x = u) (hr : ∀ ty, (Builtin.append_ #[t, t] ty #[v, u]).run Tryd.prog w = .ok v' w') (h : wpList Tryd.prog ops Q rest (a.put o.dst v') w') : wpList Tryd.prog ops Q (o :: rest) a w := by
  refine wpList_plain hgd fun _ hK => ?_
  unfold Oper.wp execOp
  simp only [ho, resolve, invoke, builtin, Sem.run_bind, Sem.run_pure, Result.andThen_ok, List.map_toArray, List.map_cons, List.map_nil, hs, hx, hr]
  exact hK _ _ h
end
set_option maxHeartbeats 40000000 in
set_option maxRecDepth 20000 in
theorem ends_walk (av lv : Value) (rs : List Rw2) (ls : List Int) (w : World) (hr : Rs w av rs) (hi : Ir w lv ls) (ht : Tab w) :
    Calls Tryd.prog 5 #[av, lv] w fun e w' => e = .returned (.bool true) ∧ Below w.heap.size w w' := by
  have K : Hid (∀ W, Below w.heap.size w W → Calls Tryd.prog 10 #[] W fun e w' => e = .returned (.bool true) ∧ Below w.heap.size w w') := fun W h => (lknown_any W (ht.below h ht.lt)).mono fun e w' ⟨he, hB⟩ => ⟨he, h.trans (hB.mono h.size)⟩
  obtain ⟨ao, cap, rfl, hlen, -⟩ := hr.form
  obtain ⟨io, icap, rfl, hil, hic⟩ := hi
  have HR := hid_into hr
  have HI := hid_into hic
  have hz := hid_into ht.lt
  have hT := hid_into ht
  clear hr ht hic
  go_enter Tryd.func5, Tryd.ntmps5
  go_wp2_with fail
  go_loopw [5, 6] (fun n i wr => ∃ k : Nat, i = .int .i64 (k : Int) ∧ k ≤ rs.length ∧ n = .int .i64 (hvE ((bytesOf2 rs).take k) : Int) ∧ hvE ((bytesOf2 rs).take k) ≤ 140737488364000 ∧ wr = w) (fun _ i _ => rs.length - (intOf i).toNat)
  case atStart => exact ⟨0, rfl, Nat.zero_le _, rfl, by simp [hvE], rfl⟩
  case round =>
    obtain ⟨k, rfl, hk, rfl, hb, hwr⟩ := hrel
    replace hwr := hwr.symm
    subst hwr
    obtain ⟨N, hN⟩ : ∃ N, N = hvE ((bytesOf2 rs).take k) := ⟨_, rfl⟩
    rw [← hN] at hb ⊢
    by_cases hlt : k < rs.length
    · by_cases hm : N ≤ 8000
      · obtain ⟨b1, o1, ap1, cp1, z1, rfl, hg1, hcell1, hbs1, hby1, hzl⟩ := Rs.get (rs := rs) HR.out hlt
        have f1 : (0 : Int) ≤ (k : Int) := by omega
        have f2 : (k : Int) < (rs.length : Int) := by omega
        have f3 : (N : Int) ≤ 8000 := by omega
        have hN2 : hvE ((bytesOf2 rs).take (k + 1)) = N + 10 + z1.length := by
          rw [take_snoc2 (bytesOf2_get hg1), hvE_app, ← hN]
          simp [hvE]; omega
        have hN2 := hid_into hN2
        have hzl' := hid_into hzl
        clear hg1 hbs1 hby1 hN
        go_wp2_with fail
        go_roundw
        case rel => exact ⟨k + 1, by go_num, by omega, by rw [hN2.out]; go_num, by rw [hN2.out]; have := hzl'.out; omega, trivial⟩
        case measure => simp [intOf]; omega
      · have f1 : (0 : Int) ≤ (k : Int) := by omega
        have f2 : (k : Int) < (rs.length : Int) := by omega
        have f3 : ¬ (N : Int) ≤ 8000 := by omega
        have f4 : (4096 : Int) < (N : Int) := by omega
        clear hN
        go_wp2_with (go_at_call 10; refine (K.out _ (Below.refl _ _)).mono ?_; rintro e w1 ⟨rfl, hB⟩)
        go_ret
        exact ⟨rfl, hB⟩
    · obtain rfl : k = rs.length := by omega
      by_cases hm : 4096 < N
      · have f4 : (4096 : Int) < (N : Int) := by omega
        clear hN
        go_wp2_with (go_at_call 10; refine (K.out _ (Below.refl _ _)).mono ?_; rintro e w1 ⟨rfl, hB⟩)
        go_ret
        exact ⟨rfl, hB⟩
      by_cases hm2 : 60 < rs.length
      · have f4 : ¬ (4096 : Int) < (N : Int) := by omega
        have f5 : (60 : Int) < (rs.length : Int) := by omega
        clear hN
        go_wp2_with (go_at_call 10; refine (K.out _ (Below.refl _ _)).mono ?_; rintro e w1 ⟨rfl, hB⟩)
        go_ret
        exact ⟨rfl, hB⟩
      have hall : N = hvE (bytesOf2 rs) := by rw [hN, List.take_of_length_le (by rw [bytesOf2_len]; exact Nat.le_refl _)]
      have hsm : Hid (∀ r ∈ bytesOf2 rs, r.length ≤ 4096) := fun r hr => by have := hvE_mem hr; omega
      have f4 : ¬ (4096 : Int) < (N : Int) := by omega
      have f5 : ¬ (60 : Int) < (rs.length : Int) := by omega
      have hr60 : rs.length ≤ 60 := by omega
      clear hN hall hb hm hm2
      go_wp2_with fail
      refine (start_any w 3 (by decide)).mono ?_
      rintro e w1 ⟨xb, l0, l1, da, db, F, G, rfl, M1, _, _, B1, _⟩
      generalize hla : w.heap.size = la at *
      replace hla := hid_into hla
      have I0 : Hid (Ee w la xb l0 l1 da db [] F G newL newL [] (.slice none 0 0) [] (.slice none 0 0) [] 0 w1) :=
        ⟨⟨M1, Rq.nil _ _, fun k hk => (by rcases hk with hk | ⟨r, hr, hk⟩; cases hk; cases hr), B1⟩, rfl, ⟨⟨newL_ok, rfl, rfl, fun q hq => (by cases hq), fun q hq => (by cases hq), Nat.le_refl _, Nat.le_refl _, rfl⟩, ⟨rfl, Nat.le_refl _⟩, fun q hq => (by cases hq), ⟨Nat.le_refl _, Nat.le_refl _⟩, ⟨Nat.le_refl _, Nat.le_refl _⟩, Nat.zero_le _, Nat.zero_le _, rfl, rfl, Nat.zero_le _⟩⟩
      clear M1 B1
      go_wp2_with fail
      go_loopw [10] (fun i W => ∃ (j : Nat), i = .int .i64 (j : Int) ∧ j ≤ rs.length ∧ ∃ F G x y Q v ps, Ee w la xb l0 l1 da db ((bytesOf2 rs).take j) F G x y Q v ps (.slice none 0 0) [] (16 * j) W ∧ y.came = 0 ∧ Q.length = x.way) (fun i _ => rs.length - (intOf i).toNat)
      case atStart => exact ⟨0, rfl, Nat.zero_le _, F, G, newL, newL, [], _, [], by rw [List.take_zero]; exact I0.out, rfl, rfl⟩
      case round =>
        obtain ⟨j, rfl, hj, F, G, x, y, Q, v, ps, I, hy0, hQw⟩ := hrel
        by_cases hlt2 : j < rs.length
        · obtain ⟨b1, o1, ap1, cp1, z1, rfl, hg1, hcell1, hbs1, hby1, hzl⟩ := Rs.get (rs := rs) HR.out hlt2
          have f1 : (0 : Int) ≤ (j : Int) := by omega
          have f2 : (j : Int) < (rs.length : Int) := by omega
          have hz4 : z1.length ≤ 4096 := hsm.out z1 (List.mem_of_getElem? (bytesOf2_get hg1))
          have hAl : ((bytesOf2 rs).take j).length < 60 := by rw [List.length_take, bytesOf2_len]; omega
          have hbl := World.block_lt_of_cell? w _ hcell1
          have hc0 : wr.cell? ⟨b1, o1 + j, none⟩ = some (.slice ap1 z1.length cp1) := by
            rw [← hcell1]
            exact World.cell?_of_block (I.m.l.block b1 (by rw [← hla.out]; exact hbl))
          have hx0 : wr.cell? ⟨xb, 0, none⟩ = some (.pointer (some ⟨l0, 0, none⟩)) := I.m.m.o.q.cell 0
          have C := I.drew.send hT.out hz.out hy0 hQw (hbs1.below (by rw [hla.out]; exact I.m.l.drew) (Nat.le_refl _)) hby1 hz4 hAl (by omega)
          rw [← take_snoc2 (bytesOf2_get hg1)] at C
          replace C := hid_into C
          clear I hg1 hcell1 hbs1 hby1 hzl hz4 hAl hbl hQw
          go_wp2_with fail
          go_region_law (go_simp; go_wp2_with (go_at_call 14; refine C.out.mono ?_; rintro e w2 ⟨a2, n2, c2, rfl, C2⟩))
          all_goals
            (clear hc0 hx0 C
             go_wp2_with fail
             refine C2.out.mono ?_
             rintro e w3 ⟨rfl, F2, v2, ps2, Q2, I2, hw2⟩
             go_wp2_with fail
             go_roundw
             case rel => exact ⟨j + 1, by go_num, by omega, F2, G, _, y, Q2, v2, ps2, I2, by assumption, hw2⟩
             case measure => simp [intOf]; omega)
        · obtain rfl : j = rs.length := by omega
          have hA : (bytesOf2 rs).take rs.length = bytesOf2 rs := List.take_of_length_le (by rw [bytesOf2_len]; exact Nat.le_refl _)
          rw [hA] at I
          have T0 : Hid (EnT w la xb l0 l1 da db (bytesOf2 rs) ls.length 0 (.slice none 0 0) wr) := ⟨F, G, x, y, Q, v, ps, [], ⟨I.m, I.q, ⟨I.f.e, I.f.k, I.f.gd, I.f.bx.mono (by omega), I.f.bY.mono (by omega), I.f.sx, I.f.sy, I.f.xc, I.f.yf, I.f.al⟩⟩, by have := I.f.way16; omega, fun h => by omega⟩
          clear I hA hy0 hQw
          obtain ⟨TT, hTT⟩ : ∃ TT, TT = min (200 + 6 * ls.length) 600 := ⟨_, rfl⟩
          go_wp2_with fail
          go_loopw [9, 13] (fun cvv t W => ∃ tn : Nat, t = .int .i64 (tn : Int) ∧ tn ≤ TT ∧ EnT w la xb l0 l1 da db (bytesOf2 rs) ls.length tn cvv W) (fun _ t _ => TT - (intOf t).toNat)
          case atStart => exact ⟨0, rfl, Nat.zero_le _, T0.out⟩
          case round =>
            obtain ⟨t, rfl, htT, I⟩ := hrel
            by_cases htl : t < TT
            · have g1 : (t : Int) < 200 + 6 * (ls.length : Int) := by omega
              have g2 : (t : Int) < 600 := by omega
              have ht6 : t < 600 := by omega
              have R0 := hid_into I.start
              clear I
              go_wp2_with fail
              go_loopw [9, 14] (fun cvv kv W => ∃ k : Nat, kv = .int .i64 (k : Int) ∧ EnR w la xb l0 l1 da db (bytesOf2 rs) ls.length t k cvv W) (fun _ kv _ => 200 - (intOf kv).toNat)
              case atStart => exact ⟨0, rfl, R0.out⟩
              case round =>
                obtain ⟨k, rfl, I⟩ := hrel
                obtain ⟨F, G, x, y, Q, v, ps, cr, E, hpot, hJ⟩ := I
                have hpl : ps.length = Q.length := by have := congrArg List.length E.q; rw [List.length_map, qB_len] at this; exact this
                cases Q with
                | nil =>
                  obtain rfl : ps = [] := List.eq_nil_of_length_eq_zero hpl
                  have kx : wr.cell? ⟨xb, 4, none⟩ = some v := E.m.m.o.q.cell 4
                  have k0 : wr.cell? ⟨xb, 0, none⟩ = some (.pointer (some ⟨l0, 0, none⟩)) := E.m.m.o.q.cell 0
                  obtain ⟨v0, v1, hv⟩ : ∃ v0 v1, v = .slice v0 0 v1 := E.m.m.o.k.row.form
                  have hP := hid_into (EnR.tick E.f hJ)
                  have C := hid_into (Ee.ticks hT.out hz.out E (by omega))
                  subst hv
                  clear E hJ hpl
                  go_wp2_with fail
                  refine C.out.mono ?_
                  rintro e w2 ⟨a2, n2, c2, rfl, C2⟩
                  clear C kx k0
                  go_wp2_with fail
                  refine C2.out.mono ?_
                  rintro e w3 ⟨rfl, k1, C3⟩
                  clear C2
                  go_wp2_with fail
                  refine C3.out.mono ?_
                  rintro e w4 ⟨a4, n4, c4, rfl, C4⟩
                  clear C3 k1
                  go_wp2_with fail
                  refine C4.out.mono ?_
                  rintro e w5 ⟨rfl, v5, ps5, E5⟩
                  clear C4
                  go_wp2_with fail
                  go_roundw
                  case rel =>
                    exact ⟨t + 1, by go_num, by omega, F, G, _, _, _, v5, ps5, cr, E5.mono (by omega), by unfold outX; rw [List.length_map]; exact tickO_len x (by have := E5.f.way16; have := (tick_same x).2.1; omega), fun h => hP.out (by omega)⟩
                  case measure => simp [intOf]; omega
                | cons q Q =>
                  have hp1 := pot_pos x q Q
                  have f3 : (k : Int) < 5000 := by omega
                  have f4 : (0 : Int) ≤ (k : Int) := by omega
                  cases ps with
                  | nil => simp at hpl
                  | cons p ps =>
                    obtain ⟨g, off, cap, ap, cp, hv, c1, c2, k0, k1, kx, kz, lx, lg, N⟩ := E.m.pop
                    subst hv
                    unfold maxLen at c2
                    have r2 := hid_into (range2 k0 k1)
                    have hk2 : k < 160 := by omega
                    replace E := hid_into E
                    replace hJ := hid_into hJ
                    replace hpot := hid_into hpot
                    generalize hpn : ps.length = n at *
                    clear hpn hp1 hpl
                    have f5 : (0 : Int) < (n : Int) + 1 := by omega
                    have f6 : (1 : Int) ≤ (n : Int) + 1 := by omega
                    have f7 : n + 1 ≤ cap := c1
                    by_cases htm : t < ls.length
                    · have g3 : (t : Int) < (ls.length : Int) := by omega
                      have g4 : (0 : Int) ≤ (t : Int) := by omega
                      obtain ⟨lb, lo, rfl, hlb, hzl⟩ := HI.out (by intro e; rw [e] at htm; simp at htm)
                      have zl := hid_into (hzl t htm)
                      replace hlb := hid_into hlb
                      have n1 : lb ≠ xb := by have := E.out.m.m.o.b; have := hlb.out; omega
                      have n2 : xb ≠ lb := fun e => n1 e.symm
                      clear hzl
                      generalize ls.getD t 0 = z at *
                      by_cases hbit : bits .and .i64 z 1 = 1
                      · skip
                        by_cases hcap : cap = 1
                        · subst hcap
                          obtain rfl : n = 0 := by omega
                          clear c1 f7
                          go_wp2_with (first
                            | (refine wpList_load_mid rfl 50 (.tmp 102) rfl g off (by rfl) _ _ r2.out Tryd.underlying50 rfl size50.out ?_)
                            | (refine wpList_alloc_row rfl 50 rfl [.int .i64 0, .slice none 0 0] zero50 ?_; intro w2 px hb2 hs2)
                            | (refine wpList_store_rw rfl 50 (.tmp 15) (.tmp 103) rfl wr.heap.size [.int .i64 0, .slice none 0 0] [.int .i64 p.to, .slice ap p.b.length cp] 50 (by rfl) (by rfl) px size50 (len2 _ _ _ _) (one2 _ _ _ _) ?_; intro w3 px3 O3; have G3 : Gr (fun _ => False) wr w3 := Gr.of_below (hb2.trans (O3.below (Nat.le_refl _))) _ (fun k h1 h2 => by omega); have E3 := E.out.m.keep G3; have kx3 : w3.cell? ⟨xb, 4, none⟩ = some (.slice (some ⟨g, off, none⟩) 1 1) := E3.m.o.q.cell 4; have kz3 := E3.m.o.q.frozen 4; have lx3 := E3.m.o.q.lt; have p0 : w3.cell? ⟨wr.heap.size, 0, none⟩ = some (.int .i64 p.to) := px3.cell 0; have p1 : w3.cell? ⟨wr.heap.size, 1, none⟩ = some (.slice ap p.b.length cp) := px3.cell 1; have lp := px3.lt; have hq := hid_into (fun V => (Gr.setCell (F := fun k => k = xb) w3 ⟨xb, 4, none⟩ V rfl).block wr.heap.size px3.lt (by omega)); have R3 := hid_into (Ee.round hT.out hz.out E.out hpot.out ht6 hJ.out (N.out w3 G3).1 (N.out w3 G3).2 ((World.cell?_of_block (hq.out _)).trans p0) ((World.cell?_of_block (hq.out _)).trans p1)); have z3 : w3.cell? ⟨lb, lo + t, none⟩ = some (.int .i64 z) := (World.cell?_of_block (E3.l.block lb hlb.out)).trans zl.out; clear E3 G3 px px3 hb2 O3 hq p0 p1))
                          replace R3 : Hid (EnP w la xb l0 l1 da db (bytesOf2 rs) ls.length t k u9 wr.heap.size p.to ap p.b.length cp (w3.setCell ⟨xb, 4, none⟩ (.slice (some ⟨g, off, none⟩) 0 0))) := R3
                          go_roundw
                          case rel => exact ⟨k + 1, by go_num, R3.out.lost htm⟩
                          case measure => simp [intOf]; omega
                        · have hcap2 : ¬ (cap : Int) = 1 := by omega
                          go_wp2_with (first
                            | (refine wpList_load_mid rfl 50 (.tmp 102) rfl g off (by rfl) _ _ r2.out Tryd.underlying50 rfl size50.out ?_)
                            | (refine wpList_alloc_row rfl 50 rfl [.int .i64 0, .slice none 0 0] zero50 ?_; intro w2 px hb2 hs2)
                            | (refine wpList_store_rw rfl 50 (.tmp 15) (.tmp 103) rfl wr.heap.size [.int .i64 0, .slice none 0 0] [.int .i64 p.to, .slice ap p.b.length cp] 50 (by rfl) (by rfl) px size50 (len2 _ _ _ _) (one2 _ _ _ _) ?_; intro w3 px3 O3; have G3 : Gr (fun _ => False) wr w3 := Gr.of_below (hb2.trans (O3.below (Nat.le_refl _))) _ (fun k h1 h2 => by omega); have E3 := E.out.m.keep G3; have kx3 : w3.cell? ⟨xb, 4, none⟩ = some (.slice (some ⟨g, off, none⟩) (n + 1) cap) := E3.m.o.q.cell 4; have kz3 := E3.m.o.q.frozen 4; have lx3 := E3.m.o.q.lt; have p0 : w3.cell? ⟨wr.heap.size, 0, none⟩ = some (.int .i64 p.to) := px3.cell 0; have p1 : w3.cell? ⟨wr.heap.size, 1, none⟩ = some (.slice ap p.b.length cp) := px3.cell 1; have lp := px3.lt; have hq := hid_into (fun V => (Gr.setCell (F := fun k => k = xb) w3 ⟨xb, 4, none⟩ V rfl).block wr.heap.size px3.lt (by omega)); have R3 := hid_into (Ee.round hT.out hz.out E.out hpot.out ht6 hJ.out (N.out w3 G3).1 (N.out w3 G3).2 ((World.cell?_of_block (hq.out _)).trans p0) ((World.cell?_of_block (hq.out _)).trans p1)); have z3 : w3.cell? ⟨lb, lo + t, none⟩ = some (.int .i64 z) := (World.cell?_of_block (E3.l.block lb hlb.out)).trans zl.out; clear E3 G3 px px3 hb2 O3 hq p0 p1))
                          rw [if_neg hcap] at R3
                          replace R3 : Hid (EnP w la xb l0 l1 da db (bytesOf2 rs) ls.length t k u9 wr.heap.size p.to ap p.b.length cp (w3.setCell ⟨xb, 4, none⟩ (.slice (some ⟨g, off + 2, none⟩) n (cap - 1)))) := R3
                          go_roundw
                          case rel => exact ⟨k + 1, by go_num, R3.out.lost htm⟩
                          case measure => simp [intOf]; omega
                      · replace hbit : bits .and .i64 z 1 = 0 := by have := and1 z; omega
                        by_cases hcap : cap = 1
                        · subst hcap
                          obtain rfl : n = 0 := by omega
                          clear c1 f7
                          go_wp2_with (first
                            | (refine wpList_load_mid rfl 50 (.tmp 102) rfl g off (by rfl) _ _ r2.out Tryd.underlying50 rfl size50.out ?_)
                            | (refine wpList_alloc_row rfl 50 rfl [.int .i64 0, .slice none 0 0] zero50 ?_; intro w2 px hb2 hs2)
                            | (refine wpList_store_rw rfl 50 (.tmp 15) (.tmp 103) rfl wr.heap.size [.int .i64 0, .slice none 0 0] [.int .i64 p.to, .slice ap p.b.length cp] 50 (by rfl) (by rfl) px size50 (len2 _ _ _ _) (one2 _ _ _ _) ?_; intro w3 px3 O3; have G3 : Gr (fun _ => False) wr w3 := Gr.of_below (hb2.trans (O3.below (Nat.le_refl _))) _ (fun k h1 h2 => by omega); have E3 := E.out.m.keep G3; have kx3 : w3.cell? ⟨xb, 4, none⟩ = some (.slice (some ⟨g, off, none⟩) 1 1) := E3.m.o.q.cell 4; have kz3 := E3.m.o.q.frozen 4; have lx3 := E3.m.o.q.lt; have p0 : w3.cell? ⟨wr.heap.size, 0, none⟩ = some (.int .i64 p.to) := px3.cell 0; have p1 : w3.cell? ⟨wr.heap.size, 1, none⟩ = some (.slice ap p.b.length cp) := px3.cell 1; have lp := px3.lt; have hq := hid_into (fun V => (Gr.setCell (F := fun k => k = xb) w3 ⟨xb, 4, none⟩ V rfl).block wr.heap.size px3.lt (by omega)); have R3 := hid_into (Ee.round hT.out hz.out E.out hpot.out ht6 hJ.out (N.out w3 G3).1 (N.out w3 G3).2 ((World.cell?_of_block (hq.out _)).trans p0) ((World.cell?_of_block (hq.out _)).trans p1)); have z3 : w3.cell? ⟨lb, lo + t, none⟩ = some (.int .i64 z) := (World.cell?_of_block (E3.l.block lb hlb.out)).trans zl.out; clear E3 G3 px px3 hb2 O3 hq p0 p1))
                          replace R3 : Hid (EnP w la xb l0 l1 da db (bytesOf2 rs) ls.length t k u9 wr.heap.size p.to ap p.b.length cp (w3.setCell ⟨xb, 4, none⟩ (.slice (some ⟨g, off, none⟩) 0 0))) := R3
                          generalize w3.setCell ⟨xb, 4, none⟩ (.slice (some ⟨g, off, none⟩) 0 0) = w4 at *
                          obtain ⟨a0, a1, q0, q1, -, go⟩ := R3.out
                          clear R3 E N hJ hpot r2 kx3 kz3 lx3 lp
                          rcases go with ⟨hto, C⟩ | ⟨hto, C⟩
                          · rw [hto] at q0
                            go_region_law (go_simp; go_wp2_with (go_at_call 16; refine C.out.mono ?_; rintro e w5 ⟨x1, n1, y1, x2, n2, y2, x3, n3, y3, w6, rfl, q5, q6, HR, C2⟩))
                            all_goals
                              (clear a0 a1 q0 q1 C
                               go_wp2_with (refine wpList_append_eqE rfl 33 (.tmp 140) (.tmp 141) rfl _ _ _ (by rfl) (by rfl) HR.out ?_)
                               refine C2.out.mono ?_
                               rintro e w7 ⟨rfl, I7⟩
                               go_wp2_with fail
                               go_roundw
                               case rel => exact ⟨k + 1, by go_num, I7⟩
                               case measure => simp [intOf]; omega)
                          · rw [hto] at q0
                            go_region_law (go_simp; go_wp2_with (go_at_call 16; refine C.out.mono ?_; rintro e w5 ⟨x1, n1, y1, x2, n2, y2, rfl, q5, C2⟩))
                            all_goals
                              (clear a0 a1 q0 q1 C
                               go_wp2_with fail
                               refine C2.out.mono ?_
                               rintro e w7 ⟨rfl, I7⟩
                               go_wp2_with fail
                               go_roundw
                               case rel => exact ⟨k + 1, by go_num, I7⟩
                               case measure => simp [intOf]; omega)
                        · have hcap2 : ¬ (cap : Int) = 1 := by omega
                          go_wp2_with (first
                            | (refine wpList_load_mid rfl 50 (.tmp 102) rfl g off (by rfl) _ _ r2.out Tryd.underlying50 rfl size50.out ?_)
                            | (refine wpList_alloc_row rfl 50 rfl [.int .i64 0, .slice none 0 0] zero50 ?_; intro w2 px hb2 hs2)
                            | (refine wpList_store_rw rfl 50 (.tmp 15) (.tmp 103) rfl wr.heap.size [.int .i64 0, .slice none 0 0] [.int .i64 p.to, .slice ap p.b.length cp] 50 (by rfl) (by rfl) px size50 (len2 _ _ _ _) (one2 _ _ _ _) ?_; intro w3 px3 O3; have G3 : Gr (fun _ => False) wr w3 := Gr.of_below (hb2.trans (O3.below (Nat.le_refl _))) _ (fun k h1 h2 => by omega); have E3 := E.out.m.keep G3; have kx3 : w3.cell? ⟨xb, 4, none⟩ = some (.slice (some ⟨g, off, none⟩) (n + 1) cap) := E3.m.o.q.cell 4; have kz3 := E3.m.o.q.frozen 4; have lx3 := E3.m.o.q.lt; have p0 : w3.cell? ⟨wr.heap.size, 0, none⟩ = some (.int .i64 p.to) := px3.cell 0; have p1 : w3.cell? ⟨wr.heap.size, 1, none⟩ = some (.slice ap p.b.length cp) := px3.cell 1; have lp := px3.lt; have hq := hid_into (fun V => (Gr.setCell (F := fun k => k = xb) w3 ⟨xb, 4, none⟩ V rfl).block wr.heap.size px3.lt (by omega)); have R3 := hid_into (Ee.round hT.out hz.out E.out hpot.out ht6 hJ.out (N.out w3 G3).1 (N.out w3 G3).2 ((World.cell?_of_block (hq.out _)).trans p0) ((World.cell?_of_block (hq.out _)).trans p1)); have z3 : w3.cell? ⟨lb, lo + t, none⟩ = some (.int .i64 z) := (World.cell?_of_block (E3.l.block lb hlb.out)).trans zl.out; clear E3 G3 px px3 hb2 O3 hq p0 p1))
                          rw [if_neg hcap] at R3
                          replace R3 : Hid (EnP w la xb l0 l1 da db (bytesOf2 rs) ls.length t k u9 wr.heap.size p.to ap p.b.length cp (w3.setCell ⟨xb, 4, none⟩ (.slice (some ⟨g, off + 2, none⟩) n (cap - 1)))) := R3
                          generalize w3.setCell ⟨xb, 4, none⟩ (.slice (some ⟨g, off + 2, none⟩) n (cap - 1)) = w4 at *
                          obtain ⟨a0, a1, q0, q1, -, go⟩ := R3.out
                          clear R3 E N hJ hpot r2 kx3 kz3 lx3 lp
                          rcases go with ⟨hto, C⟩ | ⟨hto, C⟩
                          · rw [hto] at q0
                            go_region_law (go_simp; go_wp2_with (go_at_call 16; refine C.out.mono ?_; rintro e w5 ⟨x1, n1, y1, x2, n2, y2, x3, n3, y3, w6, rfl, q5, q6, HR, C2⟩))
                            all_goals
                              (clear a0 a1 q0 q1 C
                               go_wp2_with (refine wpList_append_eqE rfl 33 (.tmp 140) (.tmp 141) rfl _ _ _ (by rfl) (by rfl) HR.out ?_)
                               refine C2.out.mono ?_
                               rintro e w7 ⟨rfl, I7⟩
                               go_wp2_with fail
                               go_roundw
                               case rel => exact ⟨k + 1, by go_num, I7⟩
                               case measure => simp [intOf]; omega)
                          · rw [hto] at q0
                            go_region_law (go_simp; go_wp2_with (go_at_call 16; refine C.out.mono ?_; rintro e w5 ⟨x1, n1, y1, x2, n2, y2, rfl, q5, C2⟩))
                            all_goals
                              (clear a0 a1 q0 q1 C
                               go_wp2_with fail
                               refine C2.out.mono ?_
                               rintro e w7 ⟨rfl, I7⟩
                               go_wp2_with fail
                               go_roundw
                               case rel => exact ⟨k + 1, by go_num, I7⟩
                               case measure => simp [intOf]; omega)
                    · have g3 : ¬ (t : Int) < (ls.length : Int) := by omega
                      by_cases hcap : cap = 1
                      · subst hcap
                        obtain rfl : n = 0 := by omega
                        clear c1 f7
                        go_wp2_with (first
                          | (refine wpList_load_mid rfl 50 (.tmp 102) rfl g off (by rfl) _ _ r2.out Tryd.underlying50 rfl size50.out ?_)
                          | (refine wpList_alloc_row rfl 50 rfl [.int .i64 0, .slice none 0 0] zero50 ?_; intro w2 px hb2 hs2)
                          | (refine wpList_store_rw rfl 50 (.tmp 15) (.tmp 103) rfl wr.heap.size [.int .i64 0, .slice none 0 0] [.int .i64 p.to, .slice ap p.b.length cp] 50 (by rfl) (by rfl) px size50 (len2 _ _ _ _) (one2 _ _ _ _) ?_; intro w3 px3 O3; have G3 : Gr (fun _ => False) wr w3 := Gr.of_below (hb2.trans (O3.below (Nat.le_refl _))) _ (fun k h1 h2 => by omega); have E3 := E.out.m.keep G3; have kx3 : w3.cell? ⟨xb, 4, none⟩ = some (.slice (some ⟨g, off, none⟩) 1 1) := E3.m.o.q.cell 4; have kz3 := E3.m.o.q.frozen 4; have lx3 := E3.m.o.q.lt; have p0 : w3.cell? ⟨wr.heap.size, 0, none⟩ = some (.int .i64 p.to) := px3.cell 0; have p1 : w3.cell? ⟨wr.heap.size, 1, none⟩ = some (.slice ap p.b.length cp) := px3.cell 1; have lp := px3.lt; have hq := hid_into (fun V => (Gr.setCell (F := fun k => k = xb) w3 ⟨xb, 4, none⟩ V rfl).block wr.heap.size px3.lt (by omega)); have R3 := hid_into (Ee.round hT.out hz.out E.out hpot.out ht6 hJ.out (N.out w3 G3).1 (N.out w3 G3).2 ((World.cell?_of_block (hq.out _)).trans p0) ((World.cell?_of_block (hq.out _)).trans p1)); clear E3 G3 px px3 hb2 O3 hq p0 p1))
                        replace R3 : Hid (EnP w la xb l0 l1 da db (bytesOf2 rs) ls.length t k u9 wr.heap.size p.to ap p.b.length cp (w3.setCell ⟨xb, 4, none⟩ (.slice (some ⟨g, off, none⟩) 0 0))) := R3
                        generalize w3.setCell ⟨xb, 4, none⟩ (.slice (some ⟨g, off, none⟩) 0 0) = w4 at *
                        obtain ⟨a0, a1, q0, q1, -, go⟩ := R3.out
                        clear R3 E N hJ hpot r2 kx3 kz3 lx3 lp
                        rcases go with ⟨hto, C⟩ | ⟨hto, C⟩
                        · rw [hto] at q0
                          go_region_law (go_simp; go_wp2_with (go_at_call 16; refine C.out.mono ?_; rintro e w5 ⟨x1, n1, y1, x2, n2, y2, x3, n3, y3, w6, rfl, q5, q6, HR, C2⟩))
                          all_goals
                            (clear a0 a1 q0 q1 C
                             go_wp2_with (refine wpList_append_eqE rfl 33 (.tmp 140) (.tmp 141) rfl _ _ _ (by rfl) (by rfl) HR.out ?_)
                             refine C2.out.mono ?_
                             rintro e w7 ⟨rfl, I7⟩
                             go_wp2_with fail
                             go_roundw
                             case rel => exact ⟨k + 1, by go_num, I7⟩
                             case measure => simp [intOf]; omega)
                        · rw [hto] at q0
                          go_region_law (go_simp; go_wp2_with (go_at_call 16; refine C.out.mono ?_; rintro e w5 ⟨x1, n1, y1, x2, n2, y2, rfl, q5, C2⟩))
                          all_goals
                            (clear a0 a1 q0 q1 C
                             go_wp2_with fail
                             refine C2.out.mono ?_
                             rintro e w7 ⟨rfl, I7⟩
                             go_wp2_with fail
                             go_roundw
                             case rel => exact ⟨k + 1, by go_num, I7⟩
                             case measure => simp [intOf]; omega)
                      · have hcap2 : ¬ (cap : Int) = 1 := by omega
                        go_wp2_with (first
                          | (refine wpList_load_mid rfl 50 (.tmp 102) rfl g off (by rfl) _ _ r2.out Tryd.underlying50 rfl size50.out ?_)
                          | (refine wpList_alloc_row rfl 50 rfl [.int .i64 0, .slice none 0 0] zero50 ?_; intro w2 px hb2 hs2)
                          | (refine wpList_store_rw rfl 50 (.tmp 15) (.tmp 103) rfl wr.heap.size [.int .i64 0, .slice none 0 0] [.int .i64 p.to, .slice ap p.b.length cp] 50 (by rfl) (by rfl) px size50 (len2 _ _ _ _) (one2 _ _ _ _) ?_; intro w3 px3 O3; have G3 : Gr (fun _ => False) wr w3 := Gr.of_below (hb2.trans (O3.below (Nat.le_refl _))) _ (fun k h1 h2 => by omega); have E3 := E.out.m.keep G3; have kx3 : w3.cell? ⟨xb, 4, none⟩ = some (.slice (some ⟨g, off, none⟩) (n + 1) cap) := E3.m.o.q.cell 4; have kz3 := E3.m.o.q.frozen 4; have lx3 := E3.m.o.q.lt; have p0 : w3.cell? ⟨wr.heap.size, 0, none⟩ = some (.int .i64 p.to) := px3.cell 0; have p1 : w3.cell? ⟨wr.heap.size, 1, none⟩ = some (.slice ap p.b.length cp) := px3.cell 1; have lp := px3.lt; have hq := hid_into (fun V => (Gr.setCell (F := fun k => k = xb) w3 ⟨xb, 4, none⟩ V rfl).block wr.heap.size px3.lt (by omega)); have R3 := hid_into (Ee.round hT.out hz.out E.out hpot.out ht6 hJ.out (N.out w3 G3).1 (N.out w3 G3).2 ((World.cell?_of_block (hq.out _)).trans p0) ((World.cell?_of_block (hq.out _)).trans p1)); clear E3 G3 px px3 hb2 O3 hq p0 p1))
                        rw [if_neg hcap] at R3
                        replace R3 : Hid (EnP w la xb l0 l1 da db (bytesOf2 rs) ls.length t k u9 wr.heap.size p.to ap p.b.length cp (w3.setCell ⟨xb, 4, none⟩ (.slice (some ⟨g, off + 2, none⟩) n (cap - 1)))) := R3
                        generalize w3.setCell ⟨xb, 4, none⟩ (.slice (some ⟨g, off + 2, none⟩) n (cap - 1)) = w4 at *
                        obtain ⟨a0, a1, q0, q1, -, go⟩ := R3.out
                        clear R3 E N hJ hpot r2 kx3 kz3 lx3 lp
                        rcases go with ⟨hto, C⟩ | ⟨hto, C⟩
                        · rw [hto] at q0
                          go_region_law (go_simp; go_wp2_with (go_at_call 16; refine C.out.mono ?_; rintro e w5 ⟨x1, n1, y1, x2, n2, y2, x3, n3, y3, w6, rfl, q5, q6, HR, C2⟩))
                          all_goals
                            (clear a0 a1 q0 q1 C
                             go_wp2_with (refine wpList_append_eqE rfl 33 (.tmp 140) (.tmp 141) rfl _ _ _ (by rfl) (by rfl) HR.out ?_)
                             refine C2.out.mono ?_
                             rintro e w7 ⟨rfl, I7⟩
                             go_wp2_with fail
                             go_roundw
                             case rel => exact ⟨k + 1, by go_num, I7⟩
                             case measure => simp [intOf]; omega)
                        · rw [hto] at q0
                          go_region_law (go_simp; go_wp2_with (go_at_call 16; refine C.out.mono ?_; rintro e w5 ⟨x1, n1, y1, x2, n2, y2, rfl, q5, C2⟩))
                          all_goals
                            (clear a0 a1 q0 q1 C
                             go_wp2_with fail
                             refine C2.out.mono ?_
                             rintro e w7 ⟨rfl, I7⟩
                             go_wp2_with fail
                             go_roundw
                             case rel => exact ⟨k + 1, by go_num, I7⟩
                             case measure => simp [intOf]; omega)
            · obtain rfl : t = TT := by omega
              obtain ⟨F, G, x, y, Q, v, ps, cr, E, hQl, hP⟩ := I
              have hBl := hid_into E.m.l
              by_cases hm60 : 60 < ls.length
              · have f7 : (60 : Int) < (ls.length : Int) := by omega
                clear E hP hQl
                by_cases h2 : 200 + 6 * ls.length ≤ 600
                · have g1 : ¬ (t : Int) < 200 + 6 * (ls.length : Int) := by omega
                  go_wp2_with (go_at_call 10; refine (K.out _ hBl.out).mono ?_; rintro e w1 ⟨rfl, hB⟩)
                  go_ret
                  exact ⟨rfl, by rw [hla.out]; exact hB⟩
                · have g1 : (t : Int) < 200 + 6 * (ls.length : Int) := by omega
                  have g2 : ¬ (t : Int) < 600 := by omega
                  go_wp2_with (go_at_call 10; refine (K.out _ hBl.out).mono ?_; rintro e w1 ⟨rfl, hB⟩)
                  go_ret
                  exact ⟨rfl, by rw [hla.out]; exact hB⟩
              · have f7 : ¬ (60 : Int) < (ls.length : Int) := by omega
                have g1 : ¬ (t : Int) < 200 + 6 * (ls.length : Int) := by omega
                obtain ⟨D, rfl⟩ := (hP (by omega)).done (by omega)
                have hc : bytesOf2 cr = bytesOf2 rs := by
                  have := E.f.k.c
                  rw [D.2, List.take_of_length_le (Nat.le_refl _)] at this
                  exact this
                have hcl : cr.length = rs.length := by have := congrArg List.length hc; rw [bytesOf2_len, bytesOf2_len] at this; exact this
                have hby : ∀ z ∈ bytesOf2 rs, Byt z ∧ z.length ≤ 140737488355328 := by
                  intro z hz
                  obtain ⟨_, _, _, _, hr, _⟩ := HR.out
                  obtain ⟨r, hr2, rfl⟩ := List.mem_map.1 hz
                  exact (hr r hr2).2
                have HC : Rs wr u9 cr := E.m.r.rs (by rw [hc]; exact hby) (by omega)
                have HR2 : Rs wr (.slice ao rs.length cap) rs := HR.out.below (by rw [hla.out]; exact E.m.l)
                have CR := rows_any u9 (.slice ao rs.length cap) cr rs wr HC HR2
                rw [eqR_true hc] at CR
                replace CR := hid_into CR
                have CL : Hid (∀ W, Sm wr W → W.cell? ⟨xb, 0, none⟩ = some (.pointer (some ⟨l0, 0, none⟩)) ∧ Hid (Calls Tryd.prog 19 #[.pointer (some ⟨l0, 0, none⟩)] W fun e w' => e = .returned (.int .i64 0) ∧ w' = W)) := fun W hs => by
                  have E2 := E.m.keep (Gr.of_below (hs.below wr.heap.size) (fun _ => False) fun k h1 h2 => by omega)
                  have hL := E2.m.a.left
                  rw [D.1] at hL
                  exact ⟨E2.m.o.q.cell 0, hL⟩
                clear E hP hQl D hc hcl hby HC HR2
                go_wp2_with (first
                  | (go_at_call 18; refine CR.out.mono ?_; rintro e w1 ⟨rfl, s1⟩; obtain ⟨k1, C1⟩ := CL.out w1 s1; have B1 := hid_into (hBl.out.trans (s1.below _)); clear CR CL)
                  | (go_at_call 19; refine C1.out.mono ?_; rintro e w2 ⟨rfl, h2⟩; subst h2)
                  | (go_at_call 10; refine (K.out _ B1.out).mono ?_; rintro e w3 ⟨rfl, h3⟩))
                go_ret
                exact ⟨rfl, by rw [hla.out]; exact h3⟩
end Go.Proofs.YtahodgmdikaedaaDoor
