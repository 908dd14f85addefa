/-
  The document's Link that has Sent nothing: Hear of a packet of its own, by contract.
-/
import Derived.Test.YtahodgmdikaedaaDoorDcHear
namespace Go.Proofs.YtahodgmdikaedaaDoor
open Go.RowKit
section
variable {ops : Array Oper} {rest : List Oper} {o : Oper} {a : Act} {w : World} {Q : Exit → Act → World → Prop}
theorem wpList_app_eq {w' : World} (hgd : o.guard = none) (t : TypeId) (s x : Operand) (ho : o.op = .call { callee := .builtin .append, args := #[s, x], argTypes := #[t, t] })
    (v u v' : Value) (hs : a.eval s = v) (hx : a.eval x = u) (hr : ∀ ty, (Builtin.append_ #[t, t] ty #[v, u]).run Tryd.prog w = .ok v' w') (h : wpList Tryd.prog ops Q rest (a.put o.dst v') w') : wpList Tryd.prog ops Q (o :: rest) a w := by
  refine wpList_plain hgd fun _ hK => ?_
  unfold Oper.wp execOp
  simp only [ho, resolve, invoke, builtin, Sem.run_bind, Sem.run_pure, Result.andThen_ok, List.map_toArray, List.map_cons, List.map_nil, hs, hx, hr]
  exact hK _ _ h
end
/-- A row of bytes behind no rows. -/
theorem one_row {w : World} {B : Nat} (ao : Option Addr) (cp : Nat) (zs : List Int) (hr : Ow w B (.slice ao zs.length cp) zs) (hy : Byt zs) (hl : zs.length ≤ 100000) (hB : B ≤ w.heap.size) :
    ∃ a3 c3 w', (∀ ty, (Builtin.append_ #[33, 33] ty #[.slice none 0 0, .slice (some ⟨w.heap.size, 0, none⟩) 1 1]).run Tryd.prog (w.alloc (.cells #[.slice ao zs.length cp] 29)) = .ok (.slice a3 1 c3) w') ∧ Osl w' B (.slice a3 1 c3) [(.slice ao zs.length cp, zs)] ∧ Below w.heap.size w w' := by
  obtain ⟨a3, c3, w', h1, h2, h3, _⟩ := osl_new (w := w) (base := B) (Osl.nil w B) ao cp zs hr hy (by omega) (fun k _ e => by simp [Value.ownBlock] at e) (by simp) hB
  exact ⟨a3, c3, w', h1, h2, h3.below (Nat.le_refl _) fun k hk => by simp [Value.ownBlock] at hk⟩
section
variable {w : World} {lb : Nat} {id : Int} {s : Lk} {sv : Value} {zs : List Int}
theorem rest_hear (hl : s.L = []) (hw : s.way = 0) (hf : s.first = 1) (p : Pk) : s.hear1 p = s.come p ∧ (s.come p).outs 16 = [] ∧ (s.come p).goes 16 = s.come p := by
  have e0 : s.own p.ack = s := by
    unfold Lk.own
    rw [hw, hl]
    obtain ⟨L, way, first, came, since, sent, vain⟩ := s
    simp at hl hw ⊢
    subst hl; subst hw
    simp
  have e1 : s.hear1 p = s.come p := by unfold Lk.hear1; rw [e0]
  have cl : (s.come p).L = [] ∧ (s.come p).way = 0 := by
    unfold Lk.come
    split
    · exact ⟨hl, hw⟩
    · split <;> exact ⟨hl, hw⟩
  refine ⟨e1, ?_, ?_⟩
  · unfold Lk.outs Lk.full
    rw [cl.1, cl.2]
    rfl
  · unfold Lk.goes Lk.full
    rw [cl.1, cl.2]
    generalize s.come p = x at *
    obtain ⟨L, way, first, came, since, sent, vain⟩ := x
    simp at cl ⊢
    obtain ⟨rfl, rfl⟩ := cl
    simp
theorem rest_S (hl : s.L = []) (hw : s.way = 0) (hf : s.first = 1) (p : Pk) : s.hearS 16 p = (if 0 < p.n then (s.come p).sent1 else s.come p) ∧ s.hearO 16 p = (if 0 < p.n then [⟨0, (s.come p).came, []⟩] else []) := by
  obtain ⟨e1, e2, e3⟩ := rest_hear hl hw hf p
  unfold Lk.hearS Lk.hearO
  rw [e1, e2, e3]
  by_cases c : 0 < p.n
  · rw [if_pos c, if_pos c, if_pos (And.intro c rfl), if_pos (And.intro c rfl)]
    exact ⟨rfl, rfl⟩
  · rw [if_neg c, if_neg c, if_neg (fun h => c (And.left h)), if_neg (fun h => c (And.left h))]
    exact ⟨rfl, rfl⟩
theorem rd_some {id : Int} {zs : List Int} {p : Pk} (hp : rdP id zs = some p) : opE zs = 0 ∧ endR (ptD (opP zs)).2.1 (ptD (opP zs)).2.2 = 0 ∧ (ptB (opP zs)).1 = (p.n : Int) ∧ (ptC (opP zs)).1 = (p.ack : Int) ∧ (ptD (opP zs)).1 = p.row ∧ (ptA (opP zs)).1 = id := by
  unfold rdP at hp
  split at hp
  · next c =>
    obtain rfl := Option.some.inj hp
    have e2 : opP zs = decP zs := if_pos c.1
    obtain ⟨c1, c2, c3, c4⟩ := c.2.1
    rw [e2]
    refine ⟨(opE_one zs).2 c.1, c1, ?_, ?_, rfl, c.2.2⟩
    · show _ = (((prs (decP zs)).n.toNat : Nat) : Int)
      rw [Int.toNat_of_nonneg c2]; rfl
    · show _ = (((prs (decP zs)).ack.toNat : Nat) : Int)
      rw [Int.toNat_of_nonneg c3]; rfl
  · cases hp
/-- A packet without a row goes out, behind what was there. -/
theorem dlast {W0 : World} {v : Value} {os : List Rw2} (h : Dq W0 lb id s) (hs : s.sent < 100000000000000) (hg : Gr (fun k => k = lb) w W0) (hlt : lb < w.heap.size) (ho : Osl W0 w.heap.size v os) (W : World) (hW : Sm W0 W) :
    Calls Tryd.prog 47 #[.pointer (some ⟨lb, 0, none⟩), .int .i64 0] W fun e w2 => ∃ ar cr a5 c5 w3, e = .returned (.slice ar (encP id ⟨0, s.came, []⟩).length cr) ∧
      Hid (∀ ty, (Builtin.append_ #[33, 33] ty #[.slice none 0 0, .slice (some ⟨w2.heap.size, 0, none⟩) 1 1]).run Tryd.prog (w2.alloc (.cells #[.slice ar (encP id ⟨0, s.came, []⟩).length cr] 29)) = .ok (.slice a5 1 c5) w3) ∧
      Hid (Osl w3 w.heap.size v os ∧ Po w3 w.heap.size id [⟨0, s.came, []⟩] (.slice a5 1 c5) ∧ Dq w3 lb id s.sent1 ∧ Gr (fun k => k = lb) w w3) := by
  have Q : Dq W lb id s := h.keep (by rw [hW.heap])
  have hgd : Pk.Good ⟨0, s.came, []⟩ := ⟨Nat.zero_le _, (by have := h.bc; show s.came ≤ _; omega), (fun z hz => by cases hz), Nat.zero_le _, fun _ => rfl⟩
  have hgW : Gr (fun k => k = lb) w W := hg.trans (Gr.of_below (hW.below W0.heap.size) (fun _ => False) fun k hk hb => by omega) fun k hk => hk.elim
  refine (dpacket0 Q hs).mono ?_
  rintro e w2 ⟨ar, cr, rfl, hp, Q2, G2⟩
  have s2 := hgW.size
  have s3 := G2.size
  obtain ⟨a5, c5, w3, hr, ho3, hb3⟩ := one_row (w := w2) (B := w.heap.size) ar cr (encP id ⟨0, s.came, []⟩) (hp.mono s2) (encP_byt id h.i _ hgd) (by have := encP_len id _ hgd; omega) (by omega)
  have G3 : Gr (fun _ => False) w2 w3 := Gr.of_below hb3 _ fun k hk hb => by omega
  have ho2 : Osl w2 w.heap.size v os := ((ho.gr (Gr.of_below (hW.below W0.heap.size) (fun _ => False) fun k hk hb => by omega) fun _ _ h => h).gr G2 fun k hk e => by omega)
  exact ⟨ar, cr, a5, c5, w3, rfl, hr, ho2.gr G3 fun _ _ h => h, ⟨_, ho3, rfl⟩, Q2.keep (hb3.block lb Q2.q.lt), (hgW.trans G2 fun k hk => Or.inl hk).trans G3 fun k hk => hk.elim⟩
set_option maxHeartbeats 6400000 in
set_option maxRecDepth 20000 in
theorem dhear_next (h : Dq w lb id s) (hb : Bs w sv zs) (hy : Byt zs) (hz : zs.length ≤ 1000000) (p : Pk) (hp : rdP id zs = some p) (b1' : s.sent < 100000000000000) (b2' : s.came < 100000000000000) (hn : p.n = s.came + 1) :
    Calls Tryd.prog 22 #[.pointer (some ⟨lb, 0, none⟩), sv] w fun e w' => ∃ ao cap v bo bc, e = .returned (.tuple #[.slice ao 1 cap, .slice bo 1 bc]) ∧ Osl w' w.heap.size (.slice ao 1 cap) [(v, p.row)] ∧ Po w' w.heap.size id [⟨0, s.came + 1, []⟩] (.slice bo 1 bc) ∧ Dq w' lb id ({ s with came := s.came + 1 } : Lk).sent1 ∧ Gr (fun k => k = lb) w w' := by
  have FR := fr_any lb hb hy hz
  have hpc := rdP_came hy hp
  obtain ⟨r1, r2, r3, r4, r5, r6⟩ := rd_some hp
  rw [r1, r2, r3, r4, r5, r6] at FR
  clear r1 r2 r3 r4 r5 r6 hp hy hz hb
  generalize (ptA (opP zs)).2.1 = za at *
  generalize (ptA (opP zs)).2.2 = ea at *
  generalize (ptB (opP zs)).2.1 = zb at *
  generalize (ptB (opP zs)).2.2 = eb at *
  generalize (ptC (opP zs)).2.1 = zc at *
  generalize (ptC (opP zs)).2.2 = ec at *
  generalize (ptD (opP zs)).2.1 = zd at *
  generalize (ptD (opP zs)).2.2 = ed at *
  generalize opP zs = P at *
  have HQ := hid_into h
  have hlt := hid_into h.q.lt
  have hi := hid_into h.i
  have hpy := hid_into hpc
  have hrl : ¬ (4096 : Int) < (p.row.length : Int) := by have := hpc.l; omega
  have hn9 := hid_into hpc.n
  have hbc := h.bc
  have hbv := h.bv
  have e8 : (id != id) = false := by simp
  clear h hpc
  replace FR := hid_into FR
  go_enter Tryd.func22, Tryd.ntmps22
  go_wp2_with fail
  refine FR.out.q0.mono ?_
  rintro e w1 ⟨ao, cap, rfl, ho, hB⟩
  have hbP := ho.bs
  have hvP : ∀ k, (Value.slice ao P.length cap).ownBlock = some k → k < w1.heap.size := fun k hk => (World.ownsRow.lt ho k hk).2
  have R2 : Fs w w1.heap.size (w1.alloc (.cells #[.slice ao P.length cap, .int .i64 0] 90)) (.slice ao P.length cap) P 0 :=
    ⟨⟨heap_alloc_new w1 _, hbP.below ((Below.refl _ _).alloc (Nat.le_refl _) _) (Nat.le_refl _), fun e => by have := hvP _ e; omega⟩, hB.alloc hB.size _, fun k hk => by have := hvP k hk; rw [World.size_alloc]; omega, hB.size⟩
  clear ho hbP hvP
  have hB1 := hid_into hB.size
  clear hB
  go_wp2_with fail
  generalize hrb : w1.heap.size = rb at *
  replace hrb := hid_into hrb
  refine (FR.out.q1 _ _ _ R2.r).mono ?_
  rintro e w3 ⟨rfl, hl3⟩
  obtain ⟨v3, R3⟩ := R2.left hl3
  clear R2 hl3
  go_wp2_with fail
  refine (FR.out.q2 _ _ _ R3.r).mono ?_
  rintro e w4 ⟨rfl, hl4⟩
  obtain ⟨v4, R4⟩ := R3.left hl4
  clear R3 hl4
  go_wp2_with fail
  refine (FR.out.q3 _ _ _ R4.r).mono ?_
  rintro e w5 ⟨rfl, hl5⟩
  obtain ⟨v5, R5⟩ := R4.left hl5
  clear R4 hl5
  have h0' : (0 : Int) < (p.n : Int) := by omega
  have h0n : ¬ (p.n : Int) < 0 := by omega
  have h0a : ¬ (p.ack : Int) < 0 := by omega
  go_wp2_with fail
  refine (FR.out.q4 _ _ _ h0' R5.r R5.v).mono ?_
  rintro e w6 ⟨ao6, cap6, rfl, ho6, hl6⟩
  obtain ⟨v6, R6⟩ := R5.left hl6
  have hrow : Hid (Ow w6 w.heap.size (.slice ao6 p.row.length cap6) p.row) := (ho6.mono R5.b.size).keep fun k hk hlt2 => rfl
  clear ho6 hl6
  have Q6 : Dq w6 lb id s := HQ.out.keep (R6.b.block lb hlt.out)
  obtain ⟨d0, d1, d2, d3, d4, d6, d7, df⟩ := Q6.cells
  replace Q6 := hid_into Q6
  have B6 := hid_into R6.b
  clear R5
  have hn' : (p.n : Int) = (s.came : Int) + 1 := by omega
  go_wp2_with (go_at_call 45; refine (FR.out.q5 _ _ _ R6.r).mono ?_; rintro e w7 ⟨rfl, h7⟩; subst h7)
  refine wp_loop_rounds 1 ?_
  rw [rounds_succ]
  have Q7 : Hid (Dq (w6.setCell ⟨lb, 4, none⟩ (.int .i64 ((s.came : Int) + 1))) lb id { s with came := s.came + 1 }) := ⟨Q6.out.q.set 4 _, Q6.out.l, Q6.out.w0, Q6.out.f, Q6.out.i, b2', Q6.out.bs, Q6.out.bv⟩
  have G7 : Hid (Gr (fun k => k = lb) w (w6.setCell ⟨lb, 4, none⟩ (.int .i64 ((s.came : Int) + 1)))) := (Gr.of_below B6.out (fun k => k = lb) fun k hk hb => by omega).trans (Gr.setCell (F := fun k => k = lb) _ _ _ rfl) fun k hk => Or.inl hk
  have hrow7 : Hid (Bs (w6.setCell ⟨lb, 4, none⟩ (.int .i64 ((s.came : Int) + 1))) (.slice ao6 p.row.length cap6) p.row) := hrow.out.bs.keep fun k hk hlt2 => Below.heap_setCell _ _ _ _ fun e => by
    have h1 := (World.ownsRow.lt hrow.out k hk).1
    have h2 := hlt.out
    have h3 : k = lb := e
    omega
  clear R6 FR Q6 B6 hrow
  generalize hW7 : w6.setCell ⟨lb, 4, none⟩ (.int .i64 ((s.came : Int) + 1)) = w7 at *
  have hown8 : Ow (w7.alloc (.cells #[] 5)) w7.heap.size (.slice (some ⟨w7.heap.size, 0, none⟩) 0 0) [] := Ow_of_block (heap_alloc_new w7 _) (by simp) (Nat.le_refl _)
  have hb8 : Bs (w7.alloc (.cells #[] 5)) (.slice ao6 p.row.length cap6) p.row := hrow7.out.below ((Below.refl _ _).alloc (Nat.le_refl _) _) (Nat.le_refl _)
  have B8 : Below w7.heap.size w7 (w7.alloc (.cells #[] 5)) := (Below.refl _ _).alloc (Nat.le_refl _) _
  go_wp2_with (at_builtin; refine wpList_append_bs _ rfl (.tmp 122) (.tmp 123) rfl w7.heap.size _ [] rfl hown8 _ p.row rfl hb8 (by have := hpy.out.l; simp; omega) B8.size ?_)
  intro ao9 cap9 w9 ho9 hg9 hat9
  have B9 : Below w7.heap.size w7 w9 := B8.trans (grown_below hg9 B8.size hown8.from)
  have z7 := G7.out.size
  have z9 := B9.size
  obtain ⟨a3, c3, w10, hr10, ho10, hb10⟩ := one_row (w := w9) (B := w.heap.size) ao9 cap9 p.row (ho9.mono z7) hpy.out.b (by have := hpy.out.l; omega) (by omega)
  have B10 : Below w7.heap.size w7 w10 := B9.trans (hb10.mono z9)
  have QX : Hid (Dq w10 lb id { s with came := s.came + 1 }) := Q7.out.keep (B10.block lb Q7.out.q.lt)
  have GX : Gr (fun k => k = lb) w w10 := G7.out.trans (Gr.of_below B10 (fun _ => False) fun k hk hb => by omega) fun k hk => hk.elim
  have CP := hid_into (dlast QX.out b1' GX hlt.out ho10)
  have HR := hid_into hr10
  clear ho9 hg9 hat9 B8 B9 z7 z9 hr10 ho10 hb10 B10 GX hown8 hb8 hW7 Q7 G7
  have EC : Hid (∀ x : Nat, x = x) := fun _ => rfl
  generalize (encP id ⟨0, ({ s with came := s.came + 1 } : Lk).came, []⟩).length = EL at *
  go_wp2_with (first
    | (at_builtin; refine wpList_app_eq rfl 33 (.tmp 121) (.tmp 125) rfl _ _ _ (by rfl) (by rfl) (fun ty => HR.out ty) ?_)
    | (go_at_call 46; refine (dgoes0 QX.out).mono ?_; rintro e w11 ⟨rfl, h11⟩)
    | (go_at_call 47; refine (CP.out _ h11).mono ?_; rintro e w12 ⟨ar, cr, a5, c5, w13, rfl, HR2, HF⟩)
    | (at_builtin; refine wpList_app_eq rfl 33 (.tmp 145) (.tmp 148) rfl _ _ _ (by rfl) (by rfl) (fun ty => HR2.out ty) ?_))
  go_ret2
  obtain ⟨t1, t2, t3, t4⟩ := HF.out
  exact ⟨a3, c3, _, a5, c5, rfl, t1, t2, t3, t4⟩
set_option maxHeartbeats 6400000 in
set_option maxRecDepth 20000 in
theorem dhear_other (h : Dq w lb id s) (hb : Bs w sv zs) (hy : Byt zs) (hz : zs.length ≤ 1000000) (p : Pk) (hp : rdP id zs = some p) (b1' : s.sent < 100000000000000) (b3' : s.vain < 100000000000000) (hn0 : 0 < p.n) (hn : p.n ≠ s.came + 1) :
    Calls Tryd.prog 22 #[.pointer (some ⟨lb, 0, none⟩), sv] w fun e w' => ∃ bo bc, e = .returned (.tuple #[.slice none 0 0, .slice bo 1 bc]) ∧ Po w' w.heap.size id [⟨0, s.came, []⟩] (.slice bo 1 bc) ∧ Dq w' lb id ({ s with vain := s.vain + 1 } : Lk).sent1 ∧ Gr (fun k => k = lb) w w' := by
  have FR := fr_any lb hb hy hz
  have hpc := rdP_came hy hp
  obtain ⟨r1, r2, r3, r4, r5, r6⟩ := rd_some hp
  rw [r1, r2, r3, r4, r5, r6] at FR
  clear r1 r2 r3 r4 r5 r6 hp hy hz hb
  generalize (ptA (opP zs)).2.1 = za at *
  generalize (ptA (opP zs)).2.2 = ea at *
  generalize (ptB (opP zs)).2.1 = zb at *
  generalize (ptB (opP zs)).2.2 = eb at *
  generalize (ptC (opP zs)).2.1 = zc at *
  generalize (ptC (opP zs)).2.2 = ec at *
  generalize (ptD (opP zs)).2.1 = zd at *
  generalize (ptD (opP zs)).2.2 = ed at *
  generalize opP zs = P at *
  have HQ := hid_into h
  have hlt := hid_into h.q.lt
  have hi := hid_into h.i
  have hpy := hid_into hpc
  have hrl : ¬ (4096 : Int) < (p.row.length : Int) := by have := hpc.l; omega
  have hn9 := hid_into hpc.n
  have hbc := h.bc
  have hbv := h.bv
  have e8 : (id != id) = false := by simp
  clear h hpc
  replace FR := hid_into FR
  go_enter Tryd.func22, Tryd.ntmps22
  go_wp2_with fail
  refine FR.out.q0.mono ?_
  rintro e w1 ⟨ao, cap, rfl, ho, hB⟩
  have hbP := ho.bs
  have hvP : ∀ k, (Value.slice ao P.length cap).ownBlock = some k → k < w1.heap.size := fun k hk => (World.ownsRow.lt ho k hk).2
  have R2 : Fs w w1.heap.size (w1.alloc (.cells #[.slice ao P.length cap, .int .i64 0] 90)) (.slice ao P.length cap) P 0 :=
    ⟨⟨heap_alloc_new w1 _, hbP.below ((Below.refl _ _).alloc (Nat.le_refl _) _) (Nat.le_refl _), fun e => by have := hvP _ e; omega⟩, hB.alloc hB.size _, fun k hk => by have := hvP k hk; rw [World.size_alloc]; omega, hB.size⟩
  clear ho hbP hvP
  have hB1 := hid_into hB.size
  clear hB
  go_wp2_with fail
  generalize hrb : w1.heap.size = rb at *
  replace hrb := hid_into hrb
  refine (FR.out.q1 _ _ _ R2.r).mono ?_
  rintro e w3 ⟨rfl, hl3⟩
  obtain ⟨v3, R3⟩ := R2.left hl3
  clear R2 hl3
  go_wp2_with fail
  refine (FR.out.q2 _ _ _ R3.r).mono ?_
  rintro e w4 ⟨rfl, hl4⟩
  obtain ⟨v4, R4⟩ := R3.left hl4
  clear R3 hl4
  go_wp2_with fail
  refine (FR.out.q3 _ _ _ R4.r).mono ?_
  rintro e w5 ⟨rfl, hl5⟩
  obtain ⟨v5, R5⟩ := R4.left hl5
  clear R4 hl5
  have h0' : (0 : Int) < (p.n : Int) := by omega
  have h0n : ¬ (p.n : Int) < 0 := by omega
  have h0a : ¬ (p.ack : Int) < 0 := by omega
  go_wp2_with fail
  refine (FR.out.q4 _ _ _ h0' R5.r R5.v).mono ?_
  rintro e w6 ⟨ao6, cap6, rfl, ho6, hl6⟩
  obtain ⟨v6, R6⟩ := R5.left hl6
  have hrow : Hid (Ow w6 w.heap.size (.slice ao6 p.row.length cap6) p.row) := (ho6.mono R5.b.size).keep fun k hk hlt2 => rfl
  clear ho6 hl6
  have Q6 : Dq w6 lb id s := HQ.out.keep (R6.b.block lb hlt.out)
  obtain ⟨d0, d1, d2, d3, d4, d6, d7, df⟩ := Q6.cells
  replace Q6 := hid_into Q6
  have B6 := hid_into R6.b
  clear R5
  have hn' : ¬ (p.n : Int) = (s.came : Int) + 1 := by omega
  have C5 := hid_into (FR.out.q5 _ _ _ R6.r)
  clear R6 FR hrow
  go_wp2_with (go_at_call 45; refine C5.out.mono ?_; rintro e w7 ⟨rfl, h7⟩; subst h7)
  refine wp_loop_rounds 1 ?_
  rw [rounds_succ]
  have QX : Hid (Dq (w6.setCell ⟨lb, 7, none⟩ (.int .i64 ((s.vain : Int) + 1))) lb id { s with vain := s.vain + 1 }) := ⟨Q6.out.q.set 7 _, Q6.out.l, Q6.out.w0, Q6.out.f, Q6.out.i, Q6.out.bc, Q6.out.bs, b3'⟩
  have GX : Gr (fun k => k = lb) w (w6.setCell ⟨lb, 7, none⟩ (.int .i64 ((s.vain : Int) + 1))) := (Gr.of_below B6.out (fun k => k = lb) fun k hk hb => by omega).trans (Gr.setCell (F := fun k => k = lb) _ _ _ rfl) fun k hk => Or.inl hk
  have CP := hid_into (dlast QX.out b1' GX hlt.out (Osl.nil _ _))
  clear C5 Q6 B6 GX
  generalize (encP id ⟨0, ({ s with vain := s.vain + 1 } : Lk).came, []⟩).length = EL at *
  go_wp2_with (first
    | (go_at_call 46; refine (dgoes0 QX.out).mono ?_; rintro e w11 ⟨rfl, h11⟩)
    | (go_at_call 47; refine (CP.out _ h11).mono ?_; rintro e w12 ⟨ar, cr, a5, c5, w13, rfl, HR2, HF⟩)
    | (at_builtin; refine wpList_app_eq rfl 33 (.tmp 145) (.tmp 148) rfl _ _ _ (by rfl) (by rfl) (fun ty => HR2.out ty) ?_))
  go_ret2
  obtain ⟨t1, t2, t3, t4⟩ := HF.out
  exact ⟨a5, c5, rfl, t2, t3, t4⟩
set_option maxHeartbeats 6400000 in
set_option maxRecDepth 20000 in
theorem dhear_ack (h : Dq w lb id s) (hb : Bs w sv zs) (hy : Byt zs) (hz : zs.length ≤ 1000000) (p : Pk) (hp : rdP id zs = some p) (hn0 : p.n = 0) :
    Calls Tryd.prog 22 #[.pointer (some ⟨lb, 0, none⟩), sv] w fun e w' => e = .returned (.tuple #[.slice none 0 0, .slice none 0 0]) ∧ Dq w' lb id s ∧ Gr (fun k => k = lb) w w' := by
  have FR := fr_any lb hb hy hz
  have hpc := rdP_came hy hp
  obtain ⟨r1, r2, r3, r4, r5, r6⟩ := rd_some hp
  rw [r1, r2, r3, r4, r5, r6] at FR
  clear r1 r2 r3 r4 r5 r6 hp hy hz hb
  generalize (ptA (opP zs)).2.1 = za at *
  generalize (ptA (opP zs)).2.2 = ea at *
  generalize (ptB (opP zs)).2.1 = zb at *
  generalize (ptB (opP zs)).2.2 = eb at *
  generalize (ptC (opP zs)).2.1 = zc at *
  generalize (ptC (opP zs)).2.2 = ec at *
  generalize (ptD (opP zs)).2.1 = zd at *
  generalize (ptD (opP zs)).2.2 = ed at *
  generalize opP zs = P at *
  have HQ := hid_into h
  have hlt := hid_into h.q.lt
  have hi := hid_into h.i
  have hpy := hid_into hpc
  have hrl : ¬ (4096 : Int) < (p.row.length : Int) := by have := hpc.l; omega
  have hn9 := hid_into hpc.n
  have hbc := h.bc
  have hbv := h.bv
  have e8 : (id != id) = false := by simp
  clear h hpc
  replace FR := hid_into FR
  go_enter Tryd.func22, Tryd.ntmps22
  go_wp2_with fail
  refine FR.out.q0.mono ?_
  rintro e w1 ⟨ao, cap, rfl, ho, hB⟩
  have hbP := ho.bs
  have hvP : ∀ k, (Value.slice ao P.length cap).ownBlock = some k → k < w1.heap.size := fun k hk => (World.ownsRow.lt ho k hk).2
  have R2 : Fs w w1.heap.size (w1.alloc (.cells #[.slice ao P.length cap, .int .i64 0] 90)) (.slice ao P.length cap) P 0 :=
    ⟨⟨heap_alloc_new w1 _, hbP.below ((Below.refl _ _).alloc (Nat.le_refl _) _) (Nat.le_refl _), fun e => by have := hvP _ e; omega⟩, hB.alloc hB.size _, fun k hk => by have := hvP k hk; rw [World.size_alloc]; omega, hB.size⟩
  clear ho hbP hvP
  have hB1 := hid_into hB.size
  clear hB
  go_wp2_with fail
  generalize hrb : w1.heap.size = rb at *
  replace hrb := hid_into hrb
  refine (FR.out.q1 _ _ _ R2.r).mono ?_
  rintro e w3 ⟨rfl, hl3⟩
  obtain ⟨v3, R3⟩ := R2.left hl3
  clear R2 hl3
  go_wp2_with fail
  refine (FR.out.q2 _ _ _ R3.r).mono ?_
  rintro e w4 ⟨rfl, hl4⟩
  obtain ⟨v4, R4⟩ := R3.left hl4
  clear R3 hl4
  go_wp2_with fail
  refine (FR.out.q3 _ _ _ R4.r).mono ?_
  rintro e w5 ⟨rfl, hl5⟩
  obtain ⟨v5, R5⟩ := R4.left hl5
  clear R4 hl5
  have h0' : ¬ (0 : Int) < (p.n : Int) := by omega
  have h0n : ¬ (p.n : Int) < 0 := by omega
  have h0a : ¬ (p.ack : Int) < 0 := by omega
  have Q5 : Dq w5 lb id s := HQ.out.keep (R5.b.block lb hlt.out)
  obtain ⟨d0, d1, d2, d3, d4, d6, d7, df⟩ := Q5.cells
  obtain ⟨e1, rfl, rfl⟩ := FR.out.d4 h0'
  replace Q5 := hid_into Q5
  have B5 := hid_into R5.b
  have C5 := hid_into (FR.out.q5 _ _ _ R5.r)
  clear R5 FR
  have hrl0 : ¬ (4096 : Int) < 0 := by decide
  go_wp2_with (go_at_call 45; refine C5.out.mono ?_; rintro e w7 ⟨rfl, h7⟩; subst h7)
  refine wp_loop_rounds 1 ?_
  rw [rounds_succ]
  clear C5
  go_wp2_with (go_at_call 46; refine (dgoes0 Q5.out).mono ?_; rintro e w8 ⟨rfl, h8⟩)
  go_ret2
  exact ⟨rfl, Q5.out.keep (by rw [h8.heap]), Gr.of_below (B5.out.trans (h8.below _)) _ fun k hk hb => by omega⟩
theorem dhear_yes (h : Dq w lb id s) (hb : Bs w sv zs) (hy : Byt zs) (hz : zs.length ≤ 1000000) (p : Pk) (hp : rdP id zs = some p) (b1' : s.sent < 100000000000000) (b2' : s.came < 100000000000000) (b3' : s.vain < 100000000000000) :
    Calls Tryd.prog 22 #[.pointer (some ⟨lb, 0, none⟩), sv] w fun e w' => ∃ ao cap os bo bc, e = .returned (.tuple #[.slice ao os.length cap, .slice bo (s.hearO 16 p).length bc]) ∧ Osl w' w.heap.size (.slice ao os.length cap) os ∧ bytesOf2 os = s.rows p ∧ Po w' w.heap.size id (s.hearO 16 p) (.slice bo (s.hearO 16 p).length bc) ∧ Dq w' lb id (s.hearS 16 p) ∧ Gr (fun k => k = lb) w w' := by
  obtain ⟨eS, eO⟩ := rest_S h.l h.w0 h.f p
  rw [eS, eO]
  by_cases h0 : 0 < p.n
  · rw [if_pos h0, if_pos h0]
    by_cases hn : p.n = s.came + 1
    · have e1 : s.come p = { s with came := s.came + 1 } := if_pos hn
      have e2 : s.rows p = [p.row] := if_pos hn
      rw [e1, e2]
      refine (dhear_next h hb hy hz p hp b1' b2' hn).mono ?_
      rintro e w' ⟨ao, cap, v, bo, bc, rfl, t1, t2, t3, t4⟩
      exact ⟨ao, cap, [(v, p.row)], bo, bc, rfl, t1, rfl, t2, t3, t4⟩
    · have e1 : s.come p = { s with vain := s.vain + 1 } := by unfold Lk.come; rw [if_neg hn, if_pos h0]
      have e2 : s.rows p = [] := if_neg hn
      rw [e1, e2]
      refine (dhear_other h hb hy hz p hp b1' b3' h0 hn).mono ?_
      rintro e w' ⟨bo, bc, rfl, t2, t3, t4⟩
      exact ⟨none, 0, [], bo, bc, rfl, Osl.nil _ _, rfl, t2, t3, t4⟩
  · rw [if_neg h0, if_neg h0]
    have e1 : s.come p = s := by unfold Lk.come; rw [if_neg (by omega), if_neg h0]
    have e2 : s.rows p = [] := if_neg (by omega)
    rw [e1, e2]
    refine (dhear_ack h hb hy hz p hp (by omega)).mono ?_
    rintro e w' ⟨rfl, t3, t4⟩
    exact ⟨none, 0, [], none, 0, rfl, Osl.nil _ _, rfl, Po.nil _ _ _, t3, t4⟩
end
end Go.Proofs.YtahodgmdikaedaaDoor
