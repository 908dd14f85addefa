/-
  LinkOrder's walk.
-/
import Derived.Test.YtahodgmdikaedaaDoorM19
import Derived.Test.YtahodgmdikaedaaDoorM21
import Derived.Deep.DeepCutAuto
namespace Go.Proofs.YtahodgmdikaedaaDoor
open Go.RowKit
theorem no_tf {b : Bool} {p : Prop} (h : b = true) (e : b = false) : p := by rw [h] at e; cases e
theorem range2o {w : World} {g off : Nat} {a b : Value} (h0 : w.cell? ⟨g, off, none⟩ = some a) (h1 : w.cell? ⟨g, off + 1, none⟩ = some b) : w.rangeAt g off [a, b] := by
  intro j v hj
  match j, hj with
  | 0, hj => simp at hj; rw [← hj]; exact h0
  | 1, hj => simp at hj; rw [← hj]; exact h1
  | (n + 2), hj => simp at hj
theorem zero50o : (Tryd.prog.info? 50).bind (·.zero) = some (.agg [Value.int .i64 0, .slice none 0 0].toArray) := by kernel_rfl
theorem size50o' : (Tryd.prog.info? 50).map (·.size) = some 2 := by kernel_rfl
theorem size50o : Hid ((Tryd.prog.info? 50).map (·.size) = some 2) := size50o'
theorem one2i (n : Int) (a : Option Addr) (l c : Nat) : ∀ v ∈ [Value.int .i64 n, .slice a l c], v.oneCell' = true := by
  intro v hv
  simp at hv
  rcases hv with rfl | rfl <;> rfl
section
variable {ops : Array Oper} {rest : List Oper} {o : Oper} {a : Act} {w : World} {Q : Exit → Act → World → Prop}
theorem wpList_append_eqO {w' : World} (hgd : o.guard = none) (t : TypeId) (s x : Operand) (ho : o.op = .call { callee := .builtin .append, args := #[s, x], argTypes := #[t, t] })
    (v u v' : Value) (hs : a.eval s = v) (hx : a.eval x = u) (hr : ∀ ty, (Builtin.append_ #[t, t] ty #[v, u]).run Tryd.prog w = .ok v' w') (h : wpList Tryd.prog ops Q rest (a.put o.dst v') w') : wpList Tryd.prog ops Q (o :: rest) a w := by
  refine wpList_plain hgd fun _ hK => ?_
  unfold Oper.wp execOp
  simp only [ho, resolve, invoke, builtin, Sem.run_bind, Sem.run_pure, Result.andThen_ok, List.map_toArray, List.map_cons, List.map_nil, hs, hx, hr]
  exact hK _ _ h
end
theorem zero35 : (Tryd.prog.info? 35).bind (·.zero) = some (.agg [Value.slice none 0 0, .slice none 0 0].toArray) := by kernel_rfl
theorem zero36 : (Tryd.prog.info? 36).bind (·.zero) = some (.agg [Value.int .i64 0, .int .i64 0].toArray) := by kernel_rfl
theorem size35' : (Tryd.prog.info? 35).map (·.size) = some 2 := by kernel_rfl
theorem size35 : Hid ((Tryd.prog.info? 35).map (·.size) = some 2) := size35'
theorem len2o (a b c d : Value) : Hid ([a, b].length = [c, d].length) := rfl
theorem one2o (a b : Option Addr) (l c m d : Nat) : ∀ v ∈ [Value.slice a l c, .slice b m d], v.oneCell' = true := by
  intro v hv
  simp at hv
  rcases hv with rfl | rfl <;> rfl
theorem bits9 (a : Int) (m : Nat) (hm : m < 65536) : ∃ n : Nat, bits .and .i64 a (m : Int) = (n : Int) ∧ n ≤ m := by
  have e : bits .and .i64 a (m : Int) = IntKind.i64.wrap (((BitVec.ofInt 64 a &&& BitVec.ofInt 64 (m : Int)).toNat : Nat) : Int) := rfl
  have hb : (BitVec.ofInt 64 a &&& BitVec.ofInt 64 (m : Int)).toNat = (BitVec.ofInt 64 a).toNat &&& m := by
    rw [BitVec.toNat_and]
    have : (BitVec.ofInt 64 (m : Int)).toNat = m := by
      rw [BitVec.ofInt_natCast, BitVec.toNat_ofNat]
      omega
    rw [this]
  have hle : (BitVec.ofInt 64 a).toNat &&& m ≤ m := Nat.and_le_right
  refine ⟨(BitVec.ofInt 64 a).toNat &&& m, ?_, hle⟩
  rw [e, hb]
  generalize (BitVec.ofInt 64 a).toNat &&& m = n at *
  simp [IntKind.wrap, IntKind.bits, IntKind.signed]
  omega
theorem OrT.chk {K : Kk} {c : Nat} {a0 a1 : Option Addr} {n0 n1 c0 c1 s0 s1 : Nat} {W : World} (h : OrT K c (.slice a0 n0 c0) (.slice a1 n1 c1) s0 s1 W) : n0 ≤ s1 ∧ n1 ≤ s0 ∧ W.cell? ⟨K.cb, 0, none⟩ = some (.slice a0 n0 c0) ∧ W.cell? ⟨K.cb, 1, none⟩ = some (.slice a1 n1 c1) ∧ W.cell? ⟨K.sb, 0, none⟩ = some (.int .i64 (s0 : Int)) ∧ W.cell? ⟨K.sb, 1, none⟩ = some (.int .i64 (s1 : Int)) := by
  obtain ⟨_, _, _, _, _, _, e0, e1, f0, f1, _, _, g0, g1, g2, g3, _⟩ := h.form
  simp only [Value.slice.injEq] at e0 e1
  obtain ⟨_, rfl, _⟩ := e0
  obtain ⟨_, rfl, _⟩ := e1
  exact ⟨f0, f1, g0, g1, g2, g3⟩
/-- What an end is. -/
theorem OrT.side {K : Kk} {c : Nat} {u0 u1 : Value} {s0 s1 : Nat} {W : World} (h : OrT K c u0 u1 s0 s1 W) {ra rb : List Rw2} {ao bo : Option Addr} {ca cb : Nat} (ha : Rs K.w (.slice ao ra.length ca) ra) (hb : Rs K.w (.slice bo rb.length cb) rb) (eA : K.A = bytesOf2 ra) (eB : K.B = bytesOf2 rb) (va : K.av = .slice ao ra.length ca) (vb : K.bv = .slice bo rb.length cb) {e : Nat} (he : e ≤ 1) :
    ∃ (le S : Nat) (gq : Option Addr) (R : List Rw2) (gc : Nat), W.cell? ⟨K.xb, e, none⟩ = some (.pointer (some ⟨le, 0, none⟩)) ∧ W.cell? ⟨K.sb, e, none⟩ = some (.int .i64 (S : Int)) ∧ W.cell? ⟨K.gb, e, none⟩ = some (.slice gq R.length gc) ∧ Hid (le = if e = 0 then K.l0 else K.l1) ∧ Hid (S = if e = 0 then s0 else s1) ∧ Hid (bytesOf2 R = if e = 0 then K.A else K.B) ∧ Hid (Rs K.w (.slice gq R.length gc) R) ∧ R.length ≤ max ra.length rb.length := by
  obtain ⟨_, _, _, _, _, _, _, _, _, _, _, _, _, _, d2, d3, d4, d5, d6, d7, _⟩ := h.form
  rw [va] at d4
  rw [vb] at d5
  have : e = 0 ∨ e = 1 := by omega
  rcases this with rfl | rfl
  · exact ⟨_, _, _, ra, _, d6, d2, d4, rfl, rfl, eA.symm, ha, by omega⟩
  · exact ⟨_, _, _, rb, _, d7, d3, d5, rfl, rfl, eB.symm, hb, by omega⟩
set_option maxHeartbeats 40000000 in
set_option maxRecDepth 20000 in
theorem order_walk (ao bo po : Option Addr) (ca cb' cp : Nat) (ra rb : List Rw2) (zs : List Int) (w : World) (ha : Rs w (.slice ao ra.length ca) ra) (hb : Rs w (.slice bo rb.length cb') rb) (hi : Ir9 w (.slice po zs.length cp) zs) (hca : ra.length ≤ ca ∧ ca ≤ maxLen) (hcb : rb.length ≤ cb' ∧ cb' ≤ maxLen) (ht : Tab w) :
    Calls Tryd.prog 4 #[.slice ao ra.length ca, .slice bo rb.length cb', .slice po zs.length cp] w fun e w' => e = .returned (.bool true) ∧ Below w.heap.size w w' := by
  have KN : Hid (∀ W, Below w.heap.size w W → Calls Tryd.prog 10 #[] W fun e w' => e = .returned (.bool true) ∧ Below W.heap.size W w') := fun W h => lknown_any W (ht.below h ht.lt)
  have K9 : Hid (∀ W, Below w.heap.size w W → Calls Tryd.prog 10 #[] W fun e w' => e = .returned (.bool true) ∧ Below w.heap.size w w') := fun W h => (lknown_any W (ht.below h ht.lt)).mono fun e w' ⟨he, hB⟩ => ⟨he, h.trans (hB.mono h.size)⟩
  obtain ⟨_, _, _, hla, -⟩ := ha.form
  obtain ⟨_, _, _, hlb, -⟩ := hb.form
  obtain ⟨_, _, hpv, hpl, hpc⟩ := hi
  simp only [Value.slice.injEq] at hpv
  obtain ⟨rfl, _, rfl⟩ := hpv
  have HA := hid_into ha
  have HB := hid_into hb
  have HP := hid_into hpc
  have hz := hid_into ht.lt
  have hT := hid_into ht
  have HCA := hid_into hca
  have HCB := hid_into hcb
  clear ha hb hpc ht hca hcb
  go_enter Tryd.func4, Tryd.ntmps4
  go_wp2_with fail
  go_loopw [7, 8] (fun n i wr => ∃ k N : Nat, i = .int .i64 (k : Int) ∧ k ≤ ra.length + rb.length ∧ n = .int .i64 (N : Int) ∧ 10 * k ≤ N ∧ N ≤ 8000 ∧ wr = w) (fun _ i _ => ra.length + rb.length - (intOf i).toNat)
  case atStart => exact ⟨0, 0, rfl, Nat.zero_le _, rfl, Nat.le_refl _, Nat.zero_le _, rfl⟩
  case round =>
    obtain ⟨k, N, rfl, hk, rfl, hN1, hN2, hwr⟩ := hrel
    replace hwr := hwr.symm
    subst hwr
    by_cases hlt : k < ra.length + rb.length
    · have f2 : (k : Int) < ((ra.length + rb.length : Nat) : Int) := by omega
      have f2' : (k : Int) < (ra.length : Int) + (rb.length : Int) := by omega
      obtain ⟨U, hU⟩ : ∃ U : World, U = w := ⟨_, rfl⟩
      replace hU := hid_into hU
      go_upto_if 37 with fail
      go_cut [7] (fun nv wx => ∃ M : Nat, nv = .int .i64 (M : Int) ∧ N + 10 ≤ M ∧ M ≤ N + 10 + 140737488355328 ∧ U = wx)
      case first =>
        by_cases h1 : k < ra.length
        · obtain ⟨b1, o1, ap1, cp1, z1, rfl, hg1, hcell1, hbs1, hby1, hzl⟩ := Rs.get (rs := ra) HA.out h1
          have g1 : (k : Int) < (ra.length : Int) := by omega
          clear hg1 hbs1 hby1
          go_wp2_with fail
          go_meet
          exact ⟨N + 10 + z1.length, by go_num, by omega, by omega, hU.out⟩
        · have g1 : ¬ (k : Int) < (ra.length : Int) := by omega
          go_wp2_with fail
          go_meet
          exact ⟨N + 10, by go_num, by omega, by omega, hU.out⟩
      case rest =>
        obtain ⟨M, rfl, hM1, hM2, rfl⟩ := hcut
        go_upto_if 48 with fail
        go_cut [7] (fun nv wx => ∃ M' : Nat, nv = .int .i64 (M' : Int) ∧ N + 10 ≤ M' ∧ M' ≤ N + 10 + 281474976710656 ∧ U = wx)
        case first =>
          by_cases h1 : k < rb.length
          · obtain ⟨b1, o1, ap1, cp1, z1, rfl, hg1, hcell1, hbs1, hby1, hzl⟩ := Rs.get (rs := rb) HB.out h1
            have g1 : (k : Int) < (rb.length : Int) := by omega
            rw [← hU.out] at hcell1
            clear hg1 hbs1 hby1
            go_wp2_with fail
            go_meet
            exact ⟨M + z1.length, by go_num, by omega, by omega, rfl⟩
          · have g1 : ¬ (k : Int) < (rb.length : Int) := by omega
            go_wp2_with fail
            go_meet
            exact ⟨M, by go_num, by omega, by omega, rfl⟩
        case rest =>
          obtain ⟨M', rfl, hM3, hM4, rfl⟩ := hcut
          have hU' := hU.out
          subst hU'
          by_cases hm : 8000 < M'
          · have f3 : (8000 : Int) < (M' : Int) := by omega
            go_wp2_with (go_at_call 10; refine (K9.out _ (Below.refl _ _)).mono ?_; rintro e w1 ⟨rfl, hB⟩)
            go_ret
            exact ⟨rfl, hB⟩
          · have f3 : ¬ (8000 : Int) < (M' : Int) := by omega
            go_wp2_with fail
            go_roundw
            case rel => exact ⟨k + 1, M', by go_num, by omega, rfl, by omega, by omega, trivial⟩
            case measure => simp [intOf]; omega
    · obtain rfl : k = ra.length + rb.length := by omega
      have f2 : ¬ ((ra.length + rb.length : Nat) : Int) < ((ra.length + rb.length : Nat) : Int) := by omega
      go_wp2_with fail
      refine (start_any w 9 (by decide)).mono ?_
      rintro e w1 ⟨xb, l0, l1, da, db, F, G, rfl, M1, _, _, B1, _⟩
      have s1 := B1.size
      go_upto_region 16 with (first
        | (refine wpList_alloc_row rfl 35 rfl [.slice none 0 0, .slice none 0 0] zero35 ?_; intro w2 g2 b2 z2)
        | (refine wpList_store_rw rfl 35 (.tmp 11) (.tmp 67) rfl w1.heap.size [.slice none 0 0, .slice none 0 0] [.slice ao ra.length ca, .slice bo rb.length cb'] 35 (by rfl) (by rfl) g2 size35 (len2o _ _ _ _) (one2o _ _ _ _ _ _) ?_; intro w3 g3 O3))
      have b3 : Below w1.heap.size w1 w3 := b2.trans (O3.below (Nat.le_refl _))
      have z3 : Hid (w3.heap.size = w1.heap.size + 1) := hid_into (by rw [O3.size]; exact z2.out)
      clear g2 b2 z2 O3
      go_upto_region 17 with (refine wpList_alloc_row rfl 36 rfl [.int .i64 0, .int .i64 0] zero36 ?_; intro w4 q4 b4 z4)
      have b4' : Below w1.heap.size w1 w4 := b3.trans (b4.mono b3.size)
      have g4 := g3.below b4 g3.lt
      clear b3 b4 g3
      go_wp2_with (refine wpList_alloc_row rfl 35 rfl [.slice none 0 0, .slice none 0 0] zero35 ?_; intro w5 c5 b5 z5)
      have b5' : Below w1.heap.size w1 w5 := b4'.trans (b5.mono b4'.size)
      have g5 := g4.below b5 g4.lt
      have q5 := q4.below b5 q4.lt
      have I0 := hid_into (OrT.start (av := .slice ao ra.length ca) (bv := .slice bo rb.length cb') (bytesOf2 ra) (bytesOf2 rb) M1 B1 s1 b5' (Nat.le_refl _) (by have := z3.out; omega) (by have := z4.out; have := z3.out; omega) g5 q5 c5)
      have hOK : Hid (Kk.Ok ⟨w, w.heap.size, xb, l0, l1, da, db, w1.heap.size, w3.heap.size, w4.heap.size, .slice ao ra.length ca, .slice bo rb.length cb', bytesOf2 ra, bytesOf2 rb⟩) := hid_into ⟨hT.out, hz.out, by show (bytesOf2 ra).length ≤ 900; rw [bytesOf2_len]; omega, by show (bytesOf2 rb).length ≤ 900; rw [bytesOf2_len]; omega⟩
      clear M1 B1 s1 z3 q4 z4 b4' g4 c5 b5 z5 b5' g5 q5 hN1 hN2 hk f2
      generalize w1.heap.size = gb at *
      generalize w3.heap.size = sb at *
      generalize w4.heap.size = cb at *
      obtain ⟨K, hKd⟩ : ∃ K : Kk, K = ⟨w, w.heap.size, xb, l0, l1, da, db, gb, sb, cb, .slice ao ra.length ca, .slice bo rb.length cb', bytesOf2 ra, bytesOf2 rb⟩ := ⟨_, rfl⟩
      rw [← hKd] at I0 hOK
      have e1 : xb = K.xb := by rw [hKd]
      have e2 : gb = K.gb := by rw [hKd]
      have e3 : sb = K.sb := by rw [hKd]
      have e4 : cb = K.cb := by rw [hKd]
      have e5 : l0 = K.l0 := by rw [hKd]
      have e6 : l1 = K.l1 := by rw [hKd]
      have e7 : Hid (K.la = w.heap.size ∧ K.w = w ∧ K.av = .slice ao ra.length ca ∧ K.bv = .slice bo rb.length cb' ∧ K.A = bytesOf2 ra ∧ K.B = bytesOf2 rb) := hid_into (by rw [hKd]; exact ⟨rfl, rfl, rfl, rfl, rfl, rfl⟩)
      clear hKd
      subst e1 e2 e3 e4 e5 e6
      go_wp2_with fail
      go_loopw [14] (fun i W => ∃ (k : Nat) (u0 u1 : Value) (s0 s1 : Nat), i = .int .i64 (k : Int) ∧ k ≤ zs.length ∧ k ≤ 600 ∧ Hid (OrT K (17 * k) u0 u1 s0 s1 W)) (fun i _ => zs.length - (intOf i).toNat)
      case atStart => exact ⟨0, _, _, 0, 0, rfl, Nat.zero_le _, Nat.zero_le _, I0⟩
      case round =>
        clear I0
        obtain ⟨k, u0, u1, s0, s1, rfl, hk1, hk2, I⟩ := hrel
        obtain ⟨a0, n0, c0, a1, n1, c1, rfl, rfl, hn0, hn1, hsA, hsB, d0, d1, d2, d3, d4, d5, d6, d7, hbl, fs, fc⟩ := I.out.form
        rw [e7.out.2.2.1] at d4
        rw [e7.out.2.2.2.1] at d5
        rw [e7.out.1, e7.out.2.1] at hbl
        by_cases hgo : k < zs.length ∧ k < 600
        · obtain ⟨g1, g2⟩ := hgo
          have f1 : (k : Int) < (zs.length : Int) := by omega
          have f2 : (k : Int) < 600 := by omega
          have f0 : (0 : Int) ≤ (k : Int) := by omega
          obtain ⟨pb, poff, rfl, hpb, hpc⟩ := HP.out (fun e => by rw [e] at g1; simp at g1)
          have cz : wr.cell? ⟨pb, poff + k, none⟩ = some (.int .i64 (zs.getD k 0)) := (hbl.cell hpb).trans (hpc k g1)
          generalize zs.getD k 0 = z at *
          clear hpc
          obtain ⟨e, he, he1⟩ := bits9 (z / 8) 1 (by decide)
          have he : bits .and .i64 (z / 8) 1 = (e : Int) := he
          have he2 : (e : Int) < 2 := by omega
          have he0 : (0 : Int) ≤ (e : Int) := by omega
          obtain ⟨m, hm, hm7⟩ := bits9 z 7 (by decide)
          have hm : bits .and .i64 z 7 = (m : Int) := hm
          obtain ⟨A, hA, hA9⟩ := bits9 (z / 16) 4095 (by decide)
          have hA : bits .and .i64 (z / 16) 4095 = (A : Int) := hA
          go_upto_region 34 with fail
          by_cases hm01 : m ≤ 1
          · clear hA
            obtain ⟨le, S, gq, R, gc, x1, x2, x3, hle, hS, hRb, hR, hRl⟩ := I.out.side (by rw [e7.out.2.1]; exact HA.out) (by rw [e7.out.2.1]; exact HB.out) e7.out.2.2.2.2.1 e7.out.2.2.2.2.2 e7.out.2.2.1 e7.out.2.2.2.1 he1
            clear d0 d1 d2 d3 d4 d5 d6 d7
            obtain ⟨U0, hU0⟩ : ∃ U : World, wr = U := ⟨_, rfl⟩
            replace hU0 := hid_into hU0
            go_upto_if 167 with fail
            go_cut [167] (fun tv wx => tv = .bool true ∧ U0 = wx)
            case first =>
              have hm01' : m = 0 ∨ m = 1 := by omega
              rcases hm01' with rfl | rfl
              · go_wp2_with fail
                go_meet
                exact ⟨rfl, hU0.out.symm⟩
              · go_wp2_with fail
                go_meet
                exact ⟨rfl, hU0.out.symm⟩
            obtain ⟨rfl, rfl⟩ := hcut
            have hU0' := hU0.out
            subst hU0'
            clear hU0 hm01
            obtain ⟨U, hU⟩ : ∃ U : World, U = wr.drew := ⟨_, rfl⟩
            replace hU := hid_into hU
            by_cases hlt : S < R.length
            · have g3 : (S : Int) < (R.length : Int) := by omega
              have g4 : (0 : Int) ≤ (S : Int) := by omega
              have hR' := hR.out
              rw [e7.out.2.1] at hR'
              obtain ⟨b1, o1, ap1, cp1, z1, rfl, hg1, hcell1, hbs1, hby1, hzl⟩ := Rs.get (rs := R) hR' hlt
              have hbl1 := World.block_lt_of_cell? w _ hcell1
              have cc1 : wr.cell? ⟨b1, o1 + S, none⟩ = some (.slice ap1 z1.length cp1) := (hbl.cell hbl1).trans hcell1
              have hbs2 : Bs wr.drew.drew (.slice ap1 z1.length cp1) z1 := (hbs1.below hbl (Nat.le_refl _)).keep fun _ _ _ => rfl
              have hzz : (if e = 0 then K.A else K.B)[if e = 0 then s0 else s1]? = some z1 := by rw [← hRb.out, ← hS.out]; exact bytesOf2_get hg1
              by_cases h4 : z1.length ≤ 4096
              · have CS := hid_into (I.out.drew.drew.send hOK.out he1 (by omega) hzz hbs2 hby1 h4)
                rw [← hle.out, ← hS.out] at CS
                clear hg1 hcell1 hbs1 hbs2 hby1 hzz hR' hR hRb hle hS I
                obtain ⟨t0', ht0⟩ : ∃ t, t = (if e = 0 then s0 + 1 else s0) := ⟨_, rfl⟩
                obtain ⟨t1', ht1⟩ : ∃ t, t = (if e = 0 then s1 else s1 + 1) := ⟨_, rfl⟩
                rw [← ht0, ← ht1] at CS
                clear ht0 ht1
                as_aux_lemma =>
                  go_upto_region 36 with fail
                  go_cut [177] (fun tb wx => tb = .bool true ∧ U = wx)
                  case first =>
                    as_aux_lemma =>
                      refine wp_region_held (S := fun V => V.cell? ⟨K.sb, e, none⟩ = some (.int .i64 (S : Int)) ∧ V.cell? ⟨K.gb, e, none⟩ = some (.slice (some ⟨b1, o1, none⟩) R.length gc)) (by kernel_rfl) ?_
                      change wpAnyH _ _ _ _ _ _ _ _ (World.drew _)
                      have S0 : wr.drew.cell? ⟨K.sb, e, none⟩ = some (.int .i64 (S : Int)) ∧ wr.drew.cell? ⟨K.gb, e, none⟩ = some (.slice (some ⟨b1, o1, none⟩) R.length gc) := ⟨x2, x3⟩
                      refine wpAnyH_take (i := 0) (v := .int .i64 (e : Int)) rfl (by kernel_rfl) (by kernel_rfl) (by kernel_rfl) (fun _ _ _ h => h) (Or.inl ⟨by kernel_rfl, by intro V _; go_simp⟩) S0 ?_
                      simp only [List.getElem_toArray, List.getElem_cons_zero, Act.put, List.setIfInBounds_toArray, List.set_cons_zero, List.set_cons_succ]
                      refine wpAnyH_take (i := 1) (v := .pointer (some ⟨K.sb, e, none⟩)) rfl (by kernel_rfl) (by kernel_rfl) (by kernel_rfl) (fun _ _ _ h => h) (Or.inl ⟨by kernel_rfl, by intro V _; go_simp⟩) S0 ?_
                      simp only [List.getElem_toArray, List.getElem_cons_zero, List.getElem_cons_succ, Act.put, List.setIfInBounds_toArray, List.set_cons_zero, List.set_cons_succ]
                      refine wpAnyH_take (i := 2) (v := .int .i64 (S : Int)) rfl (by kernel_rfl) (by kernel_rfl) (by kernel_rfl) (fun _ _ _ h => h) (Or.inl ⟨by kernel_rfl, by intro V hV; obtain ⟨y0, y1⟩ := hV; go_simp⟩) S0 ?_
                      simp only [List.getElem_toArray, List.getElem_cons_zero, List.getElem_cons_succ, Act.put, List.setIfInBounds_toArray, List.set_cons_zero, List.set_cons_succ]
                      refine wpAnyH_take (i := 3) (v := .int .i64 (e : Int)) rfl (by kernel_rfl) (by kernel_rfl) (by kernel_rfl) (fun _ _ _ h => h) (Or.inl ⟨by kernel_rfl, by intro V _; go_simp⟩) S0 ?_
                      simp only [List.getElem_toArray, List.getElem_cons_zero, List.getElem_cons_succ, Act.put, List.setIfInBounds_toArray, List.set_cons_zero, List.set_cons_succ]
                      refine wpAnyH_take (i := 4) (v := .pointer (some ⟨K.gb, e, none⟩)) rfl (by kernel_rfl) (by kernel_rfl) (by kernel_rfl) (fun _ _ _ h => h) (Or.inl ⟨by kernel_rfl, by intro V _; go_simp⟩) S0 ?_
                      simp only [List.getElem_toArray, List.getElem_cons_zero, List.getElem_cons_succ, Act.put, List.setIfInBounds_toArray, List.set_cons_zero, List.set_cons_succ]
                      refine wpAnyH_take (i := 5) (v := .slice (some ⟨b1, o1, none⟩) R.length gc) rfl (by kernel_rfl) (by kernel_rfl) (by kernel_rfl) (fun _ _ _ h => h) (Or.inl ⟨by kernel_rfl, by intro V hV; obtain ⟨y0, y1⟩ := hV; go_simp⟩) S0 ?_
                      simp only [List.getElem_toArray, List.getElem_cons_zero, List.getElem_cons_succ, Act.put, List.setIfInBounds_toArray, List.set_cons_zero, List.set_cons_succ]
                      refine wpAnyH_take (i := 6) (v := .int .i64 (R.length : Int)) rfl (by kernel_rfl) (by kernel_rfl) (by kernel_rfl) (fun _ _ _ h => h) (Or.inl ⟨by kernel_rfl, by intro V _; go_simp⟩) S0 ?_
                      simp only [List.getElem_toArray, List.getElem_cons_zero, List.getElem_cons_succ, Act.put, List.setIfInBounds_toArray, List.set_cons_zero, List.set_cons_succ]
                      refine wpAnyH_take (i := 7) (v := .bool true) rfl (by kernel_rfl) (by kernel_rfl) (by kernel_rfl) (fun _ _ _ h => h) (Or.inl ⟨by kernel_rfl, by intro V _; go_simp⟩) S0 ?_
                      simp only [List.getElem_toArray, List.getElem_cons_zero, List.getElem_cons_succ, Act.put, List.setIfInBounds_toArray, List.set_cons_zero, List.set_cons_succ]
                      refine wpAnyH_done (by kernel_rfl) ?_ _
                      go_wp2_with fail
                      go_meet
                      exact ⟨rfl, hU.out⟩
                  obtain ⟨rfl, rfl⟩ := hcut
                  have hU' := hU.out
                  subst hU'
                  go_upto_region 37 with fail
                  go_cut [17, 18] (fun ov rv wx => ∃ a n c', ov = .slice a n c' ∧ rv = .int .i64 0 ∧ wx.cell? ⟨K.sb, e, none⟩ = some (.int .i64 (S : Int)) ∧ wx.frozen? ⟨K.sb, e, none⟩ = false ∧ Hid (OrM K (17 * k + 17) e (.slice a n c') (.slice a0 n0 c0) (.slice a1 n1 c1) t0' t1' (wx.setCell ⟨K.sb, e, none⟩ (.int .i64 ((S : Int) + 1)))))
                  case first =>
                    as_aux_lemma =>
                      refine wp_region_M 14 (fun V => V.cell? ⟨K.xb, e, none⟩ = some (.pointer (some ⟨le, 0, none⟩)) ∧ V.cell? ⟨K.sb, e, none⟩ = some (.int .i64 (S : Int)) ∧ V.cell? ⟨K.gb, e, none⟩ = some (.slice (some ⟨b1, o1, none⟩) R.length gc) ∧ V.cell? ⟨b1, o1 + S, none⟩ = some (.slice ap1 z1.length cp1)) (by kernel_rfl) ?_
                      change wpM _ _ _ _ _ _ _ _ _ (World.drew _)
                      have S0 : wr.drew.drew.cell? ⟨K.xb, e, none⟩ = some (.pointer (some ⟨le, 0, none⟩)) ∧ wr.drew.drew.cell? ⟨K.sb, e, none⟩ = some (.int .i64 (S : Int)) ∧ wr.drew.drew.cell? ⟨K.gb, e, none⟩ = some (.slice (some ⟨b1, o1, none⟩) R.length gc) ∧ wr.drew.drew.cell? ⟨b1, o1 + S, none⟩ = some (.slice ap1 z1.length cp1) := ⟨x1, x2, x3, cc1⟩
                      refine wpM_takeF 0 179 (v := .pointer (some ⟨K.xb, 0, none⟩)) rfl rfl (by kernel_rfl) (by kernel_rfl) (by kernel_rfl) (by kernel_rfl) (fun _ _ _ h => h) (fun _ => S0) (Or.inl ⟨by kernel_rfl, by intro V _; go_simp⟩) ?_
                      simp only [Act.put, List.setIfInBounds_toArray, List.set_cons_zero, List.set_cons_succ]
                      refine wpM_takeF 1 180 (v := .int .i64 (e : Int)) rfl rfl (by kernel_rfl) (by kernel_rfl) (by kernel_rfl) (by kernel_rfl) (fun _ _ _ h => h) (fun _ => S0) (Or.inl ⟨by kernel_rfl, by intro V _; go_simp⟩) ?_
                      simp only [Act.put, List.setIfInBounds_toArray, List.set_cons_zero, List.set_cons_succ]
                      refine wpM_takeF 2 181 (v := .pointer (some ⟨K.xb, 0, none⟩)) rfl rfl (by kernel_rfl) (by kernel_rfl) (by kernel_rfl) (by kernel_rfl) (fun _ _ _ h => h) (fun _ => S0) (Or.inl ⟨by kernel_rfl, by intro V _; go_simp⟩) ?_
                      simp only [Act.put, List.setIfInBounds_toArray, List.set_cons_zero, List.set_cons_succ]
                      refine wpM_takeF 3 182 (v := .pointer (some ⟨K.xb, 0, none⟩)) rfl rfl (by kernel_rfl) (by kernel_rfl) (by kernel_rfl) (by kernel_rfl) (fun _ _ _ h => h) (fun _ => S0) (Or.inl ⟨by kernel_rfl, by intro V _; go_simp⟩) ?_
                      simp only [Act.put, List.setIfInBounds_toArray, List.set_cons_zero, List.set_cons_succ]
                      refine wpM_takeF 4 183 (v := .pointer (some ⟨K.xb, e, none⟩)) rfl rfl (by kernel_rfl) (by kernel_rfl) (by kernel_rfl) (by kernel_rfl) (fun _ _ _ h => h) (fun _ => S0) (Or.inl ⟨by kernel_rfl, by intro V _; go_simp⟩) ?_
                      simp only [Act.put, List.setIfInBounds_toArray, List.set_cons_zero, List.set_cons_succ]
                      refine wpMT_take 5 184 [] (v := .pointer (some ⟨le, 0, none⟩)) rfl rfl (by kernel_rfl) (by kernel_rfl) (by kernel_rfl) (by kernel_rfl) (by kernel_rfl) (by kernel_rfl) (by kernel_rfl) (fun _ _ _ h => h) S0 (Or.inl ⟨by kernel_rfl, by intro V hV; obtain ⟨y0, y1, y2, y3⟩ := hV; go_simp⟩) ?_
                      simp only [Act.put, List.setIfInBounds_toArray, List.set_cons_zero, List.set_cons_succ]
                      refine wpM_takeF 6 185 (v := .int .i64 (e : Int)) rfl rfl (by kernel_rfl) (by kernel_rfl) (by kernel_rfl) (by kernel_rfl) (fun _ _ _ h => h) (fun _ => S0) (Or.inl ⟨by kernel_rfl, by intro V _; go_simp⟩) ?_
                      simp only [Act.put, List.setIfInBounds_toArray, List.set_cons_zero, List.set_cons_succ]
                      refine wpM_takeF 7 186 (v := .pointer (some ⟨K.gb, e, none⟩)) rfl rfl (by kernel_rfl) (by kernel_rfl) (by kernel_rfl) (by kernel_rfl) (fun _ _ _ h => h) (fun _ => S0) (Or.inl ⟨by kernel_rfl, by intro V _; go_simp⟩) ?_
                      simp only [Act.put, List.setIfInBounds_toArray, List.set_cons_zero, List.set_cons_succ]
                      refine wpMT_take 8 187 [13, 12] (v := .slice (some ⟨b1, o1, none⟩) R.length gc) rfl rfl (by kernel_rfl) (by kernel_rfl) (by kernel_rfl) (by kernel_rfl) (by kernel_rfl) (by kernel_rfl) (by kernel_rfl) (fun _ _ _ h => h) S0 (Or.inl ⟨by kernel_rfl, by intro V hV; obtain ⟨y0, y1, y2, y3⟩ := hV; go_simp⟩) ?_
                      simp only [Act.put, List.setIfInBounds_toArray, List.set_cons_zero, List.set_cons_succ]
                      refine wpM_takeF 9 188 (v := .int .i64 (e : Int)) rfl rfl (by kernel_rfl) (by kernel_rfl) (by kernel_rfl) (by kernel_rfl) (fun _ _ _ h => h) (fun _ => S0) (Or.inl ⟨by kernel_rfl, by intro V _; go_simp⟩) ?_
                      simp only [Act.put, List.setIfInBounds_toArray, List.set_cons_zero, List.set_cons_succ]
                      refine wpM_takeF 10 189 (v := .pointer (some ⟨K.sb, e, none⟩)) rfl rfl (by kernel_rfl) (by kernel_rfl) (by kernel_rfl) (by kernel_rfl) (fun _ _ _ h => h) (fun _ => S0) (Or.inl ⟨by kernel_rfl, by intro V _; go_simp⟩) ?_
                      simp only [Act.put, List.setIfInBounds_toArray, List.set_cons_zero, List.set_cons_succ]
                      refine wpMT_take 11 190 [13, 12] (v := .int .i64 (S : Int)) rfl rfl (by kernel_rfl) (by kernel_rfl) (by kernel_rfl) (by kernel_rfl) (by kernel_rfl) (by kernel_rfl) (by kernel_rfl) (fun _ _ _ h => h) S0 (Or.inl ⟨by kernel_rfl, by intro V hV; obtain ⟨y0, y1, y2, y3⟩ := hV; go_simp⟩) ?_
                      simp only [Act.put, List.setIfInBounds_toArray, List.set_cons_zero, List.set_cons_succ]
                      refine wpM_takeF 12 191 (v := .pointer (some ⟨b1, o1 + S, none⟩)) rfl rfl (by kernel_rfl) (by kernel_rfl) (by kernel_rfl) (by kernel_rfl) (fun _ _ _ h => h) (fun _ => S0) (Or.inl ⟨by kernel_rfl, by intro V _; go_simp⟩) ?_
                      simp only [Act.put, List.setIfInBounds_toArray, List.set_cons_zero, List.set_cons_succ]
                      refine wpMT_take 13 192 [] (v := .slice ap1 z1.length cp1) rfl rfl (by kernel_rfl) (by kernel_rfl) (by kernel_rfl) (by kernel_rfl) (by kernel_rfl) (by kernel_rfl) (by kernel_rfl) (fun _ _ _ h => h) S0 (Or.inl ⟨by kernel_rfl, by intro V hV; obtain ⟨y0, y1, y2, y3⟩ := hV; go_simp⟩) ?_
                      simp only [Act.put, List.setIfInBounds_toArray, List.set_cons_zero, List.set_cons_succ]
                      refine wpM_one (i := 14) (by kernel_rfl) rfl (fun KK hK => ?_)
                      go_simp
                      refine CS.out.mono ?_
                      rintro r w2 ⟨q1, q2, q3, rfl, k5, k6, HM⟩
                      dsimp only
                      refine hK.out _ _ (fun _ h => absurd rfl h) ?_
                      clear hK KK
                      refine wpM_takeF 15 178 (v := .tuple #[.slice q1 q2 q3, .int .i64 0]) rfl rfl (by kernel_rfl) (by kernel_rfl) (by kernel_rfl) (by kernel_rfl) (fun _ _ _ h => h) (fun e => no_tf (by kernel_rfl) e) (Or.inl ⟨by kernel_rfl, by intro V _; go_simp⟩) ?_
                      simp only [Act.put, List.setIfInBounds_toArray, List.set_cons_zero, List.set_cons_succ]
                      refine wpM_takeF 16 194 (v := .slice q1 q2 q3) rfl rfl (by kernel_rfl) (by kernel_rfl) (by kernel_rfl) (by kernel_rfl) (fun _ _ _ h => h) (fun e => no_tf (by kernel_rfl) e) (Or.inl ⟨by kernel_rfl, by intro V _; go_simp⟩) ?_
                      simp only [Act.put, List.setIfInBounds_toArray, List.set_cons_zero, List.set_cons_succ]
                      refine wpM_takeF 17 195 (v := .int .i64 0) rfl rfl (by kernel_rfl) (by kernel_rfl) (by kernel_rfl) (by kernel_rfl) (fun _ _ _ h => h) (fun e => no_tf (by kernel_rfl) e) (Or.inl ⟨by kernel_rfl, by intro V _; go_simp⟩) ?_
                      simp only [Act.put, List.setIfInBounds_toArray, List.set_cons_zero, List.set_cons_succ]
                      refine wpM_takeF 18 17 (v := .slice q1 q2 q3) rfl rfl (by kernel_rfl) (by kernel_rfl) (by kernel_rfl) (by kernel_rfl) (fun _ _ _ h => h) (fun e => no_tf (by kernel_rfl) e) (Or.inl ⟨by kernel_rfl, by intro V _; go_simp⟩) ?_
                      simp only [Act.put, List.setIfInBounds_toArray, List.set_cons_zero, List.set_cons_succ]
                      refine wpM_takeF 19 18 (v := .int .i64 0) rfl rfl (by kernel_rfl) (by kernel_rfl) (by kernel_rfl) (by kernel_rfl) (fun _ _ _ h => h) (fun e => no_tf (by kernel_rfl) e) (Or.inl ⟨by kernel_rfl, by intro V _; go_simp⟩) ?_
                      simp only [Act.put, List.setIfInBounds_toArray, List.set_cons_zero, List.set_cons_succ]
                      refine wpM_done (by kernel_rfl) ?_ _
                      go_wp2_with fail
                      go_meet
                      exact ⟨_, _, _, rfl, rfl, k5, k6, HM⟩
                  obtain ⟨q1, q2, q3, rfl, rfl, k5, k6, HM⟩ := hcut
                  clear x1 x2 x3 cc1 CS
                  go_wp2_with fail
                  refine (HM.out.goes he1 (by omega)).mono ?_
                  rintro r W3 ⟨rfl, I3⟩
                  obtain ⟨m0, m1, k0, k1, k2, k3⟩ := I3.chk
                  have I3 := hid_into I3
                  clear HM
                  have t0 : ¬ (t1' : Int) < (n0 : Int) := by omega
                  have t1 : ¬ (t0' : Int) < (n1 : Int) := by omega
                  go_wp2_with fail
                  go_roundw
                  case rel => exact ⟨k + 1, _, _, _, _, by go_num, by omega, by omega, by rw [show 17 * (k + 1) = 17 * k + 17 by omega]; exact I3⟩
                  case measure => simp [intOf]; omega
              · as_aux_lemma =>
                  have CL := hid_into (send_long (lb := le) hbs2 (by omega))
                  have QT := hid_into I.out.drew.drew
                  clear hg1 hcell1 hbs1 hbs2 hby1 hzz hR' hR hRb hle hS I
                  go_upto_region 36 with fail
                  go_cut [177] (fun tb wx => tb = .bool true ∧ U = wx)
                  case first =>
                    as_aux_lemma =>
                      refine wp_region_held (S := fun V => V.cell? ⟨K.sb, e, none⟩ = some (.int .i64 (S : Int)) ∧ V.cell? ⟨K.gb, e, none⟩ = some (.slice (some ⟨b1, o1, none⟩) R.length gc)) (by kernel_rfl) ?_
                      change wpAnyH _ _ _ _ _ _ _ _ (World.drew _)
                      have S0 : wr.drew.cell? ⟨K.sb, e, none⟩ = some (.int .i64 (S : Int)) ∧ wr.drew.cell? ⟨K.gb, e, none⟩ = some (.slice (some ⟨b1, o1, none⟩) R.length gc) := ⟨x2, x3⟩
                      refine wpAnyH_take (i := 0) (v := .int .i64 (e : Int)) rfl (by kernel_rfl) (by kernel_rfl) (by kernel_rfl) (fun _ _ _ h => h) (Or.inl ⟨by kernel_rfl, by intro V _; go_simp⟩) S0 ?_
                      simp only [List.getElem_toArray, List.getElem_cons_zero, Act.put, List.setIfInBounds_toArray, List.set_cons_zero, List.set_cons_succ]
                      refine wpAnyH_take (i := 1) (v := .pointer (some ⟨K.sb, e, none⟩)) rfl (by kernel_rfl) (by kernel_rfl) (by kernel_rfl) (fun _ _ _ h => h) (Or.inl ⟨by kernel_rfl, by intro V _; go_simp⟩) S0 ?_
                      simp only [List.getElem_toArray, List.getElem_cons_zero, List.getElem_cons_succ, Act.put, List.setIfInBounds_toArray, List.set_cons_zero, List.set_cons_succ]
                      refine wpAnyH_take (i := 2) (v := .int .i64 (S : Int)) rfl (by kernel_rfl) (by kernel_rfl) (by kernel_rfl) (fun _ _ _ h => h) (Or.inl ⟨by kernel_rfl, by intro V hV; obtain ⟨y0, y1⟩ := hV; go_simp⟩) S0 ?_
                      simp only [List.getElem_toArray, List.getElem_cons_zero, List.getElem_cons_succ, Act.put, List.setIfInBounds_toArray, List.set_cons_zero, List.set_cons_succ]
                      refine wpAnyH_take (i := 3) (v := .int .i64 (e : Int)) rfl (by kernel_rfl) (by kernel_rfl) (by kernel_rfl) (fun _ _ _ h => h) (Or.inl ⟨by kernel_rfl, by intro V _; go_simp⟩) S0 ?_
                      simp only [List.getElem_toArray, List.getElem_cons_zero, List.getElem_cons_succ, Act.put, List.setIfInBounds_toArray, List.set_cons_zero, List.set_cons_succ]
                      refine wpAnyH_take (i := 4) (v := .pointer (some ⟨K.gb, e, none⟩)) rfl (by kernel_rfl) (by kernel_rfl) (by kernel_rfl) (fun _ _ _ h => h) (Or.inl ⟨by kernel_rfl, by intro V _; go_simp⟩) S0 ?_
                      simp only [List.getElem_toArray, List.getElem_cons_zero, List.getElem_cons_succ, Act.put, List.setIfInBounds_toArray, List.set_cons_zero, List.set_cons_succ]
                      refine wpAnyH_take (i := 5) (v := .slice (some ⟨b1, o1, none⟩) R.length gc) rfl (by kernel_rfl) (by kernel_rfl) (by kernel_rfl) (fun _ _ _ h => h) (Or.inl ⟨by kernel_rfl, by intro V hV; obtain ⟨y0, y1⟩ := hV; go_simp⟩) S0 ?_
                      simp only [List.getElem_toArray, List.getElem_cons_zero, List.getElem_cons_succ, Act.put, List.setIfInBounds_toArray, List.set_cons_zero, List.set_cons_succ]
                      refine wpAnyH_take (i := 6) (v := .int .i64 (R.length : Int)) rfl (by kernel_rfl) (by kernel_rfl) (by kernel_rfl) (fun _ _ _ h => h) (Or.inl ⟨by kernel_rfl, by intro V _; go_simp⟩) S0 ?_
                      simp only [List.getElem_toArray, List.getElem_cons_zero, List.getElem_cons_succ, Act.put, List.setIfInBounds_toArray, List.set_cons_zero, List.set_cons_succ]
                      refine wpAnyH_take (i := 7) (v := .bool true) rfl (by kernel_rfl) (by kernel_rfl) (by kernel_rfl) (fun _ _ _ h => h) (Or.inl ⟨by kernel_rfl, by intro V _; go_simp⟩) S0 ?_
                      simp only [List.getElem_toArray, List.getElem_cons_zero, List.getElem_cons_succ, Act.put, List.setIfInBounds_toArray, List.set_cons_zero, List.set_cons_succ]
                      refine wpAnyH_done (by kernel_rfl) ?_ _
                      go_wp2_with fail
                      go_meet
                      exact ⟨rfl, hU.out⟩
                  obtain ⟨rfl, rfl⟩ := hcut
                  have hU' := hU.out
                  subst hU'
                  go_upto_region 37 with fail
                  go_cut [17, 18] (fun ov rv wx => ov = .slice none 0 0 ∧ rv = .int .i64 5 ∧ Hid (OrT K (17 * k) (.slice a0 n0 c0) (.slice a1 n1 c1) s0 s1 wx))
                  case first =>
                    as_aux_lemma =>
                      refine wp_region_M 14 (fun V => V.cell? ⟨K.xb, e, none⟩ = some (.pointer (some ⟨le, 0, none⟩)) ∧ V.cell? ⟨K.sb, e, none⟩ = some (.int .i64 (S : Int)) ∧ V.cell? ⟨K.gb, e, none⟩ = some (.slice (some ⟨b1, o1, none⟩) R.length gc) ∧ V.cell? ⟨b1, o1 + S, none⟩ = some (.slice ap1 z1.length cp1)) (by kernel_rfl) ?_
                      change wpM _ _ _ _ _ _ _ _ _ (World.drew _)
                      have S0 : wr.drew.drew.cell? ⟨K.xb, e, none⟩ = some (.pointer (some ⟨le, 0, none⟩)) ∧ wr.drew.drew.cell? ⟨K.sb, e, none⟩ = some (.int .i64 (S : Int)) ∧ wr.drew.drew.cell? ⟨K.gb, e, none⟩ = some (.slice (some ⟨b1, o1, none⟩) R.length gc) ∧ wr.drew.drew.cell? ⟨b1, o1 + S, none⟩ = some (.slice ap1 z1.length cp1) := ⟨x1, x2, x3, cc1⟩
                      refine wpM_takeF 0 179 (v := .pointer (some ⟨K.xb, 0, none⟩)) rfl rfl (by kernel_rfl) (by kernel_rfl) (by kernel_rfl) (by kernel_rfl) (fun _ _ _ h => h) (fun _ => S0) (Or.inl ⟨by kernel_rfl, by intro V _; go_simp⟩) ?_
                      simp only [Act.put, List.setIfInBounds_toArray, List.set_cons_zero, List.set_cons_succ]
                      refine wpM_takeF 1 180 (v := .int .i64 (e : Int)) rfl rfl (by kernel_rfl) (by kernel_rfl) (by kernel_rfl) (by kernel_rfl) (fun _ _ _ h => h) (fun _ => S0) (Or.inl ⟨by kernel_rfl, by intro V _; go_simp⟩) ?_
                      simp only [Act.put, List.setIfInBounds_toArray, List.set_cons_zero, List.set_cons_succ]
                      refine wpM_takeF 2 181 (v := .pointer (some ⟨K.xb, 0, none⟩)) rfl rfl (by kernel_rfl) (by kernel_rfl) (by kernel_rfl) (by kernel_rfl) (fun _ _ _ h => h) (fun _ => S0) (Or.inl ⟨by kernel_rfl, by intro V _; go_simp⟩) ?_
                      simp only [Act.put, List.setIfInBounds_toArray, List.set_cons_zero, List.set_cons_succ]
                      refine wpM_takeF 3 182 (v := .pointer (some ⟨K.xb, 0, none⟩)) rfl rfl (by kernel_rfl) (by kernel_rfl) (by kernel_rfl) (by kernel_rfl) (fun _ _ _ h => h) (fun _ => S0) (Or.inl ⟨by kernel_rfl, by intro V _; go_simp⟩) ?_
                      simp only [Act.put, List.setIfInBounds_toArray, List.set_cons_zero, List.set_cons_succ]
                      refine wpM_takeF 4 183 (v := .pointer (some ⟨K.xb, e, none⟩)) rfl rfl (by kernel_rfl) (by kernel_rfl) (by kernel_rfl) (by kernel_rfl) (fun _ _ _ h => h) (fun _ => S0) (Or.inl ⟨by kernel_rfl, by intro V _; go_simp⟩) ?_
                      simp only [Act.put, List.setIfInBounds_toArray, List.set_cons_zero, List.set_cons_succ]
                      refine wpMT_take 5 184 [] (v := .pointer (some ⟨le, 0, none⟩)) rfl rfl (by kernel_rfl) (by kernel_rfl) (by kernel_rfl) (by kernel_rfl) (by kernel_rfl) (by kernel_rfl) (by kernel_rfl) (fun _ _ _ h => h) S0 (Or.inl ⟨by kernel_rfl, by intro V hV; obtain ⟨y0, y1, y2, y3⟩ := hV; go_simp⟩) ?_
                      simp only [Act.put, List.setIfInBounds_toArray, List.set_cons_zero, List.set_cons_succ]
                      refine wpM_takeF 6 185 (v := .int .i64 (e : Int)) rfl rfl (by kernel_rfl) (by kernel_rfl) (by kernel_rfl) (by kernel_rfl) (fun _ _ _ h => h) (fun _ => S0) (Or.inl ⟨by kernel_rfl, by intro V _; go_simp⟩) ?_
                      simp only [Act.put, List.setIfInBounds_toArray, List.set_cons_zero, List.set_cons_succ]
                      refine wpM_takeF 7 186 (v := .pointer (some ⟨K.gb, e, none⟩)) rfl rfl (by kernel_rfl) (by kernel_rfl) (by kernel_rfl) (by kernel_rfl) (fun _ _ _ h => h) (fun _ => S0) (Or.inl ⟨by kernel_rfl, by intro V _; go_simp⟩) ?_
                      simp only [Act.put, List.setIfInBounds_toArray, List.set_cons_zero, List.set_cons_succ]
                      refine wpMT_take 8 187 [13, 12] (v := .slice (some ⟨b1, o1, none⟩) R.length gc) rfl rfl (by kernel_rfl) (by kernel_rfl) (by kernel_rfl) (by kernel_rfl) (by kernel_rfl) (by kernel_rfl) (by kernel_rfl) (fun _ _ _ h => h) S0 (Or.inl ⟨by kernel_rfl, by intro V hV; obtain ⟨y0, y1, y2, y3⟩ := hV; go_simp⟩) ?_
                      simp only [Act.put, List.setIfInBounds_toArray, List.set_cons_zero, List.set_cons_succ]
                      refine wpM_takeF 9 188 (v := .int .i64 (e : Int)) rfl rfl (by kernel_rfl) (by kernel_rfl) (by kernel_rfl) (by kernel_rfl) (fun _ _ _ h => h) (fun _ => S0) (Or.inl ⟨by kernel_rfl, by intro V _; go_simp⟩) ?_
                      simp only [Act.put, List.setIfInBounds_toArray, List.set_cons_zero, List.set_cons_succ]
                      refine wpM_takeF 10 189 (v := .pointer (some ⟨K.sb, e, none⟩)) rfl rfl (by kernel_rfl) (by kernel_rfl) (by kernel_rfl) (by kernel_rfl) (fun _ _ _ h => h) (fun _ => S0) (Or.inl ⟨by kernel_rfl, by intro V _; go_simp⟩) ?_
                      simp only [Act.put, List.setIfInBounds_toArray, List.set_cons_zero, List.set_cons_succ]
                      refine wpMT_take 11 190 [13, 12] (v := .int .i64 (S : Int)) rfl rfl (by kernel_rfl) (by kernel_rfl) (by kernel_rfl) (by kernel_rfl) (by kernel_rfl) (by kernel_rfl) (by kernel_rfl) (fun _ _ _ h => h) S0 (Or.inl ⟨by kernel_rfl, by intro V hV; obtain ⟨y0, y1, y2, y3⟩ := hV; go_simp⟩) ?_
                      simp only [Act.put, List.setIfInBounds_toArray, List.set_cons_zero, List.set_cons_succ]
                      refine wpM_takeF 12 191 (v := .pointer (some ⟨b1, o1 + S, none⟩)) rfl rfl (by kernel_rfl) (by kernel_rfl) (by kernel_rfl) (by kernel_rfl) (fun _ _ _ h => h) (fun _ => S0) (Or.inl ⟨by kernel_rfl, by intro V _; go_simp⟩) ?_
                      simp only [Act.put, List.setIfInBounds_toArray, List.set_cons_zero, List.set_cons_succ]
                      refine wpMT_take 13 192 [] (v := .slice ap1 z1.length cp1) rfl rfl (by kernel_rfl) (by kernel_rfl) (by kernel_rfl) (by kernel_rfl) (by kernel_rfl) (by kernel_rfl) (by kernel_rfl) (fun _ _ _ h => h) S0 (Or.inl ⟨by kernel_rfl, by intro V hV; obtain ⟨y0, y1, y2, y3⟩ := hV; go_simp⟩) ?_
                      simp only [Act.put, List.setIfInBounds_toArray, List.set_cons_zero, List.set_cons_succ]
                      refine wpM_one (i := 14) (by kernel_rfl) rfl (fun KK hK => ?_)
                      go_simp
                      refine CL.out.mono ?_
                      rintro r w2 ⟨rfl, rfl⟩
                      dsimp only
                      refine hK.out _ _ (fun _ h => absurd rfl h) ?_
                      clear hK KK
                      refine wpM_takeF 15 178 (v := .tuple #[.slice none 0 0, .int .i64 5]) rfl rfl (by kernel_rfl) (by kernel_rfl) (by kernel_rfl) (by kernel_rfl) (fun _ _ _ h => h) (fun e => no_tf (by kernel_rfl) e) (Or.inl ⟨by kernel_rfl, by intro V _; go_simp⟩) ?_
                      simp only [Act.put, List.setIfInBounds_toArray, List.set_cons_zero, List.set_cons_succ]
                      refine wpM_takeF 16 194 (v := .slice none 0 0) rfl rfl (by kernel_rfl) (by kernel_rfl) (by kernel_rfl) (by kernel_rfl) (fun _ _ _ h => h) (fun e => no_tf (by kernel_rfl) e) (Or.inl ⟨by kernel_rfl, by intro V _; go_simp⟩) ?_
                      simp only [Act.put, List.setIfInBounds_toArray, List.set_cons_zero, List.set_cons_succ]
                      refine wpM_takeF 17 195 (v := .int .i64 5) rfl rfl (by kernel_rfl) (by kernel_rfl) (by kernel_rfl) (by kernel_rfl) (fun _ _ _ h => h) (fun e => no_tf (by kernel_rfl) e) (Or.inl ⟨by kernel_rfl, by intro V _; go_simp⟩) ?_
                      simp only [Act.put, List.setIfInBounds_toArray, List.set_cons_zero, List.set_cons_succ]
                      refine wpM_takeF 18 17 (v := .slice none 0 0) rfl rfl (by kernel_rfl) (by kernel_rfl) (by kernel_rfl) (by kernel_rfl) (fun _ _ _ h => h) (fun e => no_tf (by kernel_rfl) e) (Or.inl ⟨by kernel_rfl, by intro V _; go_simp⟩) ?_
                      simp only [Act.put, List.setIfInBounds_toArray, List.set_cons_zero, List.set_cons_succ]
                      refine wpM_takeF 19 18 (v := .int .i64 5) rfl rfl (by kernel_rfl) (by kernel_rfl) (by kernel_rfl) (by kernel_rfl) (fun _ _ _ h => h) (fun e => no_tf (by kernel_rfl) e) (Or.inl ⟨by kernel_rfl, by intro V _; go_simp⟩) ?_
                      simp only [Act.put, List.setIfInBounds_toArray, List.set_cons_zero, List.set_cons_succ]
                      refine wpM_done (by kernel_rfl) ?_ _
                      go_wp2_with fail
                      go_meet
                      exact ⟨rfl, rfl, QT⟩
                  obtain ⟨rfl, rfl, QT⟩ := hcut
                  clear x1 x2 x3 cc1 CL
                  have HM : Hid (OrM K (17 * k + 17) e (.slice none 0 0) (.slice a0 n0 c0) (.slice a1 n1 c1) s0 s1 wc) := hid_into ((QT.out.mono (by omega)).quiet e)
                  go_wp2_with fail
                  refine (HM.out.goes he1 (by omega)).mono ?_
                  rintro r W3 ⟨rfl, I3⟩
                  obtain ⟨m0, m1, k0, k1, k2, k3⟩ := I3.chk
                  have I3 := hid_into I3
                  clear HM
                  have t0 : ¬ (s1 : Int) < (n0 : Int) := by omega
                  have t1 : ¬ (s0 : Int) < (n1 : Int) := by omega
                  go_wp2_with fail
                  go_roundw
                  case rel => exact ⟨k + 1, _, _, _, _, by go_num, by omega, by omega, by rw [show 17 * (k + 1) = 17 * k + 17 by omega]; exact I3⟩
                  case measure => simp [intOf]; omega
            · as_aux_lemma =>
                have g3 : ¬ (S : Int) < (R.length : Int) := by omega
                have QT := hid_into I.out.drew
                clear hR hRb hle hS I
                go_upto_region 36 with fail
                go_cut [177] (fun tb wx => tb = .bool false ∧ U = wx)
                case first =>
                  as_aux_lemma =>
                    refine wp_region_held (S := fun V => V.cell? ⟨K.sb, e, none⟩ = some (.int .i64 (S : Int)) ∧ V.cell? ⟨K.gb, e, none⟩ = some (.slice gq R.length gc)) (by kernel_rfl) ?_
                    change wpAnyH _ _ _ _ _ _ _ _ (World.drew _)
                    have S0 : wr.drew.cell? ⟨K.sb, e, none⟩ = some (.int .i64 (S : Int)) ∧ wr.drew.cell? ⟨K.gb, e, none⟩ = some (.slice gq R.length gc) := ⟨x2, x3⟩
                    refine wpAnyH_take (i := 0) (v := .int .i64 (e : Int)) rfl (by kernel_rfl) (by kernel_rfl) (by kernel_rfl) (fun _ _ _ h => h) (Or.inl ⟨by kernel_rfl, by intro V _; go_simp⟩) S0 ?_
                    simp only [List.getElem_toArray, List.getElem_cons_zero, Act.put, List.setIfInBounds_toArray, List.set_cons_zero, List.set_cons_succ]
                    refine wpAnyH_take (i := 1) (v := .pointer (some ⟨K.sb, e, none⟩)) rfl (by kernel_rfl) (by kernel_rfl) (by kernel_rfl) (fun _ _ _ h => h) (Or.inl ⟨by kernel_rfl, by intro V _; go_simp⟩) S0 ?_
                    simp only [List.getElem_toArray, List.getElem_cons_zero, List.getElem_cons_succ, Act.put, List.setIfInBounds_toArray, List.set_cons_zero, List.set_cons_succ]
                    refine wpAnyH_take (i := 2) (v := .int .i64 (S : Int)) rfl (by kernel_rfl) (by kernel_rfl) (by kernel_rfl) (fun _ _ _ h => h) (Or.inl ⟨by kernel_rfl, by intro V hV; obtain ⟨y0, y1⟩ := hV; go_simp⟩) S0 ?_
                    simp only [List.getElem_toArray, List.getElem_cons_zero, List.getElem_cons_succ, Act.put, List.setIfInBounds_toArray, List.set_cons_zero, List.set_cons_succ]
                    refine wpAnyH_take (i := 3) (v := .int .i64 (e : Int)) rfl (by kernel_rfl) (by kernel_rfl) (by kernel_rfl) (fun _ _ _ h => h) (Or.inl ⟨by kernel_rfl, by intro V _; go_simp⟩) S0 ?_
                    simp only [List.getElem_toArray, List.getElem_cons_zero, List.getElem_cons_succ, Act.put, List.setIfInBounds_toArray, List.set_cons_zero, List.set_cons_succ]
                    refine wpAnyH_take (i := 4) (v := .pointer (some ⟨K.gb, e, none⟩)) rfl (by kernel_rfl) (by kernel_rfl) (by kernel_rfl) (fun _ _ _ h => h) (Or.inl ⟨by kernel_rfl, by intro V _; go_simp⟩) S0 ?_
                    simp only [List.getElem_toArray, List.getElem_cons_zero, List.getElem_cons_succ, Act.put, List.setIfInBounds_toArray, List.set_cons_zero, List.set_cons_succ]
                    refine wpAnyH_take (i := 5) (v := .slice gq R.length gc) rfl (by kernel_rfl) (by kernel_rfl) (by kernel_rfl) (fun _ _ _ h => h) (Or.inl ⟨by kernel_rfl, by intro V hV; obtain ⟨y0, y1⟩ := hV; go_simp⟩) S0 ?_
                    simp only [List.getElem_toArray, List.getElem_cons_zero, List.getElem_cons_succ, Act.put, List.setIfInBounds_toArray, List.set_cons_zero, List.set_cons_succ]
                    refine wpAnyH_take (i := 6) (v := .int .i64 (R.length : Int)) rfl (by kernel_rfl) (by kernel_rfl) (by kernel_rfl) (fun _ _ _ h => h) (Or.inl ⟨by kernel_rfl, by intro V _; go_simp⟩) S0 ?_
                    simp only [List.getElem_toArray, List.getElem_cons_zero, List.getElem_cons_succ, Act.put, List.setIfInBounds_toArray, List.set_cons_zero, List.set_cons_succ]
                    refine wpAnyH_take (i := 7) (v := .bool false) rfl (by kernel_rfl) (by kernel_rfl) (by kernel_rfl) (fun _ _ _ h => h) (Or.inl ⟨by kernel_rfl, by intro V _; go_simp⟩) S0 ?_
                    simp only [List.getElem_toArray, List.getElem_cons_zero, List.getElem_cons_succ, Act.put, List.setIfInBounds_toArray, List.set_cons_zero, List.set_cons_succ]
                    refine wpAnyH_done (by kernel_rfl) ?_ _
                    go_wp2_with fail
                    go_meet
                    exact ⟨rfl, hU.out⟩
                obtain ⟨rfl, rfl⟩ := hcut
                have hU' := hU.out
                subst hU'
                have HM : Hid (OrM K (17 * k + 17) e (.slice none 0 0) (.slice a0 n0 c0) (.slice a1 n1 c1) s0 s1 wr.drew) := hid_into ((QT.out.mono (by omega)).quiet e)
                go_wp2_with fail
                refine (HM.out.goes he1 (by omega)).mono ?_
                rintro r W3 ⟨rfl, I3⟩
                obtain ⟨m0, m1, k0, k1, k2, k3⟩ := I3.chk
                have I3 := hid_into I3
                clear HM
                have t0 : ¬ (s1 : Int) < (n0 : Int) := by omega
                have t1 : ¬ (s0 : Int) < (n1 : Int) := by omega
                go_wp2_with fail
                go_roundw
                case rel => exact ⟨k + 1, _, _, _, _, by go_num, by omega, by omega, by rw [show 17 * (k + 1) = 17 * k + 17 by omega]; exact I3⟩
                case measure => simp [intOf]; omega
          · by_cases hm2 : m = 2
            · subst hm2
              clear hA
              as_aux_lemma =>
                obtain ⟨le, S, gq, R, gc, x1, x2, x3, hle, hS, hRb, hR, hRl⟩ := I.out.side (by rw [e7.out.2.1]; exact HA.out) (by rw [e7.out.2.1]; exact HB.out) e7.out.2.2.2.2.1 e7.out.2.2.2.2.2 e7.out.2.2.1 e7.out.2.2.2.1 he1
                clear d0 d1 d2 d3 d4 d5 d6 d7
                have CT := hid_into (I.out.tick hOK.out he1 (by omega))
                rw [← hle.out] at CT
                clear hR hRb hle hS I x2 x3
                go_wp2_with (go_at_call 15; refine CT.out.mono ?_; rintro r w2 ⟨q1, q2, q3, rfl, HM⟩)
                clear x1 CT
                go_wp2_with fail
                refine (HM.out.goes he1 (by omega)).mono ?_
                rintro r W3 ⟨rfl, I3⟩
                obtain ⟨m0, m1, k0, k1, k2, k3⟩ := I3.chk
                have I3 := hid_into I3
                clear HM
                have t0 : ¬ (s1 : Int) < (n0 : Int) := by omega
                have t1 : ¬ (s0 : Int) < (n1 : Int) := by omega
                go_wp2_with fail
                go_roundw
                case rel => exact ⟨k + 1, _, _, _, _, by go_num, by omega, by omega, by rw [show 17 * (k + 1) = 17 * k + 17 by omega]; exact I3⟩
                case measure => simp [intOf]; omega
            · have n0' : ((m : Int) == 0) = false := beq_false_of_ne (by omega)
              have n1' : ((m : Int) == 1) = false := beq_false_of_ne (by omega)
              have n2' : ((m : Int) == 2) = false := beq_false_of_ne (by omega)
              obtain ⟨qo, qn, qc, w4, hqn, fx, hxb, hq⟩ := I.out.queue (by omega)
              by_cases hq0 : qn = 0
              · subst hq0
                have I2 := hid_into (I.out.mono (show 17 * k ≤ 17 * (k + 1) by omega))
                clear hq I
                go_wp2_with fail
                go_roundw
                case rel => exact ⟨k + 1, _, _, _, _, by go_num, by omega, by omega, I2⟩
                case measure => simp [intOf]; omega
              · obtain ⟨kk, hkk⟩ : ∃ kk, kk = A % qn := ⟨_, rfl⟩
                have kn : kk < qn := by rw [hkk]; exact Nat.mod_lt _ (by omega)
                have A1 : (A : Int) % (qn : Int) = (kk : Int) := by rw [hkk]; exact (Int.natCast_emod A qn).symm
                have A2 : (A : Int).tmod (qn : Int) = (kk : Int) := by rw [Int.tmod_eq_emod_of_nonneg (by omega)]; exact A1
                have A3 : ¬ (qn : Int) = 0 := by omega
                have A4 : ((qn : Int) == 0) = false := beq_false_of_ne A3
                have kni : (kk : Int) < (qn : Int) := by omega
                obtain ⟨g, off, ap, bl, cq, e', rfl, cc1, cc2, he', k0, k1, HD, HR⟩ := hq kk kn
                clear hq hkk I d0 d1 d2 d3 d4 d5 d6 d7
                obtain ⟨U1, hU1⟩ : ∃ U : World, U = wr.drew := ⟨_, rfl⟩
                replace hU1 := hid_into hU1
                go_upto_region 25 with fail
                go_cut [19] (fun kv wx => kv = .int .i64 (kk : Int) ∧ U1 = wx)
                case first =>
                  as_aux_lemma =>
                    refine wp_region_held (S := fun V => V.cell? ⟨pb, poff + k, none⟩ = some (.int .i64 z) ∧ V.cell? ⟨K.xb, 4, none⟩ = some (.slice (some ⟨g, off, none⟩) qn qc)) (by kernel_rfl) ?_
                    change wpAnyH _ _ _ _ _ _ _ _ (World.drew _)
                    have S0 : wr.drew.cell? ⟨pb, poff + k, none⟩ = some (.int .i64 z) ∧ wr.drew.cell? ⟨K.xb, 4, none⟩ = some (.slice (some ⟨g, off, none⟩) qn qc) := ⟨cz, w4⟩
                    refine wpAnyH_take (i := 0) (v := .slice (some ⟨pb, poff, none⟩) zs.length cp) rfl (by kernel_rfl) (by kernel_rfl) (by kernel_rfl) (fun _ _ _ h => h) (Or.inl ⟨by kernel_rfl, by intro V _; go_simp⟩) S0 ?_
                    simp only [List.getElem_toArray, List.getElem_cons_zero, Act.put, List.setIfInBounds_toArray, List.set_cons_zero, List.set_cons_succ]
                    refine wpAnyH_take (i := 1) (v := .int .i64 (k : Int)) rfl (by kernel_rfl) (by kernel_rfl) (by kernel_rfl) (fun _ _ _ h => h) (Or.inl ⟨by kernel_rfl, by intro V _; go_simp⟩) S0 ?_
                    simp only [List.getElem_toArray, List.getElem_cons_zero, List.getElem_cons_succ, Act.put, List.setIfInBounds_toArray, List.set_cons_zero, List.set_cons_succ]
                    refine wpAnyH_take (i := 2) (v := .pointer (some ⟨pb, poff + k, none⟩)) rfl (by kernel_rfl) (by kernel_rfl) (by kernel_rfl) (fun _ _ _ h => h) (Or.inl ⟨by kernel_rfl, by intro V _; go_simp⟩) S0 ?_
                    simp only [List.getElem_toArray, List.getElem_cons_zero, List.getElem_cons_succ, Act.put, List.setIfInBounds_toArray, List.set_cons_zero, List.set_cons_succ]
                    refine wpAnyH_take (i := 3) (v := .int .i64 z) rfl (by kernel_rfl) (by kernel_rfl) (by kernel_rfl) (fun _ _ _ h => h) (Or.inl ⟨by kernel_rfl, by intro V hV; obtain ⟨y0, y1⟩ := hV; go_simp⟩) S0 ?_
                    simp only [List.getElem_toArray, List.getElem_cons_zero, List.getElem_cons_succ, Act.put, List.setIfInBounds_toArray, List.set_cons_zero, List.set_cons_succ]
                    refine wpAnyH_take (i := 4) (v := .int .i64 (z / 16)) rfl (by kernel_rfl) (by kernel_rfl) (by kernel_rfl) (fun _ _ _ h => h) (Or.inl ⟨by kernel_rfl, by intro V _; go_simp⟩) S0 ?_
                    simp only [List.getElem_toArray, List.getElem_cons_zero, List.getElem_cons_succ, Act.put, List.setIfInBounds_toArray, List.set_cons_zero, List.set_cons_succ]
                    refine wpAnyH_take (i := 5) (v := .int .i64 (A : Int)) rfl (by kernel_rfl) (by kernel_rfl) (by kernel_rfl) (fun _ _ _ h => h) (Or.inl ⟨by kernel_rfl, by intro V _; go_simp⟩) S0 ?_
                    simp only [List.getElem_toArray, List.getElem_cons_zero, List.getElem_cons_succ, Act.put, List.setIfInBounds_toArray, List.set_cons_zero, List.set_cons_succ]
                    refine wpAnyH_take (i := 6) (v := .pointer (some ⟨K.xb, 0, none⟩)) rfl (by kernel_rfl) (by kernel_rfl) (by kernel_rfl) (fun _ _ _ h => h) (Or.inl ⟨by kernel_rfl, by intro V _; go_simp⟩) S0 ?_
                    simp only [List.getElem_toArray, List.getElem_cons_zero, List.getElem_cons_succ, Act.put, List.setIfInBounds_toArray, List.set_cons_zero, List.set_cons_succ]
                    refine wpAnyH_take (i := 7) (v := .pointer (some ⟨K.xb, 0, none⟩)) rfl (by kernel_rfl) (by kernel_rfl) (by kernel_rfl) (fun _ _ _ h => h) (Or.inl ⟨by kernel_rfl, by intro V _; go_simp⟩) S0 ?_
                    simp only [List.getElem_toArray, List.getElem_cons_zero, List.getElem_cons_succ, Act.put, List.setIfInBounds_toArray, List.set_cons_zero, List.set_cons_succ]
                    refine wpAnyH_take (i := 8) (v := .pointer (some ⟨K.xb, 4, none⟩)) rfl (by kernel_rfl) (by kernel_rfl) (by kernel_rfl) (fun _ _ _ h => h) (Or.inl ⟨by kernel_rfl, by intro V _; go_simp⟩) S0 ?_
                    simp only [List.getElem_toArray, List.getElem_cons_zero, List.getElem_cons_succ, Act.put, List.setIfInBounds_toArray, List.set_cons_zero, List.set_cons_succ]
                    refine wpAnyH_take (i := 9) (v := .slice (some ⟨g, off, none⟩) qn qc) rfl (by kernel_rfl) (by kernel_rfl) (by kernel_rfl) (fun _ _ _ h => h) (Or.inl ⟨by kernel_rfl, by intro V hV; obtain ⟨y0, y1⟩ := hV; go_simp⟩) S0 ?_
                    simp only [List.getElem_toArray, List.getElem_cons_zero, List.getElem_cons_succ, Act.put, List.setIfInBounds_toArray, List.set_cons_zero, List.set_cons_succ]
                    refine wpAnyH_take (i := 10) (v := .int .i64 (qn : Int)) rfl (by kernel_rfl) (by kernel_rfl) (by kernel_rfl) (fun _ _ _ h => h) (Or.inl ⟨by kernel_rfl, by intro V _; go_simp⟩) S0 ?_
                    simp only [List.getElem_toArray, List.getElem_cons_zero, List.getElem_cons_succ, Act.put, List.setIfInBounds_toArray, List.set_cons_zero, List.set_cons_succ]
                    refine wpAnyH_take (i := 11) (v := .int .i64 (kk : Int)) rfl (by kernel_rfl) (by kernel_rfl) (by kernel_rfl) (fun _ _ _ h => h) (Or.inl ⟨by kernel_rfl, by intro V _; go_simp⟩) S0 ?_
                    simp only [List.getElem_toArray, List.getElem_cons_zero, List.getElem_cons_succ, Act.put, List.setIfInBounds_toArray, List.set_cons_zero, List.set_cons_succ]
                    refine wpAnyH_take (i := 12) (v := .int .i64 (kk : Int)) rfl (by kernel_rfl) (by kernel_rfl) (by kernel_rfl) (fun _ _ _ h => h) (Or.inl ⟨by kernel_rfl, by intro V _; go_simp⟩) S0 ?_
                    simp only [List.getElem_toArray, List.getElem_cons_zero, List.getElem_cons_succ, Act.put, List.setIfInBounds_toArray, List.set_cons_zero, List.set_cons_succ]
                    refine wpAnyH_done (by kernel_rfl) ?_ _
                    go_wp2_with fail
                    go_meet
                    exact ⟨rfl, hU1.out⟩
                obtain ⟨rfl, rfl⟩ := hcut
                have hU1' := hU1.out
                subst hU1'
                have r2 : wr.drew.rangeAt g (off + kk * 2) [.int .i64 (e' : Int), .slice ap bl cq] := by rw [Nat.mul_comm kk 2]; exact range2o k0 k1
                go_upto_region 27 with (first
                  | (refine wpList_load_mid rfl 50 (.tmp 112) rfl g (off + kk * 2) (by rfl) _ _ r2 Tryd.underlying50 rfl size50o.out ?_)
                  | (refine wpList_alloc_row rfl 50 rfl [.int .i64 0, .slice none 0 0] zero50o ?_; intro w2 pxc hb2 hs2)
                  | (refine wpList_store_rw rfl 50 (.tmp 20) (.tmp 113) rfl wr.drew.heap.size [.int .i64 0, .slice none 0 0] [.int .i64 (e' : Int), .slice ap bl cq] 50 (by rfl) (by rfl) pxc size50o (len2o _ _ _ _) (one2i _ _ _ _) ?_; intro w3 px3 O3))
                have B3 : Below wr.heap.size wr w3 := ((Below.refl _ wr).drew.trans hb2).trans (O3.below (Nat.le_refl _))
                have G3 : Gr (fun _ => False) wr w3 := Gr.of_below B3 _ fun k h1 h2 => by omega
                have D3 := hid_into (HD.out w3 G3)
                have R3 := hid_into (fun a2 cc ha => HR.out w3.drew (G3.trans (Gr.drew (fun _ => False) w3) fun _ hk => Or.inl hk) a2 cc ha)
                have cz3 : w3.cell? ⟨pb, poff + k, none⟩ = some (.int .i64 z) := (B3.cell (World.block_lt_of_cell? wr _ cz)).trans cz
                have w43 : w3.cell? ⟨K.xb, 4, none⟩ = some (.slice (some ⟨g, off, none⟩) qn qc) := (B3.cell hxb).trans w4
                have fx3 : w3.frozen? ⟨K.xb, 4, none⟩ = false := (B3.frozen hxb).trans (fx 4)
                have hp3 : wr.drew.heap.size < w3.heap.size := px3.lt
                have hpx : K.xb < wr.drew.heap.size := hxb
                have hpb3 : pb < wr.drew.heap.size := World.block_lt_of_cell? wr _ cz
                have p03 := px3.cell 0
                have p13 := px3.cell 1
                clear HD HR r2 k0 k1 hb2 hs2 pxc O3 w4 fx G3 cz hbl
                generalize wr.drew.heap.size = px at *
                obtain ⟨U, hU⟩ : ∃ U : World, U = w3 := ⟨_, rfl⟩
                replace hU := hid_into hU
                go_upto_if 119 with fail
                go_cut [19] (fun kv wx => kv = .int .i64 (kk : Int) ∧ Hid (OrP K (17 * k) e' (.slice ap bl cq) (.slice a0 n0 c0) (.slice a1 n1 c1) s0 s1 wx) ∧ wx.cell? ⟨px, 0, none⟩ = some (.int .i64 (e' : Int)) ∧ wx.cell? ⟨px, 1, none⟩ = some (.slice ap bl cq) ∧ wx.cell? ⟨pb, poff + k, none⟩ = some (.int .i64 z))
                case first =>
                  by_cases h7 : m = 7
                  · subst h7
                    go_wp2_with fail
                    go_meet
                    exact ⟨rfl, D3, p03, p13, cz3⟩
                  · have n7' : ((m : Int) == 7) = false := beq_false_of_ne (by omega)
                    have kc1 : (kk : Int) ≤ (qc : Int) := by omega
                    have kc2 : (kk : Int) + 1 ≤ (qn : Int) := by omega
                    have kc3 : (qn : Int) ≤ (qc : Int) := by omega
                    have kc4 : (qc : Int) ≤ 9223372036854775807 := by unfold maxLen at cc2; omega
                    have kw : IntKind.i64.wrap ((kk : Int) + 1) = (kk : Int) + 1 := IntWalk.i64_in _ (by omega)
                    go_upto_region 28 with fail
                    as_aux_lemma =>
                      obtain ⟨a2, ha2, hr2⟩ := run_rest44 g off qn qc kk kn (by omega)
                      obtain ⟨a3, c3, wA, a4, c4, wB, rA, rB, bA, bB, HP⟩ := R3.out a2 (qc - (kk + 1)) ha2
                      have HPB : Hid (K.la ≤ K.xb) := by
                        obtain ⟨_, _, _, _, _, _, _, _, _, _, _, h1, _⟩ := D3.out
                        exact hid_into h1.m.o.b
                      have hne : pb ≠ K.xb := by have h1 := HPB.out; have h2 := e7.out.1; omega
                      have hx3 : K.xb < w3.drew.heap.size := Nat.lt_of_lt_of_le hpx (Nat.le_of_lt hp3)
                      have S0 : w3.drew.cell? ⟨K.xb, 4, none⟩ = some (.slice (some ⟨g, off, none⟩) qn qc) := w43
                      have S1 : (w3.drew.alloc (.cells #[] 50)).cell? ⟨K.xb, 4, none⟩ = some (.slice (some ⟨g, off, none⟩) qn qc) := (((Below.refl w3.drew.heap.size w3.drew).alloc (Nat.le_refl _) (.cells #[] 50)).cell hx3).trans S0
                      have SA : wA.cell? ⟨K.xb, 4, none⟩ = some (.slice (some ⟨g, off, none⟩) qn qc) := (bA.cell hx3).trans S0
                      have SB : wB.cell? ⟨K.xb, 4, none⟩ = some (.slice (some ⟨g, off, none⟩) qn qc) := (bB.cell hx3).trans S0
                      have fB : wB.frozen? ⟨K.xb, 4, none⟩ = false := (bB.frozen hx3).trans fx3
                      have q0 : (wB.setCell ⟨K.xb, 4, none⟩ (.slice a4 (qn - 1) c4)).cell? ⟨px, 0, none⟩ = some (.int .i64 (e' : Int)) := (World.cell?_setCell_far _ _ _ _ (by simp; omega)).trans ((bB.cell hp3).trans p03)
                      have q1 : (wB.setCell ⟨K.xb, 4, none⟩ (.slice a4 (qn - 1) c4)).cell? ⟨px, 1, none⟩ = some (.slice ap bl cq) := (World.cell?_setCell_far _ _ _ _ (by simp; omega)).trans ((bB.cell hp3).trans p13)
                      have q2 : (wB.setCell ⟨K.xb, 4, none⟩ (.slice a4 (qn - 1) c4)).cell? ⟨pb, poff + k, none⟩ = some (.int .i64 z) := (World.cell?_setCell_far _ _ _ _ (fun hh => hne hh.symm)).trans ((bB.cell (by exact Nat.lt_trans hpb3 hp3)).trans cz3)
                      replace HP := hid_into HP
                      replace rA := hid_into rA
                      replace rB := hid_into rB
                      clear bA bB R3 D3 cz3 w43 p03 p13 hU B3 px3
                      refine wp_region_L 19 (fun V => V.cell? ⟨K.xb, 4, none⟩ = some (.slice (some ⟨g, off, none⟩) qn qc)) (by kernel_rfl) ?_
                      change wpL _ _ _ _ _ _ _ _ _ (World.drew _)
                      refine wpL_takeY 0 120 (v := .pointer (some ⟨K.xb, 0, none⟩)) rfl rfl (by kernel_rfl) (by kernel_rfl) (by kernel_rfl) (by kernel_rfl) (fun _ _ _ h => h) S0 (Or.inl ⟨by kernel_rfl, by intro V _; go_simp⟩) ?_
                      simp only [Act.put, List.setIfInBounds_toArray, List.set_cons_zero, List.set_cons_succ]
                      refine wpL_takeY 2 122 (v := .pointer (some ⟨K.xb, 0, none⟩)) rfl rfl (by kernel_rfl) (by kernel_rfl) (by kernel_rfl) (by kernel_rfl) (fun _ _ _ h => h) S0 (Or.inl ⟨by kernel_rfl, by intro V _; go_simp⟩) ?_
                      simp only [Act.put, List.setIfInBounds_toArray, List.set_cons_zero, List.set_cons_succ]
                      refine wpL_takeY 3 123 (v := .pointer (some ⟨K.xb, 0, none⟩)) rfl rfl (by kernel_rfl) (by kernel_rfl) (by kernel_rfl) (by kernel_rfl) (fun _ _ _ h => h) S0 (Or.inl ⟨by kernel_rfl, by intro V _; go_simp⟩) ?_
                      simp only [Act.put, List.setIfInBounds_toArray, List.set_cons_zero, List.set_cons_succ]
                      refine wpL_takeY 4 124 (v := .pointer (some ⟨K.xb, 4, none⟩)) rfl rfl (by kernel_rfl) (by kernel_rfl) (by kernel_rfl) (by kernel_rfl) (fun _ _ _ h => h) S0 (Or.inl ⟨by kernel_rfl, by intro V _; go_simp⟩) ?_
                      simp only [Act.put, List.setIfInBounds_toArray, List.set_cons_zero, List.set_cons_succ]
                      refine wpL_takeY 5 125 (v := .slice (some ⟨g, off, none⟩) qn qc) rfl rfl (by kernel_rfl) (by kernel_rfl) (by kernel_rfl) (by kernel_rfl) (fun _ _ _ h => h) S0 (Or.inl ⟨by kernel_rfl, by intro V hV; have hV : V.cell? ⟨K.xb, 4, none⟩ = some (.slice (some ⟨g, off, none⟩) qn qc) := hV; go_simp⟩) ?_
                      simp only [Act.put, List.setIfInBounds_toArray, List.set_cons_zero, List.set_cons_succ]
                      refine wpL_takeY 6 126 (v := .int .i64 (kk : Int)) rfl rfl (by kernel_rfl) (by kernel_rfl) (by kernel_rfl) (by kernel_rfl) (fun _ _ _ h => h) S0 (Or.inl ⟨by kernel_rfl, by intro V _; go_simp⟩) ?_
                      simp only [Act.put, List.setIfInBounds_toArray, List.set_cons_zero, List.set_cons_succ]
                      refine wpL_takeY 7 127 (v := .slice (some ⟨g, off, none⟩) kk qc) rfl rfl (by kernel_rfl) (by kernel_rfl) (by kernel_rfl) (by kernel_rfl) (fun _ _ _ h => h) S0 (Or.inl ⟨by kernel_rfl, by intro V _; go_simp⟩) ?_
                      simp only [Act.put, List.setIfInBounds_toArray, List.set_cons_zero, List.set_cons_succ]
                      refine wpL_takeY 9 129 (v := .pointer (some ⟨K.xb, 0, none⟩)) rfl rfl (by kernel_rfl) (by kernel_rfl) (by kernel_rfl) (by kernel_rfl) (fun _ _ _ h => h) S0 (Or.inl ⟨by kernel_rfl, by intro V _; go_simp⟩) ?_
                      simp only [Act.put, List.setIfInBounds_toArray, List.set_cons_zero, List.set_cons_succ]
                      refine wpL_takeY 10 130 (v := .pointer (some ⟨K.xb, 0, none⟩)) rfl rfl (by kernel_rfl) (by kernel_rfl) (by kernel_rfl) (by kernel_rfl) (fun _ _ _ h => h) S0 (Or.inl ⟨by kernel_rfl, by intro V _; go_simp⟩) ?_
                      simp only [Act.put, List.setIfInBounds_toArray, List.set_cons_zero, List.set_cons_succ]
                      refine wpL_takeY 11 131 (v := .pointer (some ⟨K.xb, 4, none⟩)) rfl rfl (by kernel_rfl) (by kernel_rfl) (by kernel_rfl) (by kernel_rfl) (fun _ _ _ h => h) S0 (Or.inl ⟨by kernel_rfl, by intro V _; go_simp⟩) ?_
                      simp only [Act.put, List.setIfInBounds_toArray, List.set_cons_zero, List.set_cons_succ]
                      refine wpL_takeY 12 132 (v := .slice (some ⟨g, off, none⟩) qn qc) rfl rfl (by kernel_rfl) (by kernel_rfl) (by kernel_rfl) (by kernel_rfl) (fun _ _ _ h => h) S0 (Or.inl ⟨by kernel_rfl, by intro V hV; have hV : V.cell? ⟨K.xb, 4, none⟩ = some (.slice (some ⟨g, off, none⟩) qn qc) := hV; go_simp⟩) ?_
                      simp only [Act.put, List.setIfInBounds_toArray, List.set_cons_zero, List.set_cons_succ]
                      refine wpL_takeY 13 133 (v := .int .i64 (kk : Int)) rfl rfl (by kernel_rfl) (by kernel_rfl) (by kernel_rfl) (by kernel_rfl) (fun _ _ _ h => h) S0 (Or.inl ⟨by kernel_rfl, by intro V _; go_simp⟩) ?_
                      simp only [Act.put, List.setIfInBounds_toArray, List.set_cons_zero, List.set_cons_succ]
                      refine wpL_takeY 14 134 (v := .int .i64 ((kk : Int) + 1)) rfl rfl (by kernel_rfl) (by kernel_rfl) (by kernel_rfl) (by kernel_rfl) (fun _ _ _ h => h) S0 (Or.inl ⟨by kernel_rfl, by intro V _; go_simp⟩) ?_
                      simp only [Act.put, List.setIfInBounds_toArray, List.set_cons_zero, List.set_cons_succ]
                      refine wpL_takeY 15 135 (v := .slice (some a2) (qn - (kk + 1)) (qc - (kk + 1))) rfl rfl (by kernel_rfl) (by kernel_rfl) (by kernel_rfl) (by kernel_rfl) (fun _ _ _ h => h) S0 (Or.inl ⟨by kernel_rfl, by intro V _; have h2 := hr2 V; go_simp⟩) ?_
                      simp only [Act.put, List.setIfInBounds_toArray, List.set_cons_zero, List.set_cons_succ]
                      refine wpL_one (i := 1) (by kernel_rfl) rfl (fun KK hK => ?_)
                      refine step_made_nil44 rfl rfl ?_
                      refine hK.out _ _ (fun _ => by exact S1) ?_
                      clear hK KK
                      simp only [List.getElem_toArray, List.getElem_cons_zero, List.getElem_cons_succ, Act.put, List.setIfInBounds_toArray, List.set_cons_zero, List.set_cons_succ]
                      refine wpL_one (i := 8) (by kernel_rfl) rfl (fun KK hK => ?_)
                      refine step_append_eq rfl 44 (.tmp 121) (.tmp 127) rfl _ _ _ (by kernel_rfl) (by kernel_rfl) rA.out ?_
                      refine hK.out _ _ (fun _ => by exact SA) ?_
                      clear hK KK
                      simp only [List.getElem_toArray, List.getElem_cons_zero, List.getElem_cons_succ, Act.put, List.setIfInBounds_toArray, List.set_cons_zero, List.set_cons_succ]
                      refine wpL_one (i := 16) (by kernel_rfl) rfl (fun KK hK => ?_)
                      refine step_append_eq rfl 44 (.tmp 128) (.tmp 135) rfl _ _ _ (by kernel_rfl) (by kernel_rfl) rB.out ?_
                      refine hK.out _ _ (fun _ => by exact SB) ?_
                      clear hK KK
                      simp only [List.getElem_toArray, List.getElem_cons_zero, List.getElem_cons_succ, Act.put, List.setIfInBounds_toArray, List.set_cons_zero, List.set_cons_succ]
                      refine wpT_take 17 137 [18] (v := .pointer (some ⟨K.xb, 0, none⟩)) rfl rfl (by kernel_rfl) (by kernel_rfl) (by kernel_rfl) (by kernel_rfl) (by kernel_rfl) (fun _ _ _ h => h) SB (Or.inl ⟨by kernel_rfl, by intro V _; go_simp⟩) ?_
                      simp only [Act.put, List.setIfInBounds_toArray, List.set_cons_zero, List.set_cons_succ]
                      refine wpL_takeY 18 138 (v := .pointer (some ⟨K.xb, 4, none⟩)) rfl rfl (by kernel_rfl) (by kernel_rfl) (by kernel_rfl) (by kernel_rfl) (fun _ _ _ h => h) SB (Or.inl ⟨by kernel_rfl, by intro V _; go_simp⟩) ?_
                      simp only [Act.put, List.setIfInBounds_toArray, List.set_cons_zero, List.set_cons_succ]
                      refine wpL_one (i := 19) (by kernel_rfl) rfl (fun KK hK => ?_)
                      rw [if_pos (by rfl)]
                      go_simp
                      refine hK.out _ _ (fun e => absurd rfl e) ?_
                      clear hK KK
                      refine wpL_done (by kernel_rfl) ?_ _
                      go_wp2_with fail
                      go_meet
                      exact ⟨rfl, HP, q0, q1, q2⟩
                case rest =>
                  obtain ⟨rfl, D, p0, p1, cz4⟩ := hcut
                  clear R3 D3 cz3 w43 fx3 p03 p13 hU B3 px3
                  by_cases h6 : m = 6
                  · subst h6
                    have I2 := hid_into (D.out.lost.mono (show 17 * k ≤ 17 * (k + 1) by omega))
                    clear D p0 p1
                    go_wp2_with fail
                    go_roundw
                    case rel => exact ⟨k + 1, _, _, _, _, by go_num, by omega, by omega, I2⟩
                    case measure => simp [intOf]; omega
                  · have n6' : ((m : Int) == 6) = false := beq_false_of_ne (by omega)
                    obtain ⟨_, _, _, _, _, _, _, _, _, _, _, _, _, _, _, _, _, _, xb0, xb1, _⟩ := D.out.lost.form
                    have he'' : e' = 0 ∨ e' = 1 := by omega
                    rcases he'' with rfl | rfl
                    · clear xb1
                      as_aux_lemma =>
                        have CH := hid_into ((D.out.keep (Gr.drew (fun _ => False) wc)).hear0 hOK.out (by omega))
                        clear D
                        go_upto_region 31 with fail
                        go_cut [21, 22] (fun rv ov wx => ∃ b1 m1 d1 b2 m2 d2 b3 m3 d3 W5, rv = .slice b1 m1 d1 ∧ ov = .slice b2 m2 d2 ∧ wx.cell? ⟨K.cb, 0, none⟩ = some (.slice a0 n0 c0) ∧ Hid (∀ ty, (Builtin.append_ #[33, 33] ty #[.slice a0 n0 c0, .slice b1 m1 d1]).run Tryd.prog wx = .ok (.slice b3 m3 d3) W5) ∧ (∃ ov, W5.cell? ⟨K.cb, 0, none⟩ = some ov) ∧ W5.frozen? ⟨K.cb, 0, none⟩ = false ∧ Hid (OrM K (17 * k + 17) 0 (.slice b2 m2 d2) (.slice b3 m3 d3) (.slice a1 n1 c1) s0 s1 (W5.setCell ⟨K.cb, 0, none⟩ (.slice b3 m3 d3))))
                        case first =>
                          as_aux_lemma =>
                            refine wp_region_M 8 (fun V => V.cell? ⟨K.xb, 0, none⟩ = some (.pointer (some ⟨K.l0, 0, none⟩)) ∧ V.cell? ⟨px, 1, none⟩ = some (.slice ap bl cq)) (by kernel_rfl) ?_
                            change wpM _ _ _ _ _ _ _ _ _ (World.drew _)
                            have S0 : wc.drew.cell? ⟨K.xb, 0, none⟩ = some (.pointer (some ⟨K.l0, 0, none⟩)) ∧ wc.drew.cell? ⟨px, 1, none⟩ = some (.slice ap bl cq) := ⟨xb0, p1⟩
                            refine wpM_takeF 0 148 (v := .pointer (some ⟨K.xb, 0, none⟩)) rfl rfl (by kernel_rfl) (by kernel_rfl) (by kernel_rfl) (by kernel_rfl) (fun _ _ _ h => h) (fun _ => S0) (Or.inl ⟨by kernel_rfl, by intro V _; go_simp⟩) ?_
                            simp only [Act.put, List.setIfInBounds_toArray, List.set_cons_zero, List.set_cons_succ]
                            refine wpM_takeF 1 149 (v := .int .i64 0) rfl rfl (by kernel_rfl) (by kernel_rfl) (by kernel_rfl) (by kernel_rfl) (fun _ _ _ h => h) (fun _ => S0) (Or.inl ⟨by kernel_rfl, by intro V _; go_simp⟩) ?_
                            simp only [Act.put, List.setIfInBounds_toArray, List.set_cons_zero, List.set_cons_succ]
                            refine wpM_takeF 2 150 (v := .pointer (some ⟨K.xb, 0, none⟩)) rfl rfl (by kernel_rfl) (by kernel_rfl) (by kernel_rfl) (by kernel_rfl) (fun _ _ _ h => h) (fun _ => S0) (Or.inl ⟨by kernel_rfl, by intro V _; go_simp⟩) ?_
                            simp only [Act.put, List.setIfInBounds_toArray, List.set_cons_zero, List.set_cons_succ]
                            refine wpM_takeF 3 151 (v := .pointer (some ⟨K.xb, 0, none⟩)) rfl rfl (by kernel_rfl) (by kernel_rfl) (by kernel_rfl) (by kernel_rfl) (fun _ _ _ h => h) (fun _ => S0) (Or.inl ⟨by kernel_rfl, by intro V _; go_simp⟩) ?_
                            simp only [Act.put, List.setIfInBounds_toArray, List.set_cons_zero, List.set_cons_succ]
                            refine wpM_takeF 4 152 (v := .pointer (some ⟨K.xb, 0, none⟩)) rfl rfl (by kernel_rfl) (by kernel_rfl) (by kernel_rfl) (by kernel_rfl) (fun _ _ _ h => h) (fun _ => S0) (Or.inl ⟨by kernel_rfl, by intro V _; go_simp⟩) ?_
                            simp only [Act.put, List.setIfInBounds_toArray, List.set_cons_zero, List.set_cons_succ]
                            refine wpMT_take 5 153 [] (v := .pointer (some ⟨K.l0, 0, none⟩)) rfl rfl (by kernel_rfl) (by kernel_rfl) (by kernel_rfl) (by kernel_rfl) (by kernel_rfl) (by kernel_rfl) (by kernel_rfl) (fun _ _ _ h => h) S0 (Or.inl ⟨by kernel_rfl, by intro V hV; obtain ⟨y0, y1⟩ := hV; go_simp⟩) ?_
                            simp only [Act.put, List.setIfInBounds_toArray, List.set_cons_zero, List.set_cons_succ]
                            refine wpM_takeF 6 154 (v := .pointer (some ⟨px, 1, none⟩)) rfl rfl (by kernel_rfl) (by kernel_rfl) (by kernel_rfl) (by kernel_rfl) (fun _ _ _ h => h) (fun _ => S0) (Or.inl ⟨by kernel_rfl, by intro V _; go_simp⟩) ?_
                            simp only [Act.put, List.setIfInBounds_toArray, List.set_cons_zero, List.set_cons_succ]
                            refine wpMT_take 7 155 [] (v := .slice ap bl cq) rfl rfl (by kernel_rfl) (by kernel_rfl) (by kernel_rfl) (by kernel_rfl) (by kernel_rfl) (by kernel_rfl) (by kernel_rfl) (fun _ _ _ h => h) S0 (Or.inl ⟨by kernel_rfl, by intro V hV; obtain ⟨y0, y1⟩ := hV; go_simp⟩) ?_
                            simp only [Act.put, List.setIfInBounds_toArray, List.set_cons_zero, List.set_cons_succ]
                            refine wpM_one (i := 8) (by kernel_rfl) rfl (fun KK hK => ?_)
                            go_simp
                            refine CH.out.mono ?_
                            rintro r w2 ⟨b1, m1, d1, b2, m2, d2, b3, m3, d3, W5, rfl, y1, y2, y3, y4, y5⟩
                            dsimp only
                            refine hK.out _ _ (fun _ h => absurd rfl h) ?_
                            clear hK KK
                            refine wpM_takeF 9 147 (v := .tuple #[.slice b1 m1 d1, .slice b2 m2 d2]) rfl rfl (by kernel_rfl) (by kernel_rfl) (by kernel_rfl) (by kernel_rfl) (fun _ _ _ h => h) (fun e => no_tf (by kernel_rfl) e) (Or.inl ⟨by kernel_rfl, by intro V _; go_simp⟩) ?_
                            simp only [Act.put, List.setIfInBounds_toArray, List.set_cons_zero, List.set_cons_succ]
                            refine wpM_takeF 10 157 (v := .slice b1 m1 d1) rfl rfl (by kernel_rfl) (by kernel_rfl) (by kernel_rfl) (by kernel_rfl) (fun _ _ _ h => h) (fun e => no_tf (by kernel_rfl) e) (Or.inl ⟨by kernel_rfl, by intro V _; go_simp⟩) ?_
                            simp only [Act.put, List.setIfInBounds_toArray, List.set_cons_zero, List.set_cons_succ]
                            refine wpM_takeF 11 158 (v := .slice b2 m2 d2) rfl rfl (by kernel_rfl) (by kernel_rfl) (by kernel_rfl) (by kernel_rfl) (fun _ _ _ h => h) (fun e => no_tf (by kernel_rfl) e) (Or.inl ⟨by kernel_rfl, by intro V _; go_simp⟩) ?_
                            simp only [Act.put, List.setIfInBounds_toArray, List.set_cons_zero, List.set_cons_succ]
                            refine wpM_takeF 12 21 (v := .slice b1 m1 d1) rfl rfl (by kernel_rfl) (by kernel_rfl) (by kernel_rfl) (by kernel_rfl) (fun _ _ _ h => h) (fun e => no_tf (by kernel_rfl) e) (Or.inl ⟨by kernel_rfl, by intro V _; go_simp⟩) ?_
                            simp only [Act.put, List.setIfInBounds_toArray, List.set_cons_zero, List.set_cons_succ]
                            refine wpM_takeF 13 22 (v := .slice b2 m2 d2) rfl rfl (by kernel_rfl) (by kernel_rfl) (by kernel_rfl) (by kernel_rfl) (fun _ _ _ h => h) (fun e => no_tf (by kernel_rfl) e) (Or.inl ⟨by kernel_rfl, by intro V _; go_simp⟩) ?_
                            simp only [Act.put, List.setIfInBounds_toArray, List.set_cons_zero, List.set_cons_succ]
                            refine wpM_done (by kernel_rfl) ?_ _
                            go_wp2_with fail
                            go_meet
                            exact ⟨_, _, _, _, _, _, _, _, _, W5, rfl, rfl, y1, y2, Option.isSome_iff_exists.1 y3, y4, y5⟩
                        obtain ⟨b1, m1, d1, b2, m2, d2, b3, m3, d3, W5, rfl, rfl, y1, y2, ⟨oldv, y3⟩, y4, HM⟩ := hcut
                        clear CH p0 p1 xb0
                        go_wp2_with (refine wpList_append_eqO rfl 33 (.tmp 162) (.tmp 163) rfl _ _ _ (by rfl) (by rfl) y2.out ?_)
                        clear y1 y2 y3 y4
                        go_wp2_with fail
                        refine (HM.out.goes (by decide) (by omega)).mono ?_
                        rintro r W3 ⟨rfl, I3⟩
                        obtain ⟨m0, m1, k0, k1, k2, k3⟩ := I3.chk
                        have I3 := hid_into I3
                        clear HM
                        have t0 : ¬ (s1 : Int) < (m3 : Int) := by omega
                        have t1 : ¬ (s0 : Int) < (n1 : Int) := by omega
                        go_wp2_with fail
                        go_roundw
                        case rel => exact ⟨k + 1, _, _, _, _, by go_num, by omega, by omega, by rw [show 17 * (k + 1) = 17 * k + 17 by omega]; exact I3⟩
                        case measure => simp [intOf]; omega
                    · clear xb0
                      as_aux_lemma =>
                        have CH := hid_into ((D.out.keep (Gr.drew (fun _ => False) wc)).hear1 hOK.out (by omega))
                        clear D
                        go_upto_region 31 with fail
                        go_cut [21, 22] (fun rv ov wx => ∃ b1 m1 d1 b2 m2 d2 b3 m3 d3 W5, rv = .slice b1 m1 d1 ∧ ov = .slice b2 m2 d2 ∧ wx.cell? ⟨K.cb, 1, none⟩ = some (.slice a1 n1 c1) ∧ Hid (∀ ty, (Builtin.append_ #[33, 33] ty #[.slice a1 n1 c1, .slice b1 m1 d1]).run Tryd.prog wx = .ok (.slice b3 m3 d3) W5) ∧ (∃ ov, W5.cell? ⟨K.cb, 1, none⟩ = some ov) ∧ W5.frozen? ⟨K.cb, 1, none⟩ = false ∧ Hid (OrM K (17 * k + 17) 1 (.slice b2 m2 d2) (.slice a0 n0 c0) (.slice b3 m3 d3) s0 s1 (W5.setCell ⟨K.cb, 1, none⟩ (.slice b3 m3 d3))))
                        case first =>
                          as_aux_lemma =>
                            refine wp_region_M 8 (fun V => V.cell? ⟨K.xb, 1, none⟩ = some (.pointer (some ⟨K.l1, 0, none⟩)) ∧ V.cell? ⟨px, 1, none⟩ = some (.slice ap bl cq)) (by kernel_rfl) ?_
                            change wpM _ _ _ _ _ _ _ _ _ (World.drew _)
                            have S0 : wc.drew.cell? ⟨K.xb, 1, none⟩ = some (.pointer (some ⟨K.l1, 0, none⟩)) ∧ wc.drew.cell? ⟨px, 1, none⟩ = some (.slice ap bl cq) := ⟨xb1, p1⟩
                            refine wpM_takeF 0 148 (v := .pointer (some ⟨K.xb, 0, none⟩)) rfl rfl (by kernel_rfl) (by kernel_rfl) (by kernel_rfl) (by kernel_rfl) (fun _ _ _ h => h) (fun _ => S0) (Or.inl ⟨by kernel_rfl, by intro V _; go_simp⟩) ?_
                            simp only [Act.put, List.setIfInBounds_toArray, List.set_cons_zero, List.set_cons_succ]
                            refine wpM_takeF 1 149 (v := .int .i64 1) rfl rfl (by kernel_rfl) (by kernel_rfl) (by kernel_rfl) (by kernel_rfl) (fun _ _ _ h => h) (fun _ => S0) (Or.inl ⟨by kernel_rfl, by intro V _; go_simp⟩) ?_
                            simp only [Act.put, List.setIfInBounds_toArray, List.set_cons_zero, List.set_cons_succ]
                            refine wpM_takeF 2 150 (v := .pointer (some ⟨K.xb, 0, none⟩)) rfl rfl (by kernel_rfl) (by kernel_rfl) (by kernel_rfl) (by kernel_rfl) (fun _ _ _ h => h) (fun _ => S0) (Or.inl ⟨by kernel_rfl, by intro V _; go_simp⟩) ?_
                            simp only [Act.put, List.setIfInBounds_toArray, List.set_cons_zero, List.set_cons_succ]
                            refine wpM_takeF 3 151 (v := .pointer (some ⟨K.xb, 0, none⟩)) rfl rfl (by kernel_rfl) (by kernel_rfl) (by kernel_rfl) (by kernel_rfl) (fun _ _ _ h => h) (fun _ => S0) (Or.inl ⟨by kernel_rfl, by intro V _; go_simp⟩) ?_
                            simp only [Act.put, List.setIfInBounds_toArray, List.set_cons_zero, List.set_cons_succ]
                            refine wpM_takeF 4 152 (v := .pointer (some ⟨K.xb, 1, none⟩)) rfl rfl (by kernel_rfl) (by kernel_rfl) (by kernel_rfl) (by kernel_rfl) (fun _ _ _ h => h) (fun _ => S0) (Or.inl ⟨by kernel_rfl, by intro V _; go_simp⟩) ?_
                            simp only [Act.put, List.setIfInBounds_toArray, List.set_cons_zero, List.set_cons_succ]
                            refine wpMT_take 5 153 [] (v := .pointer (some ⟨K.l1, 0, none⟩)) rfl rfl (by kernel_rfl) (by kernel_rfl) (by kernel_rfl) (by kernel_rfl) (by kernel_rfl) (by kernel_rfl) (by kernel_rfl) (fun _ _ _ h => h) S0 (Or.inl ⟨by kernel_rfl, by intro V hV; obtain ⟨y0, y1⟩ := hV; go_simp⟩) ?_
                            simp only [Act.put, List.setIfInBounds_toArray, List.set_cons_zero, List.set_cons_succ]
                            refine wpM_takeF 6 154 (v := .pointer (some ⟨px, 1, none⟩)) rfl rfl (by kernel_rfl) (by kernel_rfl) (by kernel_rfl) (by kernel_rfl) (fun _ _ _ h => h) (fun _ => S0) (Or.inl ⟨by kernel_rfl, by intro V _; go_simp⟩) ?_
                            simp only [Act.put, List.setIfInBounds_toArray, List.set_cons_zero, List.set_cons_succ]
                            refine wpMT_take 7 155 [] (v := .slice ap bl cq) rfl rfl (by kernel_rfl) (by kernel_rfl) (by kernel_rfl) (by kernel_rfl) (by kernel_rfl) (by kernel_rfl) (by kernel_rfl) (fun _ _ _ h => h) S0 (Or.inl ⟨by kernel_rfl, by intro V hV; obtain ⟨y0, y1⟩ := hV; go_simp⟩) ?_
                            simp only [Act.put, List.setIfInBounds_toArray, List.set_cons_zero, List.set_cons_succ]
                            refine wpM_one (i := 8) (by kernel_rfl) rfl (fun KK hK => ?_)
                            go_simp
                            refine CH.out.mono ?_
                            rintro r w2 ⟨b1, m1, d1, b2, m2, d2, b3, m3, d3, W5, rfl, y1, y2, y3, y4, y5⟩
                            dsimp only
                            refine hK.out _ _ (fun _ h => absurd rfl h) ?_
                            clear hK KK
                            refine wpM_takeF 9 147 (v := .tuple #[.slice b1 m1 d1, .slice b2 m2 d2]) rfl rfl (by kernel_rfl) (by kernel_rfl) (by kernel_rfl) (by kernel_rfl) (fun _ _ _ h => h) (fun e => no_tf (by kernel_rfl) e) (Or.inl ⟨by kernel_rfl, by intro V _; go_simp⟩) ?_
                            simp only [Act.put, List.setIfInBounds_toArray, List.set_cons_zero, List.set_cons_succ]
                            refine wpM_takeF 10 157 (v := .slice b1 m1 d1) rfl rfl (by kernel_rfl) (by kernel_rfl) (by kernel_rfl) (by kernel_rfl) (fun _ _ _ h => h) (fun e => no_tf (by kernel_rfl) e) (Or.inl ⟨by kernel_rfl, by intro V _; go_simp⟩) ?_
                            simp only [Act.put, List.setIfInBounds_toArray, List.set_cons_zero, List.set_cons_succ]
                            refine wpM_takeF 11 158 (v := .slice b2 m2 d2) rfl rfl (by kernel_rfl) (by kernel_rfl) (by kernel_rfl) (by kernel_rfl) (fun _ _ _ h => h) (fun e => no_tf (by kernel_rfl) e) (Or.inl ⟨by kernel_rfl, by intro V _; go_simp⟩) ?_
                            simp only [Act.put, List.setIfInBounds_toArray, List.set_cons_zero, List.set_cons_succ]
                            refine wpM_takeF 12 21 (v := .slice b1 m1 d1) rfl rfl (by kernel_rfl) (by kernel_rfl) (by kernel_rfl) (by kernel_rfl) (fun _ _ _ h => h) (fun e => no_tf (by kernel_rfl) e) (Or.inl ⟨by kernel_rfl, by intro V _; go_simp⟩) ?_
                            simp only [Act.put, List.setIfInBounds_toArray, List.set_cons_zero, List.set_cons_succ]
                            refine wpM_takeF 13 22 (v := .slice b2 m2 d2) rfl rfl (by kernel_rfl) (by kernel_rfl) (by kernel_rfl) (by kernel_rfl) (fun _ _ _ h => h) (fun e => no_tf (by kernel_rfl) e) (Or.inl ⟨by kernel_rfl, by intro V _; go_simp⟩) ?_
                            simp only [Act.put, List.setIfInBounds_toArray, List.set_cons_zero, List.set_cons_succ]
                            refine wpM_done (by kernel_rfl) ?_ _
                            go_wp2_with fail
                            go_meet
                            exact ⟨_, _, _, _, _, _, _, _, _, W5, rfl, rfl, y1, y2, Option.isSome_iff_exists.1 y3, y4, y5⟩
                        obtain ⟨b1, m1, d1, b2, m2, d2, b3, m3, d3, W5, rfl, rfl, y1, y2, ⟨oldv, y3⟩, y4, HM⟩ := hcut
                        clear CH p0 p1 xb1
                        go_wp2_with (refine wpList_append_eqO rfl 33 (.tmp 162) (.tmp 163) rfl _ _ _ (by rfl) (by rfl) y2.out ?_)
                        clear y1 y2 y3 y4
                        go_wp2_with fail
                        refine (HM.out.goes (by decide) (by omega)).mono ?_
                        rintro r W3 ⟨rfl, I3⟩
                        obtain ⟨m0, m1, k0, k1, k2, k3⟩ := I3.chk
                        have I3 := hid_into I3
                        clear HM
                        have t0 : ¬ (s1 : Int) < (n0 : Int) := by omega
                        have t1 : ¬ (s0 : Int) < (m3 : Int) := by omega
                        go_wp2_with fail
                        go_roundw
                        case rel => exact ⟨k + 1, _, _, _, _, by go_num, by omega, by omega, by rw [show 17 * (k + 1) = 17 * k + 17 by omega]; exact I3⟩
                        case measure => simp [intOf]; omega
        · skip
          as_aux_lemma =>
            by_cases hkz : zs.length ≤ k
            · skip
              obtain ⟨la1, la0, L1, L0⟩ := I.out.last hOK.out (by rw [e7.out.1, e7.out.2.1]) (by rw [e7.out.2.1]; exact HA.out) (by rw [e7.out.2.1]; exact HB.out) e7.out.2.2.2.2.1 e7.out.2.2.2.2.2 rfl rfl
              have v1 : (n1 : Int) ≤ (ca : Int) := by have := HCA.out.1; omega
              have v2 : (n0 : Int) ≤ (cb' : Int) := by have := HCB.out.1; omega
              have v3 : (ca : Int) ≤ 9223372036854775807 := by have := HCA.out.2; unfold maxLen at this; omega
              have v4 : (cb' : Int) ≤ 9223372036854775807 := by have := HCB.out.2; unfold maxLen at this; omega
              have BBl := hid_into hbl
              clear d2 d3 d4 d5 d6 d7 fs fc hbl I la1 la0 hsA hsB hn0 hn1
              have f1 : ¬ (k : Int) < (zs.length : Int) := by omega
              go_upto_region 46 with fail
              have S0 : wr.drew.cell? ⟨K.cb, 0, none⟩ = some (.slice a0 n0 c0) ∧ wr.drew.cell? ⟨K.cb, 1, none⟩ = some (.slice a1 n1 c1) := ⟨d0, d1⟩
              have M0 : Sm wr wr.drew := Sm.drewN wr 1
              refine wp_region_held (S := fun V => V.cell? ⟨K.cb, 0, none⟩ = some (.slice a0 n0 c0) ∧ V.cell? ⟨K.cb, 1, none⟩ = some (.slice a1 n1 c1)) (by kernel_rfl) ?_
              change wpAnyH _ _ _ _ _ _ _ _ (World.drew _)
              refine wpAnyH_take (i := 0) (v := .pointer (some ⟨K.cb, 1, none⟩)) rfl (by kernel_rfl) (by kernel_rfl) (by kernel_rfl) (fun _ _ _ h => h) (Or.inl ⟨by kernel_rfl, by intro V hV; obtain ⟨hV1, hV2⟩ := hV; go_simp⟩) S0 ?_
              refine wpAnyH_take (i := 1) (v := .slice a1 n1 c1) rfl (by kernel_rfl) (by kernel_rfl) (by kernel_rfl) (fun _ _ _ h => h) (Or.inl ⟨by kernel_rfl, by intro V hV; obtain ⟨hV1, hV2⟩ := hV; go_simp⟩) S0 ?_
              simp only [List.getElem_toArray, List.getElem_cons_zero, List.getElem_cons_succ, Act.put, List.setIfInBounds_toArray, List.set_cons_zero, List.set_cons_succ]
              refine wpAnyH_take (i := 2) (v := .slice ao ra.length ca) rfl (by kernel_rfl) (by kernel_rfl) (by kernel_rfl) (fun _ _ _ h => h) (Or.inl ⟨by kernel_rfl, by intro V hV; obtain ⟨hV1, hV2⟩ := hV; go_simp⟩) S0 ?_
              simp only [List.getElem_toArray, List.getElem_cons_zero, List.getElem_cons_succ, Act.put, List.setIfInBounds_toArray, List.set_cons_zero, List.set_cons_succ]
              refine wpAnyH_take (i := 3) (v := .pointer (some ⟨K.cb, 1, none⟩)) rfl (by kernel_rfl) (by kernel_rfl) (by kernel_rfl) (fun _ _ _ h => h) (Or.inl ⟨by kernel_rfl, by intro V hV; obtain ⟨hV1, hV2⟩ := hV; go_simp⟩) S0 ?_
              simp only [List.getElem_toArray, List.getElem_cons_zero, List.getElem_cons_succ, Act.put, List.setIfInBounds_toArray, List.set_cons_zero, List.set_cons_succ]
              refine wpAnyH_take (i := 4) (v := .slice a1 n1 c1) rfl (by kernel_rfl) (by kernel_rfl) (by kernel_rfl) (fun _ _ _ h => h) (Or.inl ⟨by kernel_rfl, by intro V hV; obtain ⟨hV1, hV2⟩ := hV; go_simp⟩) S0 ?_
              simp only [List.getElem_toArray, List.getElem_cons_zero, List.getElem_cons_succ, Act.put, List.setIfInBounds_toArray, List.set_cons_zero, List.set_cons_succ]
              refine wpAnyH_take (i := 5) (v := .int .i64 (n1 : Int)) rfl (by kernel_rfl) (by kernel_rfl) (by kernel_rfl) (fun _ _ _ h => h) (Or.inl ⟨by kernel_rfl, by intro V hV; obtain ⟨hV1, hV2⟩ := hV; go_simp⟩) S0 ?_
              simp only [List.getElem_toArray, List.getElem_cons_zero, List.getElem_cons_succ, Act.put, List.setIfInBounds_toArray, List.set_cons_zero, List.set_cons_succ]
              refine wpAnyH_take (i := 6) (v := .slice ao n1 ca) rfl (by kernel_rfl) (by kernel_rfl) (by kernel_rfl) (fun _ _ _ h => h) (Or.inl ⟨by kernel_rfl, by intro V hV; obtain ⟨hV1, hV2⟩ := hV; go_simp⟩) S0 ?_
              simp only [List.getElem_toArray, List.getElem_cons_zero, List.getElem_cons_succ, Act.put, List.setIfInBounds_toArray, List.set_cons_zero, List.set_cons_succ]
              refine wpAnyH_ready (rs := [7]) (by kernel_rfl) (by simp) ?_
              refine AllReadyH.cons rfl (fun KK hK => ?_) AllReadyH.nil
              go_simp
              refine (L1.out _ M0).mono ?_
              rintro r V1 ⟨rfl, sm⟩
              dsimp only
              have M1 := M0.trans sm
              have S1 : V1.cell? ⟨K.cb, 0, none⟩ = some (.slice a0 n0 c0) ∧ V1.cell? ⟨K.cb, 1, none⟩ = some (.slice a1 n1 c1) := ⟨(World.cell?_of_block (by rw [M1.heap])).trans d0, (World.cell?_of_block (by rw [M1.heap])).trans d1⟩
              refine hK.out _ _ (by exact S1) (fun _ => ?_)
              clear hK KK sm
              refine wpAnyH_take (i := 8) (v := .bool true) rfl (by kernel_rfl) (by kernel_rfl) (by kernel_rfl) (fun _ _ _ h => h) (Or.inl ⟨by kernel_rfl, by intro V hV; obtain ⟨hV1, hV2⟩ := hV; go_simp⟩) S1 ?_
              simp only [List.getElem_toArray, List.getElem_cons_zero, List.getElem_cons_succ, Act.put, List.setIfInBounds_toArray, List.set_cons_zero, List.set_cons_succ]
              refine wpAnyH_take (i := 9) (v := .pointer (some ⟨K.cb, 0, none⟩)) rfl (by kernel_rfl) (by kernel_rfl) (by kernel_rfl) (fun _ _ _ h => h) (Or.inl ⟨by kernel_rfl, by intro V hV; obtain ⟨hV1, hV2⟩ := hV; go_simp⟩) S1 ?_
              simp only [List.getElem_toArray, List.getElem_cons_zero, List.getElem_cons_succ, Act.put, List.setIfInBounds_toArray, List.set_cons_zero, List.set_cons_succ]
              refine wpAnyH_take (i := 10) (v := .slice a0 n0 c0) rfl (by kernel_rfl) (by kernel_rfl) (by kernel_rfl) (fun _ _ _ h => h) (Or.inl ⟨by kernel_rfl, by intro V hV; obtain ⟨hV1, hV2⟩ := hV; go_simp⟩) S1 ?_
              simp only [List.getElem_toArray, List.getElem_cons_zero, List.getElem_cons_succ, Act.put, List.setIfInBounds_toArray, List.set_cons_zero, List.set_cons_succ]
              refine wpAnyH_take (i := 11) (v := .slice bo rb.length cb') rfl (by kernel_rfl) (by kernel_rfl) (by kernel_rfl) (fun _ _ _ h => h) (Or.inl ⟨by kernel_rfl, by intro V hV; obtain ⟨hV1, hV2⟩ := hV; go_simp⟩) S1 ?_
              simp only [List.getElem_toArray, List.getElem_cons_zero, List.getElem_cons_succ, Act.put, List.setIfInBounds_toArray, List.set_cons_zero, List.set_cons_succ]
              refine wpAnyH_take (i := 12) (v := .pointer (some ⟨K.cb, 0, none⟩)) rfl (by kernel_rfl) (by kernel_rfl) (by kernel_rfl) (fun _ _ _ h => h) (Or.inl ⟨by kernel_rfl, by intro V hV; obtain ⟨hV1, hV2⟩ := hV; go_simp⟩) S1 ?_
              simp only [List.getElem_toArray, List.getElem_cons_zero, List.getElem_cons_succ, Act.put, List.setIfInBounds_toArray, List.set_cons_zero, List.set_cons_succ]
              refine wpAnyH_take (i := 13) (v := .slice a0 n0 c0) rfl (by kernel_rfl) (by kernel_rfl) (by kernel_rfl) (fun _ _ _ h => h) (Or.inl ⟨by kernel_rfl, by intro V hV; obtain ⟨hV1, hV2⟩ := hV; go_simp⟩) S1 ?_
              simp only [List.getElem_toArray, List.getElem_cons_zero, List.getElem_cons_succ, Act.put, List.setIfInBounds_toArray, List.set_cons_zero, List.set_cons_succ]
              refine wpAnyH_take (i := 14) (v := .int .i64 (n0 : Int)) rfl (by kernel_rfl) (by kernel_rfl) (by kernel_rfl) (fun _ _ _ h => h) (Or.inl ⟨by kernel_rfl, by intro V hV; obtain ⟨hV1, hV2⟩ := hV; go_simp⟩) S1 ?_
              simp only [List.getElem_toArray, List.getElem_cons_zero, List.getElem_cons_succ, Act.put, List.setIfInBounds_toArray, List.set_cons_zero, List.set_cons_succ]
              refine wpAnyH_take (i := 15) (v := .slice bo n0 cb') rfl (by kernel_rfl) (by kernel_rfl) (by kernel_rfl) (fun _ _ _ h => h) (Or.inl ⟨by kernel_rfl, by intro V hV; obtain ⟨hV1, hV2⟩ := hV; go_simp⟩) S1 ?_
              simp only [List.getElem_toArray, List.getElem_cons_zero, List.getElem_cons_succ, Act.put, List.setIfInBounds_toArray, List.set_cons_zero, List.set_cons_succ]
              refine wpAnyH_ready (rs := [16]) (by kernel_rfl) (by simp) ?_
              refine AllReadyH.cons rfl (fun KK hK => ?_) AllReadyH.nil
              go_simp
              refine (L0.out _ M1).mono ?_
              rintro r V2 ⟨rfl, sm⟩
              dsimp only
              have M2 := M1.trans sm
              have S2 : V2.cell? ⟨K.cb, 0, none⟩ = some (.slice a0 n0 c0) ∧ V2.cell? ⟨K.cb, 1, none⟩ = some (.slice a1 n1 c1) := ⟨(World.cell?_of_block (by rw [M2.heap])).trans d0, (World.cell?_of_block (by rw [M2.heap])).trans d1⟩
              refine hK.out _ _ (by exact S2) (fun _ => ?_)
              clear hK KK sm
              refine wpAnyH_take (i := 17) (v := .bool true) rfl (by kernel_rfl) (by kernel_rfl) (by kernel_rfl) (fun _ _ _ h => h) (Or.inl ⟨by kernel_rfl, by intro V hV; obtain ⟨hV1, hV2⟩ := hV; go_simp⟩) S2 ?_
              simp only [List.getElem_toArray, List.getElem_cons_zero, List.getElem_cons_succ, Act.put, List.setIfInBounds_toArray, List.set_cons_zero, List.set_cons_succ]
              refine wpAnyH_take (i := 18) (v := .bool true) rfl (by kernel_rfl) (by kernel_rfl) (by kernel_rfl) (fun _ _ _ h => h) (Or.inl ⟨by kernel_rfl, by intro V hV; obtain ⟨hV1, hV2⟩ := hV; go_simp⟩) S2 ?_
              simp only [List.getElem_toArray, List.getElem_cons_zero, List.getElem_cons_succ, Act.put, List.setIfInBounds_toArray, List.set_cons_zero, List.set_cons_succ]
              refine wpAnyH_ready (rs := [19]) (by kernel_rfl) (by simp) ?_
              refine AllReadyH.cons rfl (fun KK hK => ?_) AllReadyH.nil
              go_simp
              refine (KN.out V2 (BBl.out.trans (M2.below _))).mono ?_
              rintro r V3 ⟨rfl, B3⟩
              dsimp only
              have S3 : V3.cell? ⟨K.cb, 0, none⟩ = some (.slice a0 n0 c0) ∧ V3.cell? ⟨K.cb, 1, none⟩ = some (.slice a1 n1 c1) := ⟨(World.cell?_of_block (B3.block _ (World.block_lt_of_cell? V2 _ S2.1))).trans S2.1, (World.cell?_of_block (B3.block _ (World.block_lt_of_cell? V2 _ S2.2))).trans S2.2⟩
              refine hK.out _ _ (by exact S3) (fun _ => ?_)
              clear hK KK
              refine wpAnyH_take (i := 20) (v := .bool true) rfl (by kernel_rfl) (by kernel_rfl) (by kernel_rfl) (fun _ _ _ h => h) (Or.inl ⟨by kernel_rfl, by intro V hV; obtain ⟨hV1, hV2⟩ := hV; go_simp⟩) S3 ?_
              simp only [List.getElem_toArray, List.getElem_cons_zero, List.getElem_cons_succ, Act.put, List.setIfInBounds_toArray, List.set_cons_zero, List.set_cons_succ]
              refine wpAnyH_take (i := 21) (v := .bool true) rfl (by kernel_rfl) (by kernel_rfl) (by kernel_rfl) (fun _ _ _ h => h) (Or.inl ⟨by kernel_rfl, by intro V hV; obtain ⟨hV1, hV2⟩ := hV; go_simp⟩) S3 ?_
              simp only [List.getElem_toArray, List.getElem_cons_zero, List.getElem_cons_succ, Act.put, List.setIfInBounds_toArray, List.set_cons_zero, List.set_cons_succ]
              refine wpAnyH_done (by kernel_rfl) ?_ _
              go_wp2_with fail
              go_ret
              exact ⟨rfl, (BBl.out.trans (M2.below w.heap.size)).trans (B3.mono (BBl.out.trans (M2.below w.heap.size)).size)⟩
            · skip
              obtain ⟨la1, la0, L1, L0⟩ := I.out.last hOK.out (by rw [e7.out.1, e7.out.2.1]) (by rw [e7.out.2.1]; exact HA.out) (by rw [e7.out.2.1]; exact HB.out) e7.out.2.2.2.2.1 e7.out.2.2.2.2.2 rfl rfl
              have v1 : (n1 : Int) ≤ (ca : Int) := by have := HCA.out.1; omega
              have v2 : (n0 : Int) ≤ (cb' : Int) := by have := HCB.out.1; omega
              have v3 : (ca : Int) ≤ 9223372036854775807 := by have := HCA.out.2; unfold maxLen at this; omega
              have v4 : (cb' : Int) ≤ 9223372036854775807 := by have := HCB.out.2; unfold maxLen at this; omega
              have BBl := hid_into hbl
              clear d2 d3 d4 d5 d6 d7 fs fc hbl I la1 la0 hsA hsB hn0 hn1
              have f1 : (k : Int) < (zs.length : Int) := by omega
              have f2 : ¬ (k : Int) < 600 := by omega
              go_upto_region 46 with fail
              have S0 : wr.drew.cell? ⟨K.cb, 0, none⟩ = some (.slice a0 n0 c0) ∧ wr.drew.cell? ⟨K.cb, 1, none⟩ = some (.slice a1 n1 c1) := ⟨d0, d1⟩
              have M0 : Sm wr wr.drew := Sm.drewN wr 1
              refine wp_region_held (S := fun V => V.cell? ⟨K.cb, 0, none⟩ = some (.slice a0 n0 c0) ∧ V.cell? ⟨K.cb, 1, none⟩ = some (.slice a1 n1 c1)) (by kernel_rfl) ?_
              change wpAnyH _ _ _ _ _ _ _ _ (World.drew _)
              refine wpAnyH_take (i := 0) (v := .pointer (some ⟨K.cb, 1, none⟩)) rfl (by kernel_rfl) (by kernel_rfl) (by kernel_rfl) (fun _ _ _ h => h) (Or.inl ⟨by kernel_rfl, by intro V hV; obtain ⟨hV1, hV2⟩ := hV; go_simp⟩) S0 ?_
              refine wpAnyH_take (i := 1) (v := .slice a1 n1 c1) rfl (by kernel_rfl) (by kernel_rfl) (by kernel_rfl) (fun _ _ _ h => h) (Or.inl ⟨by kernel_rfl, by intro V hV; obtain ⟨hV1, hV2⟩ := hV; go_simp⟩) S0 ?_
              simp only [List.getElem_toArray, List.getElem_cons_zero, List.getElem_cons_succ, Act.put, List.setIfInBounds_toArray, List.set_cons_zero, List.set_cons_succ]
              refine wpAnyH_take (i := 2) (v := .slice ao ra.length ca) rfl (by kernel_rfl) (by kernel_rfl) (by kernel_rfl) (fun _ _ _ h => h) (Or.inl ⟨by kernel_rfl, by intro V hV; obtain ⟨hV1, hV2⟩ := hV; go_simp⟩) S0 ?_
              simp only [List.getElem_toArray, List.getElem_cons_zero, List.getElem_cons_succ, Act.put, List.setIfInBounds_toArray, List.set_cons_zero, List.set_cons_succ]
              refine wpAnyH_take (i := 3) (v := .pointer (some ⟨K.cb, 1, none⟩)) rfl (by kernel_rfl) (by kernel_rfl) (by kernel_rfl) (fun _ _ _ h => h) (Or.inl ⟨by kernel_rfl, by intro V hV; obtain ⟨hV1, hV2⟩ := hV; go_simp⟩) S0 ?_
              simp only [List.getElem_toArray, List.getElem_cons_zero, List.getElem_cons_succ, Act.put, List.setIfInBounds_toArray, List.set_cons_zero, List.set_cons_succ]
              refine wpAnyH_take (i := 4) (v := .slice a1 n1 c1) rfl (by kernel_rfl) (by kernel_rfl) (by kernel_rfl) (fun _ _ _ h => h) (Or.inl ⟨by kernel_rfl, by intro V hV; obtain ⟨hV1, hV2⟩ := hV; go_simp⟩) S0 ?_
              simp only [List.getElem_toArray, List.getElem_cons_zero, List.getElem_cons_succ, Act.put, List.setIfInBounds_toArray, List.set_cons_zero, List.set_cons_succ]
              refine wpAnyH_take (i := 5) (v := .int .i64 (n1 : Int)) rfl (by kernel_rfl) (by kernel_rfl) (by kernel_rfl) (fun _ _ _ h => h) (Or.inl ⟨by kernel_rfl, by intro V hV; obtain ⟨hV1, hV2⟩ := hV; go_simp⟩) S0 ?_
              simp only [List.getElem_toArray, List.getElem_cons_zero, List.getElem_cons_succ, Act.put, List.setIfInBounds_toArray, List.set_cons_zero, List.set_cons_succ]
              refine wpAnyH_take (i := 6) (v := .slice ao n1 ca) rfl (by kernel_rfl) (by kernel_rfl) (by kernel_rfl) (fun _ _ _ h => h) (Or.inl ⟨by kernel_rfl, by intro V hV; obtain ⟨hV1, hV2⟩ := hV; go_simp⟩) S0 ?_
              simp only [List.getElem_toArray, List.getElem_cons_zero, List.getElem_cons_succ, Act.put, List.setIfInBounds_toArray, List.set_cons_zero, List.set_cons_succ]
              refine wpAnyH_ready (rs := [7]) (by kernel_rfl) (by simp) ?_
              refine AllReadyH.cons rfl (fun KK hK => ?_) AllReadyH.nil
              go_simp
              refine (L1.out _ M0).mono ?_
              rintro r V1 ⟨rfl, sm⟩
              dsimp only
              have M1 := M0.trans sm
              have S1 : V1.cell? ⟨K.cb, 0, none⟩ = some (.slice a0 n0 c0) ∧ V1.cell? ⟨K.cb, 1, none⟩ = some (.slice a1 n1 c1) := ⟨(World.cell?_of_block (by rw [M1.heap])).trans d0, (World.cell?_of_block (by rw [M1.heap])).trans d1⟩
              refine hK.out _ _ (by exact S1) (fun _ => ?_)
              clear hK KK sm
              refine wpAnyH_take (i := 8) (v := .bool true) rfl (by kernel_rfl) (by kernel_rfl) (by kernel_rfl) (fun _ _ _ h => h) (Or.inl ⟨by kernel_rfl, by intro V hV; obtain ⟨hV1, hV2⟩ := hV; go_simp⟩) S1 ?_
              simp only [List.getElem_toArray, List.getElem_cons_zero, List.getElem_cons_succ, Act.put, List.setIfInBounds_toArray, List.set_cons_zero, List.set_cons_succ]
              refine wpAnyH_take (i := 9) (v := .pointer (some ⟨K.cb, 0, none⟩)) rfl (by kernel_rfl) (by kernel_rfl) (by kernel_rfl) (fun _ _ _ h => h) (Or.inl ⟨by kernel_rfl, by intro V hV; obtain ⟨hV1, hV2⟩ := hV; go_simp⟩) S1 ?_
              simp only [List.getElem_toArray, List.getElem_cons_zero, List.getElem_cons_succ, Act.put, List.setIfInBounds_toArray, List.set_cons_zero, List.set_cons_succ]
              refine wpAnyH_take (i := 10) (v := .slice a0 n0 c0) rfl (by kernel_rfl) (by kernel_rfl) (by kernel_rfl) (fun _ _ _ h => h) (Or.inl ⟨by kernel_rfl, by intro V hV; obtain ⟨hV1, hV2⟩ := hV; go_simp⟩) S1 ?_
              simp only [List.getElem_toArray, List.getElem_cons_zero, List.getElem_cons_succ, Act.put, List.setIfInBounds_toArray, List.set_cons_zero, List.set_cons_succ]
              refine wpAnyH_take (i := 11) (v := .slice bo rb.length cb') rfl (by kernel_rfl) (by kernel_rfl) (by kernel_rfl) (fun _ _ _ h => h) (Or.inl ⟨by kernel_rfl, by intro V hV; obtain ⟨hV1, hV2⟩ := hV; go_simp⟩) S1 ?_
              simp only [List.getElem_toArray, List.getElem_cons_zero, List.getElem_cons_succ, Act.put, List.setIfInBounds_toArray, List.set_cons_zero, List.set_cons_succ]
              refine wpAnyH_take (i := 12) (v := .pointer (some ⟨K.cb, 0, none⟩)) rfl (by kernel_rfl) (by kernel_rfl) (by kernel_rfl) (fun _ _ _ h => h) (Or.inl ⟨by kernel_rfl, by intro V hV; obtain ⟨hV1, hV2⟩ := hV; go_simp⟩) S1 ?_
              simp only [List.getElem_toArray, List.getElem_cons_zero, List.getElem_cons_succ, Act.put, List.setIfInBounds_toArray, List.set_cons_zero, List.set_cons_succ]
              refine wpAnyH_take (i := 13) (v := .slice a0 n0 c0) rfl (by kernel_rfl) (by kernel_rfl) (by kernel_rfl) (fun _ _ _ h => h) (Or.inl ⟨by kernel_rfl, by intro V hV; obtain ⟨hV1, hV2⟩ := hV; go_simp⟩) S1 ?_
              simp only [List.getElem_toArray, List.getElem_cons_zero, List.getElem_cons_succ, Act.put, List.setIfInBounds_toArray, List.set_cons_zero, List.set_cons_succ]
              refine wpAnyH_take (i := 14) (v := .int .i64 (n0 : Int)) rfl (by kernel_rfl) (by kernel_rfl) (by kernel_rfl) (fun _ _ _ h => h) (Or.inl ⟨by kernel_rfl, by intro V hV; obtain ⟨hV1, hV2⟩ := hV; go_simp⟩) S1 ?_
              simp only [List.getElem_toArray, List.getElem_cons_zero, List.getElem_cons_succ, Act.put, List.setIfInBounds_toArray, List.set_cons_zero, List.set_cons_succ]
              refine wpAnyH_take (i := 15) (v := .slice bo n0 cb') rfl (by kernel_rfl) (by kernel_rfl) (by kernel_rfl) (fun _ _ _ h => h) (Or.inl ⟨by kernel_rfl, by intro V hV; obtain ⟨hV1, hV2⟩ := hV; go_simp⟩) S1 ?_
              simp only [List.getElem_toArray, List.getElem_cons_zero, List.getElem_cons_succ, Act.put, List.setIfInBounds_toArray, List.set_cons_zero, List.set_cons_succ]
              refine wpAnyH_ready (rs := [16]) (by kernel_rfl) (by simp) ?_
              refine AllReadyH.cons rfl (fun KK hK => ?_) AllReadyH.nil
              go_simp
              refine (L0.out _ M1).mono ?_
              rintro r V2 ⟨rfl, sm⟩
              dsimp only
              have M2 := M1.trans sm
              have S2 : V2.cell? ⟨K.cb, 0, none⟩ = some (.slice a0 n0 c0) ∧ V2.cell? ⟨K.cb, 1, none⟩ = some (.slice a1 n1 c1) := ⟨(World.cell?_of_block (by rw [M2.heap])).trans d0, (World.cell?_of_block (by rw [M2.heap])).trans d1⟩
              refine hK.out _ _ (by exact S2) (fun _ => ?_)
              clear hK KK sm
              refine wpAnyH_take (i := 17) (v := .bool true) rfl (by kernel_rfl) (by kernel_rfl) (by kernel_rfl) (fun _ _ _ h => h) (Or.inl ⟨by kernel_rfl, by intro V hV; obtain ⟨hV1, hV2⟩ := hV; go_simp⟩) S2 ?_
              simp only [List.getElem_toArray, List.getElem_cons_zero, List.getElem_cons_succ, Act.put, List.setIfInBounds_toArray, List.set_cons_zero, List.set_cons_succ]
              refine wpAnyH_take (i := 18) (v := .bool true) rfl (by kernel_rfl) (by kernel_rfl) (by kernel_rfl) (fun _ _ _ h => h) (Or.inl ⟨by kernel_rfl, by intro V hV; obtain ⟨hV1, hV2⟩ := hV; go_simp⟩) S2 ?_
              simp only [List.getElem_toArray, List.getElem_cons_zero, List.getElem_cons_succ, Act.put, List.setIfInBounds_toArray, List.set_cons_zero, List.set_cons_succ]
              refine wpAnyH_ready (rs := [19]) (by kernel_rfl) (by simp) ?_
              refine AllReadyH.cons rfl (fun KK hK => ?_) AllReadyH.nil
              go_simp
              refine (KN.out V2 (BBl.out.trans (M2.below _))).mono ?_
              rintro r V3 ⟨rfl, B3⟩
              dsimp only
              have S3 : V3.cell? ⟨K.cb, 0, none⟩ = some (.slice a0 n0 c0) ∧ V3.cell? ⟨K.cb, 1, none⟩ = some (.slice a1 n1 c1) := ⟨(World.cell?_of_block (B3.block _ (World.block_lt_of_cell? V2 _ S2.1))).trans S2.1, (World.cell?_of_block (B3.block _ (World.block_lt_of_cell? V2 _ S2.2))).trans S2.2⟩
              refine hK.out _ _ (by exact S3) (fun _ => ?_)
              clear hK KK
              refine wpAnyH_take (i := 20) (v := .bool true) rfl (by kernel_rfl) (by kernel_rfl) (by kernel_rfl) (fun _ _ _ h => h) (Or.inl ⟨by kernel_rfl, by intro V hV; obtain ⟨hV1, hV2⟩ := hV; go_simp⟩) S3 ?_
              simp only [List.getElem_toArray, List.getElem_cons_zero, List.getElem_cons_succ, Act.put, List.setIfInBounds_toArray, List.set_cons_zero, List.set_cons_succ]
              refine wpAnyH_take (i := 21) (v := .bool true) rfl (by kernel_rfl) (by kernel_rfl) (by kernel_rfl) (fun _ _ _ h => h) (Or.inl ⟨by kernel_rfl, by intro V hV; obtain ⟨hV1, hV2⟩ := hV; go_simp⟩) S3 ?_
              simp only [List.getElem_toArray, List.getElem_cons_zero, List.getElem_cons_succ, Act.put, List.setIfInBounds_toArray, List.set_cons_zero, List.set_cons_succ]
              refine wpAnyH_done (by kernel_rfl) ?_ _
              go_wp2_with fail
              go_ret
              exact ⟨rfl, (BBl.out.trans (M2.below w.heap.size)).trans (B3.mono (BBl.out.trans (M2.below w.heap.size)).size)⟩
end Go.Proofs.YtahodgmdikaedaaDoor
