/-
  RollbackOver's own walk.
-/
import Derived.Test.YtbfldcieibdapabGreatM21
import Derived.Test.YtbfldcieibdapabGreatM09
import Derived.Deep.RegionHeld3
namespace Go.Proofs.YtbfldcieibdapabGreat
open Go.RowKit
theorem heldI_id {x : Int} (h : In32 x) : heldI x = x := by
  unfold In32 at h
  unfold heldI
  split
  · omega
  · split <;> omega
/-- A session of the law's own: this player does v always, the other one 2. -/
structure Ov (w W : World) (lo hi : Nat) (X : Sx) (L v : Int) (s : Sa) (p q : Nat) (b : Int) : Prop where
  x : Lx w W lo hi X (adG L) s
  n : Nv L s p q
  k : Kv s (fun _ => v) (fun _ => 2)
  me : s.me = 1
  st : 0 ≤ s.st ∧ s.st ≤ b
  wr : 0 ≤ s.wr ∧ s.wr ≤ b
section
variable {w W W' : World} {lo hi : Nat} {X : Sx} {L v : Int} {s : Sa} {p q : Nat} {b : Int}
theorem Ov.loc (h : Ov w W lo hi X L v s p q b) (hL : 1 ≤ L) (h6 : L ≤ 600) (hv : 0 ≤ v ∧ v < 65536) (hb : b ≤ 1000000) (hp : (p : Int) < L) (hw : p < min p q + 8) : Calls Tryz.prog 9 #[.pointer (some ⟨X.sb, 0, none⟩), .int .u16 v] W fun e w' => e = .returned (.tuple #[.int .i64 (p : Int), .int .i64 0]) ∧ ∃ s', Ov w w' lo hi X L v s' (p + 1) q (b + 1) := by
  have h3 := h.st
  have h4 := h.wr
  obtain ⟨e1, e2, e3⟩ := h.n.loc_ok hL h6 hp hw hv
  have g := h.x.Local ⟨h3.1, by omega⟩ hv
  have hk := h.k.put h.n.ok.fit (by rw [h.n.P]; exact hp)
  rw [e1, e2] at g
  exact g.mono (by rintro e w' ⟨rfl, k⟩; exact ⟨rfl, _, k, e3, hk.work _ _, h.me, ⟨by show 0 ≤ s.st + 1; omega, by show s.st + 1 ≤ b + 1; omega⟩, by show 0 ≤ s.wr + 0; omega, by show s.wr + 0 ≤ b + 1; omega⟩)
theorem Ov.rem (h : Ov w W lo hi X L v s p q b) (hL : 1 ≤ L) (h6 : L ≤ 600) (hb : b ≤ 1000000) (hq : (q : Int) < L) (hw : q ≤ min p q + 24) : Calls Tryz.prog 10 #[.pointer (some ⟨X.sb, 0, none⟩), .int .i64 (q : Int), .int .u16 2] W fun e w' => e = .returned (.int .i64 0) ∧ ∃ s', Ov w w' lo hi X L v s' p (q + 1) (b + 600) := by
  have h3 := h.st
  have h4 := h.wr
  obtain ⟨e1, ⟨d, e, e2, d0, d1, f0, f1, _⟩, e3⟩ := h.n.rem_ok hL hq hw (x := 2) (by decide)
  have g := h.x.Remote ⟨h3.1, by omega⟩ ⟨h4.1, by omega⟩ (f := (q : Int)) (x := 2) ⟨by omega, by omega⟩ (by decide)
  have hk := h.k.hear h.n.ok.fit (f := q) hq
  rw [e1, e2] at g
  exact g.mono (by rintro e w' ⟨rfl, k⟩; exact ⟨rfl, _, k, e3.work _ _, hk.work _ _, h.me, ⟨by show 0 ≤ s.st + d; omega, by show s.st + d ≤ b + 600; omega⟩, by show 0 ≤ s.wr + _; omega, by show s.wr + _ ≤ b + 600; omega⟩)
theorem adY_const (h : Kv s (fun _ => v) (fun _ => 2)) (hm : s.me = 1) (hv : 0 ≤ v ∧ v < 65536) : ∀ k : Nat, k ≤ s.B → k ≤ 30 → adY s k = (k : Int) * v
  | 0, _, _ => by simp [adY]
  | k + 1, hB, hk => by
    have hu : (s.use k).2 = v := by rw [h.use (by omega), hm]; rfl
    have e : adY s (k + 1) = heldI (adY s k + (s.use k).2) := rfl
    have h1 : ((k + 1 : Nat) : Int) * v = (k : Int) * v + v := by rw [Int.natCast_add, Int.add_mul]; simp
    have h2 : (k : Int) * v ≤ 30 * 65535 := Int.mul_le_mul (by omega) (by omega) hv.1 (by decide)
    have h3 : 0 ≤ (k : Int) * v := Int.mul_nonneg (by omega) hv.1
    rw [e, adY_const h hm hv k (by omega) (by omega), hu, h1, heldI_id]
    unfold In32
    omega
/-- What is sure, and what is shown, when all is done. -/
structure Fin (S : Sp) (L v : Int) : Prop where
  wf : S.Wf
  ov : S.over = true
  fr : S.frame = L
  c1 : S.cells.getD 1 0 = L * v
theorem Ov.fin {n : Nat} (h : Ov w W lo hi X (n : Int) v s n n b) (hn : 1 ≤ n) (h30 : n ≤ 30) (hv : 0 ≤ v ∧ v < 65536) : s.now (adG (n : Int)) = s.sure (adG (n : Int)) ∧ Fin (s.sure (adG (n : Int))) (n : Int) v := by
  have h1 := h.n.now (by omega)
  have h2 := h.n.sure (by omega)
  rw [Nat.min_self] at h2
  refine ⟨h1.trans h2.symm, h.x.se.sureGs.wf, ?_, ?_, ?_⟩
  · rw [h2, adS_over]; simp
  · rw [h2, adS_frame]
  · rw [h2]
    have hB : s.B = n := by rw [h.n.B, Nat.min_self]
    exact adY_const h.k h.me hv n (by omega) h30
theorem Ov.loc12 {n : Nat} (h : Ov w W lo hi X (n : Int) v s n n b) (hn : 1 ≤ n) (hv : 0 ≤ v ∧ v < 65536) (hb : b ≤ 1000000) : Calls Tryz.prog 9 #[.pointer (some ⟨X.sb, 0, none⟩), .int .u16 v] W fun e w' => e = .returned (.tuple #[.int .i64 0, .int .i64 12]) ∧ Ov w w' lo hi X (n : Int) v s n n b := by
  have h3 := h.st
  obtain ⟨e1, e2⟩ := h.n.loc_over (by omega) rfl v
  have g := h.x.Local ⟨h3.1, by omega⟩ hv
  rw [e1, e2] at g
  exact g.mono (by rintro e w' ⟨rfl, k⟩; exact ⟨rfl, k, h.n, h.k, h.me, h.st, h.wr⟩)
theorem Ov.rem12 {n : Nat} (h : Ov w W lo hi X (n : Int) v s n n b) (hn : 1 ≤ n) (h30 : n ≤ 30) (hv : 0 ≤ v ∧ v < 65536) (hb : b ≤ 1000000) : Calls Tryz.prog 10 #[.pointer (some ⟨X.sb, 0, none⟩), .int .i64 0, .int .u16 2] W fun e w' => e = .returned (.int .i64 12) ∧ Ov w w' lo hi X (n : Int) v s n n b ∧ Grows (In2 lo hi) W w' := by
  have h3 := h.st
  have h4 := h.wr
  have hF := (h.fin hn h30 hv).2.ov
  have e1 : remA s (adG (n : Int)) 0 2 = 12 := by
    unfold remA
    have hc : (adG (n : Int)).cap = (n : Int) := rfl
    rw [if_neg (by omega), if_pos hF]
  have e2 : remS s (adG (n : Int)) 0 2 = s := by unfold remS; rw [e1]; rfl
  have g := h.x.se.Remote ⟨h3.1, by omega⟩ ⟨h4.1, by omega⟩ (f := 0) (x := 2) (by decide) (by decide)
  rw [e1, e2] at g
  exact g.mono (by rintro e w' ⟨rfl, k, hg⟩; exact ⟨rfl, ⟨h.x.grow k hg, h.n, h.k, h.me, h.st, h.wr⟩, hg⟩)
theorem Ov.rem1 {n : Nat} (h : Ov w W lo hi X (n : Int) v s n n b) (h30 : n ≤ 30) (hb : b ≤ 1000000) : Calls Tryz.prog 10 #[.pointer (some ⟨X.sb, 0, none⟩), .int .i64 (n : Int), .int .u16 2] W fun e w' => e = .returned (.int .i64 1) ∧ Ov w w' lo hi X (n : Int) v s n n b ∧ Grows (In2 lo hi) W w' := by
  have h3 := h.st
  have h4 := h.wr
  have e1 : remA s (adG (n : Int)) (n : Int) 2 = 1 := by
    unfold remA
    have hc : (adG (n : Int)).cap = (n : Int) := rfl
    rw [if_pos (by omega)]
  have e2 : remS s (adG (n : Int)) (n : Int) 2 = s := by unfold remS; rw [e1]; rfl
  have g := h.x.se.Remote ⟨h3.1, by omega⟩ ⟨h4.1, by omega⟩ (f := (n : Int)) (x := 2) ⟨by omega, by omega⟩ (by decide)
  rw [e1, e2] at g
  exact g.mono (by rintro e w' ⟨rfl, k, hg⟩; exact ⟨rfl, ⟨h.x.grow k hg, h.n, h.k, h.me, h.st, h.wr⟩, hg⟩)
theorem Ov.next (h : Ov w W lo hi X L v s p q b) (hb : Below W.heap.size W W') : Ov w W' lo hi X L v s p q b := ⟨h.x.next hb, h.n, h.k, h.me, h.st, h.wr⟩
theorem Ov.now (h : Ov w W lo hi X L v s p q b) : Calls Tryz.prog 12 #[.pointer (some ⟨X.sb, 0, none⟩)] W fun e w' => e = .returned (.agg (stV (s.now (adG L))).toArray) ∧ Below W.heap.size W w' := h.x.se.Now
theorem Ov.sure (h : Ov w W lo hi X L v s p q b) : Calls Tryz.prog 13 #[.pointer (some ⟨X.sb, 0, none⟩)] W fun e w' => e = .returned (.agg (stV (s.sure (adG L))).toArray) ∧ Below W.heap.size W w' := h.x.se.Sure
end
theorem yieldsIf_eql28 {ops : Array Oper} {S : World → Prop} {op : Oper} {a : Act} (hw : Region.wanted op (yielded ops a.tmps) = true) (x y : Operand) (ho : op.op = .binOp .eql 44 x y 44) (cs ds : List Value) (q : Bool) (hq : Hid (∀ w, (Op.equalIn 10000 44 (.agg cs.toArray) (.agg ds.toArray)).run Tryz.prog w = .ok q w)) (hx : a.eval x = .agg cs.toArray) (hy : a.eval y = .agg ds.toArray) : YieldsIf Tryz.prog ops S op (.bool q) a :=
  .inl ⟨hw, fun w _ => by
    unfold execOp
    simp only [ho, hx, hy, Sem.run_bind, run_eqGuard_agg w .eql 44 x y cs.toArray ds.toArray guard28, Result.andThen_ok, run_eql_struct, hq.out w, Sem.run_pure]⟩
set_option maxRecDepth 20000 in
set_option maxHeartbeats 4000000 in
theorem over_walk (n v : Int) (w : World) (hv : 0 ≤ v ∧ v < 65536) : Calls Tryz.prog 4 #[.int .i64 n, .int .u16 v] w fun e w' => e = .returned (.bool true) ∧ Below w.heap.size w w' := by
  have CK := hid_into known_any
  by_cases h1 : n < 1
  · go_enter Tryz.func4, Tryz.ntmps4
    go_wp2_with (go_at_call 7; refine (CK.out _).mono ?_; rintro e w1 ⟨rfl, B1⟩)
    go_ret
    exact ⟨rfl, B1⟩
  by_cases h2 : 30 < n
  · go_enter Tryz.func4, Tryz.ntmps4
    go_wp2_with (go_at_call 7; refine (CK.out _).mono ?_; rintro e w1 ⟨rfl, B1⟩)
    go_ret
    exact ⟨rfl, B1⟩
  obtain ⟨N, rfl⟩ : ∃ N : Nat, n = (N : Int) := ⟨n.toNat, by omega⟩
  have hN1 : 1 ≤ N := by omega
  have hN2 : N ≤ 30 := by omega
  have CA : Hid (∀ W, Calls Tryz.prog 15 #[.int .i64 (N : Int)] W fun e w' => ∃ g, e = .returned (.agg #[.slice (some ⟨g, 0, none⟩) 8 8, .int .i64 (N : Int), .int .i64 20]) ∧ Ls w' (.slice (some ⟨g, 0, none⟩) 8 8) acode ∧ Below W.heap.size W w') := fun W => adder_any (N : Int) W
  have CN : Hid (∀ W g, Below w.heap.size w W → Ls W (.slice (some ⟨g, 0, none⟩) 8 8) acode → Calls Tryz.prog 8 #[.agg #[.slice (some ⟨g, 0, none⟩) 8 8, .int .i64 (N : Int), .int .i64 20], .int .u32 1, .int .i64 1] W fun e w' => ∃ X hi s, e = .returned (.tuple #[.pointer (some ⟨X.sb, 0, none⟩), .int .i64 0]) ∧ Ov w w' W.heap.size hi X (N : Int) v s 0 0 0) := fun W g hb hl => (ad_new w W hb g (N : Int) 1 (by omega) (by omega) hl (Or.inr rfl)).mono (by
    rintro e w' ⟨X, hi, rfl, k, _⟩
    have hz : ∀ k, (In.at0 (In.zeros (N : Int).toNat) k).2 = false := fun k => by rw [In.zeros_at]
    exact ⟨X, hi, _, rfl, k, newS_nv (by omega) (by omega) (Or.inr rfl), ⟨fun j hj => absurd (show (In.at0 (In.zeros (N : Int).toNat) j).2 = true from hj) (by rw [hz]; decide), fun j hj => absurd (show (In.at0 (In.zeros (N : Int).toNat) j).2 = true from hj) (by rw [hz]; decide)⟩, rfl, ⟨Int.le_refl _, Int.le_refl _⟩, Int.le_refl _, Int.le_refl _⟩)
  have hn1 : ¬ (N : Int) < 1 := h1
  have hn30 : (N : Int) ≤ 30 := by omega
  have HV := hid_into hv
  have HN := hid_into (And.intro hN1 hN2)
  clear hv hN1 hN2
  go_enter Tryz.func4, Tryz.ntmps4
  go_wp2_with (first
    | (go_at_call 15; refine (CA.out _).mono ?_; rintro e w1 ⟨g1, rfl, hL1, B1⟩; have HL1 := hid_into hL1; have HB1 := hid_into B1; clear B1 hL1)
    | (go_at_call 8; refine (CN.out _ _ HB1.out HL1.out).mono ?_; rintro e w2 ⟨X, hi, s, rfl, h2⟩; have H0 := hid_into h2; clear h2))
  clear CA CN
  go_loopw [7] (fun ui wr => ∃ (i : Nat) (s : Sa), i ≤ N ∧ ui = .int .i64 (i : Int) ∧ Hid (Ov w wr w1.heap.size hi X (N : Int) v s i i (1000 * (i : Int)))) (fun ui _ => N - (intOf ui).toNat)
  case atStart => exact ⟨0, s, Nat.zero_le _, rfl, H0⟩
  case round =>
    clear H0
    obtain ⟨i, s, hi1, rfl, HO⟩ := hrel
    by_cases hi2 : i < N
    · have hi2' : (i : Int) < (N : Int) := by omega
      have C := hid_into (HO.out.loc (by omega) (by omega) HV.out (by omega) (by omega) (by omega))
      have C2 : Hid (∀ W s', Ov w W w1.heap.size hi X (N : Int) v s' (i + 1) i (1000 * (i : Int) + 1) → Calls Tryz.prog 10 #[.pointer (some ⟨X.sb, 0, none⟩), .int .i64 (i : Int), .int .u16 2] W fun e w' => e = .returned (.int .i64 0) ∧ ∃ s', Ov w w' w1.heap.size hi X (N : Int) v s' (i + 1) (i + 1) (1000 * (i : Int) + 1 + 600)) := fun W s' h => h.rem (by omega) (by omega) (by omega) (by omega) (by omega)
      clear HO
      go_wp2_with (first
        | (go_at_call 9; refine C.out.mono ?_; rintro e w4 ⟨rfl, s4, h4⟩; have H4 := hid_into h4; clear h4 C)
        | (go_at_call 10; refine (C2.out _ _ H4.out).mono ?_; rintro e w5 ⟨rfl, s5, h5⟩; have H5 := hid_into h5; clear h5 C2))
      go_roundw
      case rel => exact ⟨i + 1, s5, by omega, by go_num, H5.out.x, H5.out.n, H5.out.k, H5.out.me, ⟨H5.out.st.1, by have := H5.out.st.2; omega⟩, H5.out.wr.1, by have := H5.out.wr.2; omega⟩
      case measure => simp [intOf]; omega
    · have hi2' : ¬ (i : Int) < (N : Int) := by omega
      obtain rfl : i = N := by omega
      have hF := HO.out.fin HN.out.1 HN.out.2 HV.out
      have CL := hid_into (HO.out.loc12 HN.out.1 HV.out (by omega))
      obtain ⟨S, hS⟩ : ∃ S, S = s.sure (adG (i : Int)) := ⟨_, rfl⟩
      have CS : Hid (∀ W, Ov w W w1.heap.size hi X (i : Int) v s i i (1000 * (i : Int)) → Calls Tryz.prog 13 #[.pointer (some ⟨X.sb, 0, none⟩)] W fun e w' => e = .returned (.agg (stV S).toArray) ∧ Below W.heap.size W w') := fun W h => by rw [hS]; exact h.sure
      have CW : Hid (∀ W, Ov w W w1.heap.size hi X (i : Int) v s i i (1000 * (i : Int)) → Calls Tryz.prog 12 #[.pointer (some ⟨X.sb, 0, none⟩)] W fun e w' => e = .returned (.agg (stV S).toArray) ∧ Ov w w' w1.heap.size hi X (i : Int) v s i i (1000 * (i : Int)) ∧ Below W.heap.size W w') := fun W h => by
        have g := h.now
        rw [hF.1, ← hS] at g
        exact g.mono (by rintro e w' ⟨rfl, b⟩; exact ⟨rfl, h.next b, b⟩)
      rw [← hS] at hF
      have wf := hF.2.wf
      have HNs := st_size wf
      have HL := st_len wf
      have HOn := st_one wf
      have HEq : Hid (∀ W : World, (Op.equalIn 10000 44 (.agg (stV S).toArray) (.agg (stV S).toArray)).run Tryz.prog W = .ok true W) := fun W => by have := run_eqS _ _ wf wf W; rw [eqS_same] at this; exact this
      have HZ : Hid ((Tryz.prog.info? 44).bind (·.zero) = some (.agg zeroS.toArray)) := Tryz.zero44
      have ZS := zeroS_size
      have q18 := hid_into (stV_c wf).over
      have q0 := hid_into (stV_c wf).frame
      have q2 : Hid ((stV S)[2]? = some (.int .i32 ((i : Int) * v))) := by
        have h := hF.2.c1
        have hc := wf.cells
        obtain ⟨c0, c1, c2, c3, c4, c5, c6, c7, c8, c9, c10, c11, c12, c13, c14, c15, e⟩ := sixteen hc
        rw [← h]
        refine hid_into ?_
        unfold stV
        rw [e]
        rfl
      rw [hF.2.ov] at q18
      rw [hF.2.fr] at q0
      have CR1 : Hid (∀ W, Ov w W w1.heap.size hi X (i : Int) v s i i (1000 * (i : Int)) → Calls Tryz.prog 10 #[.pointer (some ⟨X.sb, 0, none⟩), .int .i64 0, .int .u16 2] W fun e w' => e = .returned (.int .i64 12) ∧ Ov w w' w1.heap.size hi X (i : Int) v s i i (1000 * (i : Int)) ∧ Grows (In2 w1.heap.size hi) W w') := fun W h => h.rem12 HN.out.1 HN.out.2 HV.out (by omega)
      have CR2 : Hid (∀ W, Ov w W w1.heap.size hi X (i : Int) v s i i (1000 * (i : Int)) → Calls Tryz.prog 10 #[.pointer (some ⟨X.sb, 0, none⟩), .int .i64 (i : Int), .int .u16 2] W fun e w' => e = .returned (.int .i64 1) ∧ Ov w w' w1.heap.size hi X (i : Int) v s i i (1000 * (i : Int)) ∧ Grows (In2 w1.heap.size hi) W w') := fun W h => h.rem1 HN.out.2 (by omega)
      have hx : IntKind.i32.wrap ((i : Int)) = (i : Int) := by simp [IntKind.wrap, IntKind.bits, IntKind.signed]; omega
      have hy : IntKind.i32.wrap v = v := by have := HV.out; simp [IntKind.wrap, IntKind.bits, IntKind.signed]; omega
      have m1 : (i : Int) * v ≤ 30 * 65535 := Int.mul_le_mul (by omega) (by have := HV.out; omega) HV.out.1 (by decide)
      have m2 : 0 ≤ (i : Int) * v := Int.mul_nonneg (by omega) HV.out.1
      have hz : IntKind.i32.wrap ((i : Int) * v) = (i : Int) * v := by simp [IntKind.wrap, IntKind.bits, IntKind.signed]; omega
      generalize stV S = cs at *
      clear hF hS wf m1 m2 HO
      go_wp2_with (first
        | (go_at_call 9; refine CL.out.mono ?_; rintro e w4 ⟨rfl, h4⟩; have H4 := hid_into h4; clear h4 CL)
        | (go_at_call 13; refine (CS.out _ H4.out).mono ?_; rintro e w5 ⟨rfl, B5⟩; have H5 := hid_into (H4.out.next B5); clear B5)
        | (refine wpList_alloc_row rfl 44 rfl zeroS HZ.out ?_; intro Wa hna Ba _)
        | (refine wpList_store_rw rfl 44 (.tmp 12) (.tmp 63) rfl w5.heap.size zeroS cs 44 rfl rfl ?_ ZS HL HOn.out ?_; exact hna; intro Wb hnb Ob; have HBb := hid_into (Ba.trans (Ob.below (Nat.le_refl _))); have HNb := hid_into hnb; clear Ba Ob hna hnb))
      have H6 := hid_into (H5.out.next HBb.out)
      have HZB : Hid (hi ≤ w5.heap.size) := H5.out.x.se.z
      generalize w5.heap.size = wb at *
      have HSk : Hid (∀ V, Cw V wb cs 44 → V.rangeAt wb 0 cs ∧ V.cell? ⟨wb, 18, none⟩ = some (.bool true) ∧ V.cell? ⟨wb, 0, none⟩ = some (.int .i64 (i : Int)) ∧ V.cell? ⟨wb, 2, none⟩ = some (.int .i32 ((i : Int) * v))) := fun V hV => ⟨hV.range, (hV.cell 18).trans q18.out, (hV.cell 0).trans q0.out, (hV.cell 2).trans q2.out⟩
      have S0 := HSk.out Wb.drew HNb.out
      have T0 : Hid (Ov w Wb.drew w1.heap.size hi X (i : Int) v s i i (1000 * (i : Int))) := H6.out.next (Below.refl _ _).drew
      have N0 : Hid (Cw Wb.drew wb cs 44) := HNb.out
      clear q18 q0 q2 H6 H5 H4 HBb HNb
      obtain ⟨y, hyd⟩ : ∃ y, y = (i : Int) * v := ⟨_, rfl⟩
      have hz3 : IntKind.i32.wrap ((i : Int) * v) = y := by rw [hz, hyd]
      simp only [← hyd] at HSk S0
      clear hyd hz
      refine wp_region_held (S := fun V => V.rangeAt wb 0 cs ∧ V.cell? ⟨wb, 18, none⟩ = some (.bool true) ∧ V.cell? ⟨wb, 0, none⟩ = some (.int .i64 (i : Int)) ∧ V.cell? ⟨wb, 2, none⟩ = some (.int .i32 y)) (by kernel_rfl) ?_
      change wpAnyH _ _ _ _ _ _ _ _ (World.drew _)
      refine wpAnyH_take (i := 0) (v := .int .i64 12) rfl (by kernel_rfl) (by kernel_rfl) (by kernel_rfl) (fun _ _ _ h => h) (Or.inl ⟨by kernel_rfl, by intro V _; go_simp⟩) S0 ?_
      refine wpAnyH_take (i := 1) (v := .bool true) rfl (by kernel_rfl) (by kernel_rfl) (by kernel_rfl) (fun _ _ _ h => h) (Or.inl ⟨by kernel_rfl, by intro V _; go_simp⟩) S0 ?_
      refine wpAnyH_take (i := 2) (v := .bool true) rfl (by kernel_rfl) (by kernel_rfl) (by kernel_rfl) (fun _ _ _ h => h) (Or.inl ⟨by kernel_rfl, by intro V _; go_simp⟩) S0 ?_
      simp only [List.getElem_toArray, List.getElem_cons_zero, List.getElem_cons_succ, Act.put, List.setIfInBounds_toArray, List.set_cons_zero, List.set_cons_succ]
      refine wpAnyH_take (i := 3) (v := .pointer (some ⟨X.sb, 0, none⟩)) rfl (by kernel_rfl) (by kernel_rfl) (by kernel_rfl) (fun _ _ _ h => h) (Or.inl ⟨by kernel_rfl, by intro V _; go_simp⟩) S0 ?_
      refine wpAnyH_ready (rs := [4]) (by kernel_rfl) (by simp) ?_
      try simp only [List.getElem_toArray, List.getElem_cons_zero, List.getElem_cons_succ, Act.put, List.setIfInBounds_toArray, List.set_cons_zero, List.set_cons_succ]
      refine AllReadyH.cons rfl (fun KK hK => ?_) AllReadyH.nil
      go_simp
      refine (CR1.out _ T0.out).mono ?_
      rintro e wc ⟨rfl, h, hg⟩
      have T1 := hid_into h
      have N1 := hid_into (N0.out.keep (hg.block wb N0.out.lt (fun hf => by have := hf.2; have := HZB.out; omega)))
      have S1 := HSk.out wc N1.out
      dsimp only
      refine hK.out _ _ (by exact S1) (fun _ => ?_)
      clear hK KK h hg
      refine wpAnyH_take (i := 5) (v := .bool true) rfl (by kernel_rfl) (by kernel_rfl) (by kernel_rfl) (fun _ _ _ h => h) (Or.inl ⟨by kernel_rfl, by intro V _; go_simp⟩) S1 ?_
      refine wpAnyH_take (i := 6) (v := .bool true) rfl (by kernel_rfl) (by kernel_rfl) (by kernel_rfl) (fun _ _ _ h => h) (Or.inl ⟨by kernel_rfl, by intro V _; go_simp⟩) S1 ?_
      refine wpAnyH_take (i := 7) (v := .bool true) rfl (by kernel_rfl) (by kernel_rfl) (by kernel_rfl) (fun _ _ _ h => h) (Or.inl ⟨by kernel_rfl, by intro V _; go_simp⟩) S1 ?_
      simp only [List.getElem_toArray, List.getElem_cons_zero, List.getElem_cons_succ, Act.put, List.setIfInBounds_toArray, List.set_cons_zero, List.set_cons_succ]
      refine wpAnyH_take (i := 8) (v := .pointer (some ⟨X.sb, 0, none⟩)) rfl (by kernel_rfl) (by kernel_rfl) (by kernel_rfl) (fun _ _ _ h => h) (Or.inl ⟨by kernel_rfl, by intro V _; go_simp⟩) S1 ?_
      refine wpAnyH_take (i := 9) (v := .int .i64 (i : Int)) rfl (by kernel_rfl) (by kernel_rfl) (by kernel_rfl) (fun _ _ _ h => h) (Or.inl ⟨by kernel_rfl, by intro V _; go_simp⟩) S1 ?_
      refine wpAnyH_ready (rs := [10]) (by kernel_rfl) (by simp) ?_
      try simp only [List.getElem_toArray, List.getElem_cons_zero, List.getElem_cons_succ, Act.put, List.setIfInBounds_toArray, List.set_cons_zero, List.set_cons_succ]
      refine AllReadyH.cons rfl (fun KK hK => ?_) AllReadyH.nil
      go_simp
      refine (CR2.out _ T1.out).mono ?_
      rintro e wd ⟨rfl, h, hg⟩
      have T2 := hid_into h
      have N2 := hid_into (N1.out.keep (hg.block wb N1.out.lt (fun hf => by have := hf.2; have := HZB.out; omega)))
      have S2 := HSk.out wd N2.out
      dsimp only
      refine hK.out _ _ (by exact S2) (fun _ => ?_)
      clear hK KK h hg
      refine wpAnyH_take (i := 11) (v := .bool true) rfl (by kernel_rfl) (by kernel_rfl) (by kernel_rfl) (fun _ _ _ h => h) (Or.inl ⟨by kernel_rfl, by intro V _; go_simp⟩) S2 ?_
      refine wpAnyH_take (i := 12) (v := .bool true) rfl (by kernel_rfl) (by kernel_rfl) (by kernel_rfl) (fun _ _ _ h => h) (Or.inl ⟨by kernel_rfl, by intro V _; go_simp⟩) S2 ?_
      refine wpAnyH_take (i := 13) (v := .bool true) rfl (by kernel_rfl) (by kernel_rfl) (by kernel_rfl) (fun _ _ _ h => h) (Or.inl ⟨by kernel_rfl, by intro V _; go_simp⟩) S2 ?_
      simp only [List.getElem_toArray, List.getElem_cons_zero, List.getElem_cons_succ, Act.put, List.setIfInBounds_toArray, List.set_cons_zero, List.set_cons_succ]
      refine wpAnyH_take (i := 14) (v := .pointer (some ⟨wb, 18, none⟩)) rfl (by kernel_rfl) (by kernel_rfl) (by kernel_rfl) (fun _ _ _ h => h) (Or.inl ⟨by kernel_rfl, by intro V _; go_simp⟩) S2 ?_
      refine wpAnyH_take (i := 15) (v := .bool true) rfl (by kernel_rfl) (by kernel_rfl) (by kernel_rfl) (fun _ _ _ h => h) (Or.inl ⟨by kernel_rfl, by intro V hV; obtain ⟨_, y0, y1, y2⟩ := hV; go_simp⟩) S2 ?_
      refine wpAnyH_take (i := 16) (v := .bool true) rfl (by kernel_rfl) (by kernel_rfl) (by kernel_rfl) (fun _ _ _ h => h) (Or.inl ⟨by kernel_rfl, by intro V _; go_simp⟩) S2 ?_
      refine wpAnyH_take (i := 17) (v := .bool true) rfl (by kernel_rfl) (by kernel_rfl) (by kernel_rfl) (fun _ _ _ h => h) (Or.inl ⟨by kernel_rfl, by intro V _; go_simp⟩) S2 ?_
      simp only [List.getElem_toArray, List.getElem_cons_zero, List.getElem_cons_succ, Act.put, List.setIfInBounds_toArray, List.set_cons_zero, List.set_cons_succ]
      refine wpAnyH_take (i := 18) (v := .pointer (some ⟨wb, 0, none⟩)) rfl (by kernel_rfl) (by kernel_rfl) (by kernel_rfl) (fun _ _ _ h => h) (Or.inl ⟨by kernel_rfl, by intro V _; go_simp⟩) S2 ?_
      refine wpAnyH_take (i := 19) (v := .int .i64 (i : Int)) rfl (by kernel_rfl) (by kernel_rfl) (by kernel_rfl) (fun _ _ _ h => h) (Or.inl ⟨by kernel_rfl, by intro V hV; obtain ⟨_, y0, y1, y2⟩ := hV; go_simp⟩) S2 ?_
      refine wpAnyH_take (i := 20) (v := .int .i64 (i : Int)) rfl (by kernel_rfl) (by kernel_rfl) (by kernel_rfl) (fun _ _ _ h => h) (Or.inl ⟨by kernel_rfl, by intro V _; go_simp⟩) S2 ?_
      refine wpAnyH_take (i := 21) (v := .bool true) rfl (by kernel_rfl) (by kernel_rfl) (by kernel_rfl) (fun _ _ _ h => h) (Or.inl ⟨by kernel_rfl, by intro V _; go_simp⟩) S2 ?_
      refine wpAnyH_take (i := 22) (v := .bool true) rfl (by kernel_rfl) (by kernel_rfl) (by kernel_rfl) (fun _ _ _ h => h) (Or.inl ⟨by kernel_rfl, by intro V _; go_simp⟩) S2 ?_
      refine wpAnyH_take (i := 23) (v := .bool true) rfl (by kernel_rfl) (by kernel_rfl) (by kernel_rfl) (fun _ _ _ h => h) (Or.inl ⟨by kernel_rfl, by intro V _; go_simp⟩) S2 ?_
      simp only [List.getElem_toArray, List.getElem_cons_zero, List.getElem_cons_succ, Act.put, List.setIfInBounds_toArray, List.set_cons_zero, List.set_cons_succ]
      refine wpAnyH_take (i := 24) (v := .agg cs.toArray) rfl (by kernel_rfl) (by kernel_rfl) (by kernel_rfl) (fun _ _ _ h => h) (yieldsIf_load_mid (by kernel_rfl) 44 (.tmp 12) rfl wb 0 (by kernel_rfl) cs _ (fun V h => h.1) Tryz.underlying44 rfl HNs.out) S2 ?_
      refine wpAnyH_take (i := 25) (v := .pointer (some ⟨X.sb, 0, none⟩)) rfl (by kernel_rfl) (by kernel_rfl) (by kernel_rfl) (fun _ _ _ h => h) (Or.inl ⟨by kernel_rfl, by intro V _; go_simp⟩) S2 ?_
      refine wpAnyH_ready (rs := [26]) (by kernel_rfl) (by simp) ?_
      try simp only [List.getElem_toArray, List.getElem_cons_zero, List.getElem_cons_succ, Act.put, List.setIfInBounds_toArray, List.set_cons_zero, List.set_cons_succ]
      refine AllReadyH.cons rfl (fun KK hK => ?_) AllReadyH.nil
      go_simp
      refine (CW.out _ T2.out).mono ?_
      rintro e we ⟨rfl, h, hg⟩
      have T3 := hid_into h
      have N3 := hid_into (N2.out.below hg N2.out.lt)
      have S3 := HSk.out we N3.out
      dsimp only
      refine hK.out _ _ (by exact S3) (fun _ => ?_)
      clear hK KK h hg
      refine wpAnyH_take (i := 27) (v := .bool true) rfl (by kernel_rfl) (by kernel_rfl) (by kernel_rfl) (fun _ _ _ h => h) (yieldsIf_eql28 (by kernel_rfl) (.tmp 88) (.tmp 90) rfl cs cs true HEq (by kernel_rfl) (by kernel_rfl)) S3 ?_
      refine wpAnyH_take (i := 28) (v := .bool true) rfl (by kernel_rfl) (by kernel_rfl) (by kernel_rfl) (fun _ _ _ h => h) (Or.inl ⟨by kernel_rfl, by intro V _; go_simp⟩) S3 ?_
      refine wpAnyH_take (i := 29) (v := .bool true) rfl (by kernel_rfl) (by kernel_rfl) (by kernel_rfl) (fun _ _ _ h => h) (Or.inl ⟨by kernel_rfl, by intro V _; go_simp⟩) S3 ?_
      simp only [List.getElem_toArray, List.getElem_cons_zero, List.getElem_cons_succ, Act.put, List.setIfInBounds_toArray, List.set_cons_zero, List.set_cons_succ]
      refine wpAnyH_take (i := 30) (v := .pointer (some ⟨wb, 1, none⟩)) rfl (by kernel_rfl) (by kernel_rfl) (by kernel_rfl) (fun _ _ _ h => h) (Or.inl ⟨by kernel_rfl, by intro V _; go_simp⟩) S3 ?_
      refine wpAnyH_take (i := 31) (v := .pointer (some ⟨wb, 2, none⟩)) rfl (by kernel_rfl) (by kernel_rfl) (by kernel_rfl) (fun _ _ _ h => h) (Or.inl ⟨by kernel_rfl, by intro V _; go_simp⟩) S3 ?_
      refine wpAnyH_take (i := 32) (v := .int .i32 y) rfl (by kernel_rfl) (by kernel_rfl) (by kernel_rfl) (fun _ _ _ h => h) (Or.inl ⟨by kernel_rfl, by intro V hV; obtain ⟨_, y0, y1, y2⟩ := hV; go_simp⟩) S3 ?_
      refine wpAnyH_take (i := 33) (v := .int .i64 (i : Int)) rfl (by kernel_rfl) (by kernel_rfl) (by kernel_rfl) (fun _ _ _ h => h) (Or.inl ⟨by kernel_rfl, by intro V _; go_simp⟩) S3 ?_
      refine wpAnyH_take (i := 34) (v := .int .i32 (i : Int)) rfl (by kernel_rfl) (by kernel_rfl) (by kernel_rfl) (fun _ _ _ h => h) (Or.inl ⟨by kernel_rfl, by intro V _; go_simp⟩) S3 ?_
      refine wpAnyH_take (i := 35) (v := .int .u16 v) rfl (by kernel_rfl) (by kernel_rfl) (by kernel_rfl) (fun _ _ _ h => h) (Or.inl ⟨by kernel_rfl, by intro V _; go_simp⟩) S3 ?_
      refine wpAnyH_take (i := 36) (v := .int .i32 v) rfl (by kernel_rfl) (by kernel_rfl) (by kernel_rfl) (fun _ _ _ h => h) (Or.inl ⟨by kernel_rfl, by intro V _; go_simp⟩) S3 ?_
      refine wpAnyH_take (i := 37) (v := .int .i32 y) rfl (by kernel_rfl) (by kernel_rfl) (by kernel_rfl) (fun _ _ _ h => h) (Or.inl ⟨by kernel_rfl, by intro V _; go_simp⟩) S3 ?_
      refine wpAnyH_take (i := 38) (v := .bool true) rfl (by kernel_rfl) (by kernel_rfl) (by kernel_rfl) (fun _ _ _ h => h) (Or.inl ⟨by kernel_rfl, by intro V _; go_simp⟩) S3 ?_
      refine wpAnyH_take (i := 39) (v := .bool true) rfl (by kernel_rfl) (by kernel_rfl) (by kernel_rfl) (fun _ _ _ h => h) (Or.inl ⟨by kernel_rfl, by intro V _; go_simp⟩) S3 ?_
      refine wpAnyH_take (i := 40) (v := .bool true) rfl (by kernel_rfl) (by kernel_rfl) (by kernel_rfl) (fun _ _ _ h => h) (Or.inl ⟨by kernel_rfl, by intro V _; go_simp⟩) S3 ?_
      simp only [List.getElem_toArray, List.getElem_cons_zero, List.getElem_cons_succ, Act.put, List.setIfInBounds_toArray, List.set_cons_zero, List.set_cons_succ]
      refine wpAnyH_ready (rs := [41]) (by kernel_rfl) (by simp) ?_
      try simp only [List.getElem_toArray, List.getElem_cons_zero, List.getElem_cons_succ, Act.put, List.setIfInBounds_toArray, List.set_cons_zero, List.set_cons_succ]
      refine AllReadyH.cons rfl (fun KK hK => ?_) AllReadyH.nil
      go_simp
      refine (CK.out _).mono ?_
      rintro e wf ⟨rfl, hg⟩
      have N4 := hid_into (N3.out.below hg N3.out.lt)
      have B4 := hid_into (T3.out.x.b.trans (hg.mono T3.out.x.b.size))
      have S4 := HSk.out wf N4.out
      dsimp only
      refine hK.out _ _ (by exact S4) (fun _ => ?_)
      clear hK KK hg
      refine wpAnyH_take (i := 42) (v := .bool true) rfl (by kernel_rfl) (by kernel_rfl) (by kernel_rfl) (fun _ _ _ h => h) (Or.inl ⟨by kernel_rfl, by intro V _; go_simp⟩) S4 ?_
      refine wpAnyH_take (i := 43) (v := .bool true) rfl (by kernel_rfl) (by kernel_rfl) (by kernel_rfl) (fun _ _ _ h => h) (Or.inl ⟨by kernel_rfl, by intro V _; go_simp⟩) S4 ?_
      simp only [List.getElem_toArray, List.getElem_cons_zero, List.getElem_cons_succ, Act.put, List.setIfInBounds_toArray, List.set_cons_zero, List.set_cons_succ]
      refine wpAnyH_done (by kernel_rfl) ?_ _
      go_wp2_with fail
      go_ret
      exact ⟨rfl, B4.out⟩
end Go.Proofs.YtbfldcieibdapabGreat
