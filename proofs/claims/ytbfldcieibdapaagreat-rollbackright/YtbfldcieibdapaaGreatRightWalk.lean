/-
  RollbackRight's own walk.
-/
import Derived.Test.YtbfldcieibdapaaGreatM22
import Derived.Deep.DeepCutAuto
namespace Go.Proofs.YtbfldcieibdapaaGreat
open Go.RowKit
theorem heldI_id {x : Int} (h : In32 x) : heldI x = x := by
  unfold In32 at h
  unfold heldI
  split
  · omega
  · split <;> omega
/-- One who does the same always. -/
structure Sm1 (s : Sa) (v : Int) : Prop where
  me : s.me = 0
  a0 : In.at0 s.h 0 = (v, true)
  all : ∀ k, (In.at0 s.h k).2 = true → (In.at0 s.h k).1 = v
theorem Sm1.gv {s : Sa} {v : Int} (h : Sm1 s v) : ∀ k, gv s.h (k + 1) = v
  | 0 => by unfold Go.Proofs.YtbfldcieibdapaaGreat.gv; rw [h.a0, if_pos rfl]
  | k + 1 => by
    unfold Go.Proofs.YtbfldcieibdapaaGreat.gv
    split
    · exact h.all _ ‹_›
    · exact h.gv k
theorem Sm1.Y {s : Sa} {v : Int} (h : Sm1 s v) (hv : 0 ≤ v ∧ v < 65536) : ∀ k : Nat, k ≤ 100 → adY s k = (k : Int) * v
  | 0, _ => by simp [adY]
  | k + 1, hk => by
    have hu : (s.use k).2 = v := by unfold Sa.use Sa.r1; rw [if_pos h.me]; exact h.gv k
    have e : adY s (k + 1) = heldI (adY s k + (s.use k).2) := rfl
    have h1 : ((k + 1 : Nat) : Int) * v = (k : Int) * v + v := by rw [Int.natCast_add, Int.add_mul]; simp
    have h2 : (k : Int) * v ≤ 100 * 65535 := Int.mul_le_mul (by omega) (by omega) hv.1 (by decide)
    have h3 : 0 ≤ (k : Int) * v := Int.mul_nonneg (by omega) hv.1
    rw [e, h.Y hv k (by omega), hu, h1, heldI_id]
    unfold In32
    omega
/-- A session in which all is guessed right. -/
def Rt (w W : World) (lo hi : Nat) (X : Sx) (v : Int) (p q : Nat) : Prop := ∃ s, Lx w W lo hi X (adG 100) s ∧ Nv 100 s p q ∧ Sm1 s v ∧ s.st = (p : Int) ∧ s.wr = 0
section
variable {w W W' : World} {lo hi : Nat} {X : Sx} {v : Int} {p q : Nat}
theorem Rt.loc (h : Rt w W lo hi X v p q) (hp : p < 100) (hw : p < min p q + 8) : Calls Tryz.prog 13 #[.pointer (some ⟨X.sb, 0, none⟩), .int .u16 1] W fun e w' => e = .returned (.tuple #[.int .i64 (p : Int), .int .i64 0]) ∧ Rt w w' lo hi X v (p + 1) q := by
  obtain ⟨s, h1, h2, h3, h4, h5⟩ := h
  obtain ⟨e1, e2, e3⟩ := h2.loc_ok (x := 1) (by decide) (by decide) (by omega) hw (by decide)
  have g := h1.Local ⟨by rw [h4]; omega, by rw [h4]; omega⟩ (x := 1) (by decide)
  rw [e1, e2] at g
  exact g.mono (by rintro e w' ⟨rfl, k⟩; exact ⟨rfl, _, k, e3, ⟨h3.me, h3.a0, h3.all⟩, by show s.st + 1 = _; rw [h4]; rfl, by show s.wr + 0 = 0; omega⟩)
theorem Rt.rem (h : Rt w W lo hi X v p q) (hv : 0 ≤ v ∧ v < 65536) (hp : p ≤ 100) (hq : q < 100) (h0 : 0 < q) (hw : q ≤ min p q + 24) : Calls Tryz.prog 15 #[.pointer (some ⟨X.sb, 0, none⟩), .int .i64 (q : Int), .int .u16 v] W fun e w' => e = .returned (.int .i64 0) ∧ Rt w w' lo hi X v p (q + 1) := by
  obtain ⟨s, h1, h2, h3, h4, h5⟩ := h
  obtain ⟨e1, ⟨d, e, e2, _, _, _, _, hz, _⟩, e3⟩ := h2.rem_ok (x := v) (by decide) (by omega) hw hv
  obtain ⟨rfl, rfl⟩ := hz (h3.gv q)
  rw [Sa.work_zero] at e2
  have g := h1.Remote ⟨by rw [h4]; omega, by rw [h4]; omega⟩ ⟨by omega, by omega⟩ (f := (q : Int)) (x := v) ⟨by omega, by omega⟩ hv
  rw [e1, e2] at g
  have hm : q < s.h.length := by have := h2.ok.fit.hl; have e : (adG 100).cap = 100 := rfl; omega
  refine g.mono ?_
  rintro e w' ⟨rfl, k⟩
  refine ⟨rfl, _, k, e3, ⟨h3.me, ?_, fun j hj => ?_⟩, h4, h5⟩
  · show In.at0 (s.h.set q (v, true)) 0 = (v, true)
    rw [In.at0_set hm, if_neg (by omega)]; exact h3.a0
  · have hj' : (In.at0 (s.h.set q (v, true)) j).2 = true := hj
    show (In.at0 (s.h.set q (v, true)) j).1 = v
    rw [In.at0_set hm] at hj' ⊢
    by_cases c : j = q
    · rw [if_pos c]
    · rw [if_neg c] at hj' ⊢; exact h3.all j hj'
theorem Rt_first (h : Lx w W lo hi X (adG 100) (newS 0 100)) (hv : 0 ≤ v ∧ v < 65536) : Calls Tryz.prog 15 #[.pointer (some ⟨X.sb, 0, none⟩), .int .i64 0, .int .u16 v] W fun e w' => e = .returned (.int .i64 0) ∧ Rt w w' lo hi X v 0 1 := by
  have h2 := newS_nv (limit := 100) (me := 0) (by decide) (by decide) (Or.inl rfl)
  obtain ⟨e1, ⟨d, e, e2, _, _, _, _, _, hz⟩, e3⟩ := h2.rem_ok (x := v) (by decide) (by decide) (by decide) hv
  obtain ⟨rfl, rfl⟩ := hz (Nat.le_refl _)
  rw [Sa.work_zero] at e2
  have g := h.Remote ⟨by decide, by decide⟩ ⟨by decide, by decide⟩ (f := ((0 : Nat) : Int)) (x := v) ⟨by decide, by decide⟩ hv
  rw [e1, e2] at g
  have hl : (newS 0 100).h.length = 100 := by decide
  refine g.mono ?_
  rintro e w' ⟨rfl, k⟩
  refine ⟨rfl, _, k, e3, ⟨rfl, ?_, fun j hj => ?_⟩, rfl, rfl⟩
  · show In.at0 ((newS 0 100).h.set 0 (v, true)) 0 = (v, true)
    rw [In.at0_set (by rw [hl]; decide), if_pos rfl]
  · have hj' : (In.at0 ((newS 0 100).h.set 0 (v, true)) j).2 = true := hj
    show (In.at0 ((newS 0 100).h.set 0 (v, true)) j).1 = v
    rw [In.at0_set (by rw [hl]; decide)] at hj' ⊢
    by_cases c : j = 0
    · rw [if_pos c]
    · rw [if_neg c] at hj'
      have : In.at0 (newS 0 100).h j = (0, false) := In.zeros_at _ _
      rw [this] at hj'
      cases hj'
theorem Rt.work (h : Rt w W lo hi X v p q) : Calls Tryz.prog 17 #[.pointer (some ⟨X.sb, 0, none⟩)] W fun e w' => e = .returned (.tuple #[.int .i64 (p : Int), .int .i64 0]) ∧ Rt w w' lo hi X v p q := by
  obtain ⟨s, h1, h2, h3, h4, h5⟩ := h
  have g := h1.Work
  rw [h4, h5] at g
  exact g.mono (by rintro e w' ⟨rfl, k⟩; exact ⟨rfl, s, k, h2, h3, h4, h5⟩)
theorem Rt.now (h : Rt w W lo hi X v p q) (hv : 0 ≤ v ∧ v < 65536) : Calls Tryz.prog 18 #[.pointer (some ⟨X.sb, 0, none⟩)] W fun e w' => (∃ cs ds : List Value, e = .returned (.agg cs.toArray) ∧ (∀ V : World, (Instr.field 48 (.agg cs.toArray) 1).run Tryz.prog V = .ok (.agg ds.toArray) V) ∧ ∀ V : World, (Instr.index 46 (.agg ds.toArray) (.int .i64 1)).run Tryz.prog V = .ok (.int .i32 ((p : Int) * v)) V) ∧ Below w.heap.size w w' := by
  obtain ⟨s, h1, h2, h3, h4, h5⟩ := h
  have hp := h2.ple
  refine h1.Now.mono ?_
  rintro e w' ⟨rfl, k⟩
  refine ⟨⟨_, _, rfl, (fieldS h1.se.nowGs.wf).2.2, fun V => ?_⟩, k.b⟩
  have := index16 _ h1.se.nowGs.wf.cells 1 (by decide) V
  have e : (s.now (adG 100)).cells.getD 1 0 = (p : Int) * v := by
    rw [h2.now (by decide)]
    exact h3.Y hv p (by omega)
  rw [e] at this
  exact this
end
set_option maxRecDepth 20000 in
set_option maxHeartbeats 4000000 in
theorem right_walk (n v late : Int) (w : World) (hv : 0 ≤ v ∧ v < 65536) : Calls Tryz.prog 6 #[.int .i64 n, .int .u16 v, .int .i64 late] w fun e w' => e = .returned (.bool true) ∧ Below w.heap.size w w' := by
  have CK := hid_into known_any
  by_cases h1 : n < 1
  · go_enter Tryz.func6, Tryz.ntmps6
    go_wp2_with (go_at_call 12; refine (CK.out _).mono ?_; rintro e w1 ⟨rfl, B1⟩)
    go_ret
    exact ⟨rfl, B1⟩
  by_cases h2 : 60 < n
  · go_enter Tryz.func6, Tryz.ntmps6
    go_wp2_with (go_at_call 12; refine (CK.out _).mono ?_; rintro e w1 ⟨rfl, B1⟩)
    go_ret
    exact ⟨rfl, B1⟩
  by_cases h3 : late < 0
  · go_enter Tryz.func6, Tryz.ntmps6
    go_wp2_with (go_at_call 12; refine (CK.out _).mono ?_; rintro e w1 ⟨rfl, B1⟩)
    go_ret
    exact ⟨rfl, B1⟩
  by_cases h4 : 7 < late
  · go_enter Tryz.func6, Tryz.ntmps6
    go_wp2_with (go_at_call 12; refine (CK.out _).mono ?_; rintro e w1 ⟨rfl, B1⟩)
    go_ret
    exact ⟨rfl, B1⟩
  obtain ⟨N, rfl⟩ : ∃ N : Nat, n = (N : Int) := ⟨n.toNat, by omega⟩
  obtain ⟨D, rfl⟩ : ∃ D : Nat, late = (D : Int) := ⟨late.toNat, by omega⟩
  have hN : N ≤ 60 := by omega
  have hD : D ≤ 7 := by omega
  have CA : Hid (∀ W, Calls Tryz.prog 26 #[.int .i64 100] W fun e w' => ∃ g, e = .returned (.agg #[.slice (some ⟨g, 0, none⟩) 8 8, .int .i64 100, .int .i64 20]) ∧ Ls w' (.slice (some ⟨g, 0, none⟩) 8 8) acode ∧ Below W.heap.size W w') := fun W => adder_any 100 W
  have CN : Hid (∀ W g, Below w.heap.size w W → Ls W (.slice (some ⟨g, 0, none⟩) 8 8) acode → Calls Tryz.prog 10 #[.agg #[.slice (some ⟨g, 0, none⟩) 8 8, .int .i64 100, .int .i64 20], .int .u32 1, .int .i64 0] W fun e w' => ∃ X hi, e = .returned (.tuple #[.pointer (some ⟨X.sb, 0, none⟩), .int .i64 0]) ∧ Lx w w' W.heap.size hi X (adG 100) (newS 0 100)) := fun W g hb hl => (ad_new w W hb g 100 0 (by decide) (by decide) hl (Or.inl rfl)).mono (by rintro e w' ⟨X, hi, rfl, k, _⟩; exact ⟨X, hi, rfl, k⟩)
  have CF : Hid (∀ W lo hi X, Lx w W lo hi X (adG 100) (newS 0 100) → Calls Tryz.prog 15 #[.pointer (some ⟨X.sb, 0, none⟩), .int .i64 0, .int .u16 v] W fun e w' => e = .returned (.int .i64 0) ∧ Rt w w' lo hi X v 0 1) := fun W lo hi X h => Rt_first h hv
  have CL : Hid (∀ W lo hi X (p q : Nat), p < 100 → p < min p q + 8 → Rt w W lo hi X v p q → Calls Tryz.prog 13 #[.pointer (some ⟨X.sb, 0, none⟩), .int .u16 1] W fun e w' => e = .returned (.tuple #[.int .i64 (p : Int), .int .i64 0]) ∧ Rt w w' lo hi X v (p + 1) q) := fun W lo hi X p q hp hw h => h.loc hp hw
  have CR : Hid (∀ W lo hi X (p q : Nat), p ≤ 100 → q < 100 → 0 < q → q ≤ min p q + 24 → Rt w W lo hi X v p q → Calls Tryz.prog 15 #[.pointer (some ⟨X.sb, 0, none⟩), .int .i64 (q : Int), .int .u16 v] W fun e w' => e = .returned (.int .i64 0) ∧ Rt w w' lo hi X v p (q + 1)) := fun W lo hi X p q hp hq h0 hw h => h.rem hv hp hq h0 hw
  have CW : Hid (∀ W lo hi X (p q : Nat), Rt w W lo hi X v p q → Calls Tryz.prog 17 #[.pointer (some ⟨X.sb, 0, none⟩)] W fun e w' => e = .returned (.tuple #[.int .i64 (p : Int), .int .i64 0]) ∧ Rt w w' lo hi X v p q) := fun W lo hi X p q h => h.work
  have CO : Hid (∀ W lo hi X (p q : Nat), Rt w W lo hi X v p q → Calls Tryz.prog 18 #[.pointer (some ⟨X.sb, 0, none⟩)] W fun e w' => (∃ cs ds : List Value, e = .returned (.agg cs.toArray) ∧ (∀ V : World, (Instr.field 48 (.agg cs.toArray) 1).run Tryz.prog V = .ok (.agg ds.toArray) V) ∧ ∀ V : World, (Instr.index 46 (.agg ds.toArray) (.int .i64 1)).run Tryz.prog V = .ok (.int .i32 ((p : Int) * v)) V) ∧ Below w.heap.size w w') := fun W lo hi X p q h => h.now hv
  have hN1 : ¬ (N : Int) < 1 := h1
  have HN := hid_into hN
  have HD := hid_into hD
  have hD7 : (D : Int) ≤ 7 := by omega
  have hN60 : (N : Int) ≤ 60 := by omega
  clear hN hD
  go_enter Tryz.func6, Tryz.ntmps6
  go_wp2_with (first
    | (go_at_call 26; refine (CA.out _).mono ?_; rintro e w1 ⟨g1, rfl, hL1, B1⟩; have HL1 := hid_into hL1; have HB1 := hid_into B1; clear B1 hL1)
    | (go_at_call 10; refine (CN.out _ _ HB1.out HL1.out).mono ?_; rintro e w2 ⟨X, hi, rfl, h2⟩; have H0 := hid_into h2; clear h2)
    | (go_at_call 15; refine (CF.out _ _ _ _ H0.out).mono ?_; rintro e w3 ⟨rfl, h3⟩; have H1 := hid_into h3; clear h3))
  go_loopw [9, 10] (fun ut ui wr => ∃ i t : Nat, i ≤ N ∧ ui = .int .i64 (i : Int) ∧ ut = .int .i64 (t : Int) ∧ Hid (t = max 1 (i - D) ∧ Rt w wr w1.heap.size hi X v i t)) (fun _ ui _ => N - (intOf ui).toNat)
  case atStart => exact ⟨0, 1, Nat.zero_le _, rfl, rfl, by omega, H1.out⟩
  case round =>
    obtain ⟨i, t, hiN, rfl, rfl, HA⟩ := hrel
    by_cases hi2 : i < N
    · have hi2' : (i : Int) < (N : Int) := by omega
      have hi60 : (i : Int) ≤ 60 := by omega
      have C := hid_into (CL.out wr _ _ X i t (by have := HN.out; omega) (by have := HA.out.1; have := HD.out; have := HN.out; omega) HA.out.2)
      have HT := hid_into HA.out.1
      clear CL CW CO CF CA CN H0 H1 HA
      go_wp2_with (go_at_call 13; refine C.out.mono ?_; rintro e w4 ⟨rfl, h4⟩; have H4 := hid_into h4; clear h4)
      go_loopw [9] (fun ut wr => ∃ q : Nat, t ≤ q ∧ q ≤ max t (i + 1 - D) ∧ ut = .int .i64 (q : Int) ∧ Hid (Rt w wr w1.heap.size hi X v (i + 1) q)) (fun ut _ => max t (i + 1 - D) - (intOf ut).toNat)
      case atStart => exact ⟨t, Nat.le_refl _, by omega, rfl, H4.out⟩
      case round =>
        obtain ⟨q, hq1, hq2, rfl, HQ⟩ := hrel
        have hq60 : (q : Int) ≤ 61 := by have := HT.out; have := HN.out; omega
        by_cases hq3 : q < i + 1 - D
        · have hq3' : (q : Int) < (i : Int) + 1 - (D : Int) := by omega
          have C2 := hid_into (CR.out wr _ _ X (i + 1) q (by have := HN.out; omega) (by have := HN.out; omega) (by have := HT.out; omega) (by omega) HQ.out)
          clear CR C HQ
          go_wp2_with (go_at_call 15; refine C2.out.mono ?_; rintro e w5 ⟨rfl, h5⟩; have H5 := hid_into h5; clear h5)
          go_roundw
          case rel => exact ⟨q + 1, by omega, by omega, by simp, H5.out⟩
          case measure => simp [intOf]; omega
        · have hq3' : ¬ (q : Int) < (i : Int) + 1 - (D : Int) := by omega
          clear CR C
          go_wp2_with fail
          go_roundw
          case rel => exact ⟨i + 1, q, by omega, by simp, rfl, by have := HT.out; omega, HQ.out⟩
          case measure => simp [intOf]; omega
    · have hi2' : ¬ (i : Int) < (N : Int) := by omega
      obtain rfl : i = N := by omega
      have H6 := hid_into HA.out.2
      have hx : IntKind.i32.wrap ((i : Int)) = (i : Int) := by simp [IntKind.wrap, IntKind.bits, IntKind.signed]; omega
      have hy : IntKind.i32.wrap v = v := by simp [IntKind.wrap, IntKind.bits, IntKind.signed]; omega
      have m1 : (i : Int) * v ≤ 60 * 65535 := Int.mul_le_mul (by omega) (by omega) hv.1 (by decide)
      have m2 : 0 ≤ (i : Int) * v := Int.mul_nonneg (by omega) hv.1
      have hz : IntKind.i32.wrap ((i : Int) * v) = (i : Int) * v := by simp [IntKind.wrap, IntKind.bits, IntKind.signed]; omega
      clear CL CR CF CA CN H0 H1 HA m1 m2
      go_wp2_with (first
        | (go_at_call 17; refine (CW.out _ _ _ _ _ _ H6.out).mono ?_; rintro e w7 ⟨rfl, h7⟩; have H7 := hid_into h7; clear h7)
        | (go_at_call 18; refine (CO.out _ _ _ _ _ _ H7.out).mono ?_; rintro e w8 ⟨⟨cs, ds, rfl, fs, fi⟩, h8⟩; have H8 := hid_into h8; clear h8)
        | (go_at_call 12; refine (CK.out _).mono ?_; rintro e w9 ⟨rfl, h9⟩))
      go_ret
      exact ⟨rfl, H8.out.trans (h9.mono H8.out.size)⟩
end Go.Proofs.YtbfldcieibdapaaGreat
