/-
  Joined from: RbNew, RbKnown, RbAdder.
-/
import Derived.Test.YtbfldcieibdapabGreatM20
section
/-
  New: a session is made.
-/
namespace Go.Proofs.YtbfldcieibdapabGreat
open Go.RowKit
theorem eql22 (a : Addr) (n cap : Nat) (w : World) : (binOp BinOp.eql 22 (.slice (some a) n cap) (.slice none 0 0)).run Tryz.prog w = .ok (.bool false) w := by kernel_rfl
theorem Lo.made {w : World} {base g : Nat} (hg : w.heap[g]? = some (.cells #[] 66)) (hb : base ≤ g) : Lo w base (.slice (some ⟨g, 0, none⟩) 0 0) [] :=
  ⟨rfl, Or.inr ⟨g, 0, #[], rfl, hb, hg, Nat.le_refl _, by unfold maxLen; omega, rfl, rfl⟩⟩
theorem eql22n (w : World) : (binOp BinOp.eql 22 (.slice none 0 0) (.slice none 0 0)).run Tryz.prog w = .ok (.bool true) w := by kernel_rfl
set_option maxRecDepth 20000 in
set_option maxHeartbeats 2000000 in
theorem Clone_any (w : World) (cv : Value) (l : List Ii) (h : Ls w cv l) (hlen : l.length ≤ 1000) : Calls Tryz.prog 23 #[cv] w fun e w' => ∃ v, e = .returned v ∧ Lo w' w.heap.size v l ∧ Below w.heap.size w w' := by
  obtain ⟨ao, cap, rfl, hmx⟩ := h.len
  cases ao with
  | none =>
    have he : l = [] ∧ cap = 0 := by
      rcases h with ⟨e, ao, c, h1, h2, h3⟩ | ⟨_, g, off, c, h1, _⟩
      · simp only [Value.slice.injEq] at h1
        exact ⟨e, by rw [h1.2.2]; exact h3 h1.1.symm⟩
      · simp at h1
    obtain ⟨rfl, rfl⟩ := he
    have q := eql22n
    clear h hlen hmx
    rw [List.length_nil]
    go_enter Tryz.func23, Tryz.ntmps23
    go_wp2_with fail
    go_ret
    exact ⟨_, rfl, Lo.nil _ _, Below.refl _ _⟩
  | some a =>
    have HL := hid_into h
    have q := eql22 a l.length cap
    clear h
    generalize HLn : l.length = n at *
    go_enter Tryz.func23, Tryz.ntmps23
    go_wp2_with (at_builtin; refine wpList_append_ls _ rfl (.tmp 5) (.tmp 6) rfl w.heap.size (.slice (some ⟨w.heap.size, 0, none⟩) 0 0) [] rfl ?_ (.slice (some a) n cap) l rfl ?_ ?_ ?_ ?_; exact Lo.made (heap_alloc_new w _) (Nat.le_refl _); exact HL.out.below ((Below.refl _ _).alloc (Nat.le_refl _) _); (simp; omega); (rw [World.size_alloc]; omega); intro ao3 cap3 W3 hO3 hG3 _)
    go_ret
    simp only [List.length_nil, Nat.zero_add, List.nil_append, HLn] at hO3
    refine ⟨_, rfl, hO3, ?_⟩
    have b0 : Below w.heap.size w (w.alloc (.cells #[] 66)) := (Below.refl _ _).alloc (Nat.le_refl _) _
    exact b0.trans (Grows.below (Grows.grownBy (F := fun k => k = w.heap.size) hG3 fun k hk => by simpa [Value.ownBlock] using hk.symm) (by rw [World.size_alloc]; omega) (fun k hk => by omega))
/-- A session just made. -/
def newS (me : Int) (cap : Int) : Sa := ⟨me, In.zeros cap.toNat, In.zeros cap.toNat, 0, 0⟩
theorem kn_zeros (n : Nat) : In.kn (In.zeros n) = 0 := In.kn_of (Nat.zero_le _) (fun j hj => absurd hj (Nat.not_lt_zero _)) (fun _ => by rw [In.zeros_at])
theorem newS_P (me cap : Int) : (newS me cap).P = 0 := kn_zeros _
theorem newS_fit {G : Gm} (hG : G.Ok) {me : Int} (hm : me = 0 ∨ me = 1) : (newS me G.cap).Fit G := by
  have hc := (chkG_cap hG.c).2.1
  have hz : ∀ x ∈ In.zeros G.cap.toNat, 0 ≤ x.1 ∧ x.1 < 65536 := fun x hx => by rw [List.eq_of_mem_replicate hx]; decide
  have hl : ((In.zeros G.cap.toNat).length : Int) = G.cap := by rw [In.zeros_len]; omega
  exact ⟨hm, hl, hl, hz, hz, fun k _ => by show (In.at0 (In.zeros G.cap.toNat) k).2 = false; rw [In.zeros_at]⟩
theorem newS_ok {G : Gm} (hG : G.Ok) {me : Int} (hm : me = 0 ∨ me = 1) : (newS me G.cap).Ok G := by
  have hf := newS_fit hG hm
  refine ⟨hf, ?_⟩
  have := (hf.gs hG (newS me G.cap).B).f0
  rw [newS_P]
  show (((0 : Nat)) : Int) ≤ ((newS me G.cap).at G (newS me G.cap).B).frame + 8
  omega
theorem newS_ring {G : Gm} (hG : G.Ok) {me : Int} (hm : me = 0 ∨ me = 1) : Ring (newS me G.cap) G 0 [startS G.seed] := by
  have hf := newS_fit hG hm
  refine ⟨⟨0, by unfold Sa.now; rw [newS_P]; rfl, rfl, Nat.le_refl _, (by show 0 < 0 + 1; decide), fun i t hi _ => ?_⟩, (hf.gs hG _).f0⟩
  have : i = 0 := by
    have := (List.getElem?_eq_some_iff.1 hi).1
    simp at this
    exact this
  subst this
  simp at hi
  rw [← hi]
  rfl
theorem start_put (seed : Int) (hs : 0 ≤ seed ∧ seed < 4294967296) : Rn.putE 0 [] (startS seed) = 0 ∧ Rn.putA 16 0 [] (startS seed) = 0 ∧ Rn.putL 16 0 [] (startS seed) = [startS seed] ∧ Rn.Gs (startS seed) := by
  have hg := startS_gs seed 600 hs (by decide)
  have hi := isS_gs hg (Int.le_refl _)
  have he : Rn.putE 0 [] (startS seed) = 0 := by unfold Rn.putE; rw [if_neg]; rintro (c | ⟨c, _⟩); rw [hi] at c; cases c; exact c rfl
  have hx : Rn.putX 0 [] (startS seed) = [startS seed] := rfl
  refine ⟨he, ?_, ?_, hg.wf, by show -9223372036854775808 ≤ (0 : Int); decide, by show (0 : Int) ≤ 9223372036854775807; decide⟩
  · unfold Rn.putA; rw [if_pos he, hx, if_neg (by show ¬ 16 < 1; decide)]; rfl
  · unfold Rn.putL; rw [if_pos he, hx, if_neg (by show ¬ 16 < 1; decide)]
set_option maxRecDepth 20000 in
set_option maxHeartbeats 2000000 in
theorem New_no (w : World) (cv : Value) (l : List Ii) (cap fuel seed me : Int) (hl : Ls w cv l) (hc : chkG l cap fuel ≠ 0) : Calls Tryz.prog 8 #[gameV cv cap fuel, .int .u32 seed, .int .i64 me] w fun e w' => e = .returned (.tuple #[.pointer none, .int .i64 (chkG l cap fuel)]) ∧ Below w.heap.size w w' := by
  obtain ⟨ao, cp, rfl, hm⟩ := hl.len
  have b0 : Below w.heap.size w (w.alloc (.cells #[.slice ao l.length cp, .int .i64 cap, .int .i64 fuel] 24)) := (Below.refl _ _).alloc (Nat.le_refl _) _
  have CK := hid_into (Check_any _ l cap fuel _ (hl.below b0))
  generalize chkG l cap fuel = e2 at *
  have e0' : (e2 == 0) = false := by simp [hc]
  have HB0 := hid_into b0
  clear hl b0 hm
  unfold gameV at *
  go_enter Tryz.func8, Tryz.ntmps8
  go_wp2_with (go_at_call 18; refine CK.out.mono ?_; rintro e w1 ⟨rfl, B1⟩)
  go_ret2
  exact ⟨rfl, HB0.out.trans (B1.mono HB0.out.size)⟩
set_option maxRecDepth 20000 in
set_option maxHeartbeats 2000000 in
theorem New_me (w : World) (cv : Value) (l : List Ii) (cap fuel seed me : Int) (hl : Ls w cv l) (hc : chkG l cap fuel = 0) (h0 : ¬ me = 0) (h1 : ¬ me = 1) : Calls Tryz.prog 8 #[gameV cv cap fuel, .int .u32 seed, .int .i64 me] w fun e w' => e = .returned (.tuple #[.pointer none, .int .i64 1]) ∧ Below w.heap.size w w' := by
  obtain ⟨ao, cp, rfl, hm⟩ := hl.len
  have b0 : Below w.heap.size w (w.alloc (.cells #[.slice ao l.length cp, .int .i64 cap, .int .i64 fuel] 24)) := (Below.refl _ _).alloc (Nat.le_refl _) _
  have CK := hid_into (Check_any _ l cap fuel _ (hl.below b0))
  rw [hc] at CK
  have h0' : (me != 0) = true := by simp [h0]
  have h1' : (me != 1) = true := by simp [h1]
  have HB0 := hid_into b0
  clear hl b0 hm hc
  unfold gameV at *
  go_enter Tryz.func8, Tryz.ntmps8
  go_wp2_with (go_at_call 18; refine CK.out.mono ?_; rintro e w1 ⟨rfl, B1⟩)
  go_ret2
  exact ⟨rfl, HB0.out.trans (B1.mono HB0.out.size)⟩
theorem size24 : (Tryz.prog.info? 24).map (·.size) = some 3 := by kernel_rfl
theorem built83 (ao : Option Addr) (n c : Nat) (cap fuel me : Int) (q r : Addr) : Tryz.prog.built 68 [(0, .agg #[.slice ao n c, .int .i64 cap, .int .i64 fuel]), (1, .int .i64 me), (2, .pointer (some q)), (3, .pointer (some r))] = some [.slice ao n c, .int .i64 cap, .int .i64 fuel, .int .i64 me, .pointer (some q), .pointer (some r), .int .i64 0, .int .i64 0].toArray := by kernel_rfl
/-- How the parts of a new session come to lie. -/
theorem new5 {w w1 w2 w3 w4 w5 : World} {cs : List Value} (K1 : Cw w1 w.heap.size cs 24) (B1 : Below w.heap.size w w1) (B2 : Below w1.heap.size w1 w2) (z2 : w2.heap.size = w1.heap.size + 3) (B3 : Below w2.heap.size w2 w3) (z3 : w3.heap.size = w2.heap.size + 2) (B4 : Below w3.heap.size w3 w4) (g5 : Grows (fun k => k = w2.heap.size + 1 ∨ k = w2.heap.size) w4 w5) : Cw w5 w.heap.size cs 24 ∧ Below w.heap.size w w5 ∧ (∀ k, k < w2.heap.size → w5.heap[k]? = w2.heap[k]?) ∧ w2.heap.size + 2 ≤ w5.heap.size := by
  have h1 := B1.size
  have h4 := B4.size
  have h5 := g5.size
  have hk : ∀ k, k < w2.heap.size → w5.heap[k]? = w2.heap[k]? := fun k hk => by
    rw [g5.block k (by omega) (by omega), B4.block k (by omega), B3.block k hk]
  have hlt := K1.lt
  refine ⟨K1.keep (by rw [hk _ (by omega), B2.block _ hlt]), ?_, hk, by omega⟩
  refine ⟨?_, ?_, ?_, by omega, fun k hk' => by rw [hk k (by omega), B2.block k (by omega), B1.block k hk']⟩
  · rw [g5.os, B4.os, B3.os, B2.os, B1.os]
  · rw [g5.tape, B4.tape, B3.tape, B2.tape, B1.tape]
  · rw [g5.output, B4.output, B3.output, B2.output, B1.output]
set_option maxRecDepth 20000 in
set_option maxHeartbeats 4000000 in
theorem New_any (w : World) (cv : Value) (G : Gm) (me : Int) (hl : Ls w cv G.l) (hG : G.Ok) (hm : me = 0 ∨ me = 1) : Calls Tryz.prog 8 #[gameV cv G.cap G.fuel, .int .u32 G.seed, .int .i64 me] w fun e w' => ∃ X, e = .returned (.tuple #[.pointer (some ⟨X.sb, 0, none⟩), .int .i64 0]) ∧ Se w' w.heap.size w'.heap.size X G (newS me G.cap) ∧ Below w.heap.size w w' := by
  obtain ⟨ao, cp, rfl, hmx⟩ := hl.len
  have b0 : Below w.heap.size w (w.alloc (.cells #[.slice ao G.l.length cp, .int .i64 G.cap, .int .i64 G.fuel] 24)) := (Below.refl _ _).alloc (Nat.le_refl _) _
  have HK0 : Hid (Cw (w.alloc (.cells #[.slice ao G.l.length cp, .int .i64 G.cap, .int .i64 G.fuel] 24)) w.heap.size [.slice ao G.l.length cp, .int .i64 G.cap, .int .i64 G.fuel] 24) := Cw.new w [.slice ao G.l.length cp, .int .i64 G.cap, .int .i64 G.fuel] 24
  have CK := hid_into (Check_any _ G.l G.cap G.fuel _ (hl.below b0))
  rw [hG.c] at CK
  have hcap := chkG_cap hG.c
  have hlen : G.l.length ≤ 256 := by
    have := startS_gs G.seed G.cap hG.s hcap.2.1
    exact (stepE_ok (this.stepE hG.c rfl)).1.len
  obtain ⟨n, hn⟩ : ∃ n : Nat, G.cap = (n : Int) := ⟨G.cap.toNat, by omega⟩
  obtain ⟨p1, p2, p3, p4⟩ := start_put G.seed hG.s
  have CQ : Hid (∀ W, Calls Tryz.prog 19 #[.int .i64 G.cap] W fun e w' => ∃ qb g0 g1, e = .returned (.tuple #[.pointer (some ⟨qb, 0, none⟩), .int .i64 0]) ∧ In.Qp w' W.heap.size (W.heap.size + 3) qb g0 g1 (newS me G.cap).r0 (newS me G.cap).r1 ∧ Below W.heap.size W w' ∧ w'.heap.size = W.heap.size + 3) := fun W => by
    have e0 : (newS me G.cap).r0 = In.zeros n := by unfold Sa.r0 newS; rw [hn]; simp
    have e1 : (newS me G.cap).r1 = In.zeros n := by unfold Sa.r1 newS; rw [hn]; simp
    rw [e0, e1, hn]
    exact In.new_any W n (by omega) (by omega)
  have CR : Hid (∀ W, Calls Tryz.prog 20 #[.int .i64 16] W fun e w' => e = .returned (.tuple #[.pointer (some ⟨W.heap.size + 1, 0, none⟩), .int .i64 0]) ∧ Rn.Rg w' (W.heap.size + 1) W.heap.size 16 0 [] ∧ Below W.heap.size W w' ∧ w'.heap.size = W.heap.size + 2) := fun W => Rn.new_any W 16 (by decide) (by decide)
  have CT : Hid (∀ W, Calls Tryz.prog 22 #[.int .u32 G.seed] W fun e w' => e = .returned (.agg (stV (startS G.seed)).toArray) ∧ Below W.heap.size W w') := fun W => Start_any G.seed W
  have CP : Hid (∀ W rb pb, Rn.Rg W rb pb 16 0 [] → Calls Tryz.prog 21 #[.pointer (some ⟨rb, 0, none⟩), .agg (stV (startS G.seed)).toArray] W fun e w' => e = .returned (.int .i64 0) ∧ Rn.Rg w' rb pb 16 0 [startS G.seed] ∧ Grows (fun k => k = rb ∨ k = pb) W w') := fun W rb pb hW => by
    have g := Rn.put_any hW (startS G.seed) p4
    rw [p1] at g
    refine g.mono ?_
    rintro e w' ⟨rfl, g1, g2⟩
    rw [p2, p3] at g1
    exact ⟨rfl, g1, g2⟩
  have CC : Hid (∀ W, Ls W (.slice ao G.l.length cp) G.l → Calls Tryz.prog 23 #[.slice ao G.l.length cp] W fun e w' => ∃ av cx, e = .returned (.slice av G.l.length cx) ∧ Lo w' W.heap.size (.slice av G.l.length cx) G.l ∧ Below W.heap.size W w') := fun W hW => (Clone_any W _ _ hW (by omega)).mono (by
    rintro e w' ⟨v, rfl, h2, h3⟩
    obtain ⟨av, cx, rfl⟩ := h2.form
    exact ⟨av, cx, rfl, h2, h3⟩)
  have H24 : Hid ((Tryz.prog.info? 24).map (·.size) = some 3) := size24
  have HL := hid_into hl
  have HG := hid_into hG
  have HB0 := hid_into b0
  have HZ0 : Hid ((w.alloc (.cells #[.slice ao G.l.length cp, .int .i64 G.cap, .int .i64 G.fuel] 24)).heap.size = w.heap.size + 1) := World.size_alloc _ _
  clear p1 p2 p3 p4 hn hlen hcap b0 hl hG hmx
  generalize stV (startS G.seed) = ts at *
  unfold gameV at *
  rcases hm with rfl | rfl
  · go_enter Tryz.func8, Tryz.ntmps8
    go_wp2_with (first
      | (go_at_call 18; refine CK.out.mono ?_; rintro e w1 ⟨rfl, B1⟩; have K1 := hid_into (HK0.out.below B1 HK0.out.lt); have HB1 := hid_into (HB0.out.trans (B1.mono HB0.out.size)); have c1 := (K1.out.cell 1).trans rfl; clear B1)
      | (go_at_call 19; refine (CQ.out _).mono ?_; rintro e w2 ⟨qb, g0, g1, rfl, q2, B2, z2⟩; have Q2 := hid_into q2; have HB2 := hid_into B2; have Z2 := hid_into z2; clear q2 B2 z2)
      | (go_at_call 20; refine (CR.out _).mono ?_; rintro e w3 ⟨rfl, r3, B3, z3⟩; have R3 := hid_into r3; have HB3 := hid_into B3; have Z3 := hid_into z3; clear r3 B3 z3)
      | (go_at_call 22; refine (CT.out _).mono ?_; rintro e w4 ⟨rfl, B4⟩; have R4 := hid_into (R3.out.below B4 (Nat.le_refl _)); have HB4 := hid_into B4; clear B4)
      | (go_at_call 21; refine (CP.out _ _ _ R4.out).mono ?_; rintro e w5 ⟨rfl, r5, g5⟩; have R5 := hid_into r5; obtain ⟨k5, b5, f5, z5⟩ := new5 K1.out HB1.out HB2.out Z2.out HB3.out Z3.out HB4.out g5; have K5 := hid_into k5; have B5 := hid_into b5; have F5 := hid_into f5; have Z5 := hid_into z5; have c0 := (K5.out.cell 0).trans rfl; clear r5 g5 k5 b5 f5 z5)
      | (go_at_call 23; refine (CC.out _ (HL.out.keep fun k _ hk => B5.out.block k hk)).mono ?_; rintro e w6 ⟨av, cx, rfl, o6, b6⟩; have O6 := hid_into o6; have B6 := hid_into b6; have K6 := hid_into (K5.out.below b6 K5.out.lt); have d0 := (K6.out.cell 0).trans rfl; have z0 := K6.out.frozen 0; have K7 : Hid (Cw (w6.setCell ⟨w.heap.size, 0, none⟩ (.slice av G.l.length cx)) w.heap.size [.slice av G.l.length cx, .int .i64 G.cap, .int .i64 G.fuel] 24) := hid_into (K6.out.set 0 (.slice av G.l.length cx)); clear o6 b6 c0 c1)
      | (refine wpList_load_rw rfl 24 (.tmp 3) rfl w.heap.size [.slice av G.l.length cx, .int .i64 G.cap, .int .i64 G.fuel] 24 _ rfl ?_ Tryz.underlying24 rfl H24 ?_; exact K7.out)
      | (refine wpList_build_row rfl 68 #[(0, .tmp 47), (1, .tmp 48), (2, .tmp 49), (3, .tmp 50)] rfl [.slice av G.l.length cx, .int .i64 G.cap, .int .i64 G.fuel, .int .i64 0, .pointer (some ⟨qb, 0, none⟩), .pointer (some ⟨w2.heap.size + 1, 0, none⟩), .int .i64 0, .int .i64 0] _ rfl ?_ ?_; exact built83 _ _ _ _ _ _ _ _))
    go_ret2
    have o7 := Only.set w.heap.size 0 w6 (.slice av G.l.length cx)
    have s7 := o7.size
    have hc8 := Cw.new (w6.setCell ⟨w.heap.size, 0, none⟩ (.slice av G.l.length cx)) [.slice av G.l.length cx, .int .i64 G.cap, .int .i64 G.fuel, .int .i64 0, .pointer (some ⟨qb, 0, none⟩), .pointer (some ⟨w2.heap.size + 1, 0, none⟩), .int .i64 0, .int .i64 0] 68
    have B8 : Below (w6.setCell ⟨w.heap.size, 0, none⟩ (.slice av G.l.length cx)).heap.size (w6.setCell ⟨w.heap.size, 0, none⟩ (.slice av G.l.length cx)) ((w6.setCell ⟨w.heap.size, 0, none⟩ (.slice av G.l.length cx)).alloc (.cells [Value.slice av G.l.length cx, .int .i64 G.cap, .int .i64 G.fuel, .int .i64 0, .pointer (some ⟨qb, 0, none⟩), .pointer (some ⟨w2.heap.size + 1, 0, none⟩), .int .i64 0, .int .i64 0].toArray 68)) := (Below.refl _ _).alloc (Nat.le_refl _) _
    have hz8 := World.size_alloc (w6.setCell ⟨w.heap.size, 0, none⟩ (.slice av G.l.length cx)) (.cells [Value.slice av G.l.length cx, .int .i64 G.cap, .int .i64 G.fuel, .int .i64 0, .pointer (some ⟨qb, 0, none⟩), .pointer (some ⟨w2.heap.size + 1, 0, none⟩), .int .i64 0, .int .i64 0].toArray 68)
    generalize ((w6.setCell ⟨w.heap.size, 0, none⟩ (.slice av G.l.length cx)).alloc (.cells [Value.slice av G.l.length cx, .int .i64 G.cap, .int .i64 G.fuel, .int .i64 0, .pointer (some ⟨qb, 0, none⟩), .pointer (some ⟨w2.heap.size + 1, 0, none⟩), .int .i64 0, .int .i64 0].toArray 68)) = W8 at *
    have b6 := B6.out
    have z6 := b6.size
    have hz5 := Z5.out
    have hb1 := HB1.out.size
    have hz2 := Z2.out
    have hlt := K1.out.lt
    have f8 : ∀ k, k < w6.heap.size → k ≠ w.heap.size → W8.heap[k]? = w6.heap[k]? := fun k h1 h2 => by rw [B8.block k (by omega), o7.block k h2]
    have f2 : ∀ k, k < w2.heap.size → k ≠ w.heap.size → W8.heap[k]? = w2.heap[k]? := fun k h1 h2 => by rw [f8 k (by omega) h2, b6.block k (by omega), F5.out k h1]
    have hown := O6.out.lt
    refine ⟨⟨w6.heap.size, qb, w1.heap.size, w1.heap.size + 3, g0, g1, w2.heap.size + 1, w2.heap.size, .slice av G.l.length cx⟩, ?_, ⟨⟨0, [startS G.seed], ⟨?_, ?_, ?_, ?_, ?_, Nat.le_refl _⟩, newS_ring HG.out (Or.inl rfl)⟩, newS_ok HG.out (Or.inl rfl), HG.out⟩, ?_⟩
    · rfl
    · rw [s7] at hc8
      exact hc8
    · exact Q2.out.keep fun k h1 h2 => f2 k (by omega) (by omega)
    · exact R5.out.keep (by rw [f8 _ (by omega) (by omega), b6.block _ (by omega)]) (by rw [f8 _ (by omega) (by omega), b6.block _ (by omega)])
    · exact O6.out.ls.keep fun k hk _ => f8 k (hown k hk).2 (by have := (hown k hk).1; omega)
    · exact ⟨by show w.heap.size ≤ w6.heap.size ∧ w6.heap.size < W8.heap.size; omega, by show w.heap.size ≤ w1.heap.size ∧ w1.heap.size + 3 ≤ W8.heap.size; omega, by show w.heap.size ≤ w2.heap.size + 1 ∧ w2.heap.size + 1 < W8.heap.size; omega, by show w.heap.size ≤ w2.heap.size ∧ w2.heap.size < W8.heap.size; omega, fun k hk => (by have := hown k hk; omega), by show w6.heap.size < w1.heap.size ∨ w1.heap.size + 3 ≤ w6.heap.size; omega, by show w2.heap.size + 1 < w1.heap.size ∨ w1.heap.size + 3 ≤ w2.heap.size + 1; omega, by show w2.heap.size < w1.heap.size ∨ w1.heap.size + 3 ≤ w2.heap.size; omega, by show w6.heap.size ≠ w2.heap.size + 1; omega, by show w6.heap.size ≠ w2.heap.size; omega, fun k hk => (by have := hown k hk; show k ≠ w6.heap.size ∧ k ≠ w2.heap.size + 1 ∧ k ≠ w2.heap.size ∧ (k < w1.heap.size ∨ w1.heap.size + 3 ≤ k); omega)⟩
    · exact ((B5.out.trans (b6.mono B5.out.size)).trans (o7.below (Nat.le_refl _))).trans (B8.mono (by omega))
  · go_enter Tryz.func8, Tryz.ntmps8
    go_wp2_with (first
      | (go_at_call 18; refine CK.out.mono ?_; rintro e w1 ⟨rfl, B1⟩; have K1 := hid_into (HK0.out.below B1 HK0.out.lt); have HB1 := hid_into (HB0.out.trans (B1.mono HB0.out.size)); have c1 := (K1.out.cell 1).trans rfl; clear B1)
      | (go_at_call 19; refine (CQ.out _).mono ?_; rintro e w2 ⟨qb, g0, g1, rfl, q2, B2, z2⟩; have Q2 := hid_into q2; have HB2 := hid_into B2; have Z2 := hid_into z2; clear q2 B2 z2)
      | (go_at_call 20; refine (CR.out _).mono ?_; rintro e w3 ⟨rfl, r3, B3, z3⟩; have R3 := hid_into r3; have HB3 := hid_into B3; have Z3 := hid_into z3; clear r3 B3 z3)
      | (go_at_call 22; refine (CT.out _).mono ?_; rintro e w4 ⟨rfl, B4⟩; have R4 := hid_into (R3.out.below B4 (Nat.le_refl _)); have HB4 := hid_into B4; clear B4)
      | (go_at_call 21; refine (CP.out _ _ _ R4.out).mono ?_; rintro e w5 ⟨rfl, r5, g5⟩; have R5 := hid_into r5; obtain ⟨k5, b5, f5, z5⟩ := new5 K1.out HB1.out HB2.out Z2.out HB3.out Z3.out HB4.out g5; have K5 := hid_into k5; have B5 := hid_into b5; have F5 := hid_into f5; have Z5 := hid_into z5; have c0 := (K5.out.cell 0).trans rfl; clear r5 g5 k5 b5 f5 z5)
      | (go_at_call 23; refine (CC.out _ (HL.out.keep fun k _ hk => B5.out.block k hk)).mono ?_; rintro e w6 ⟨av, cx, rfl, o6, b6⟩; have O6 := hid_into o6; have B6 := hid_into b6; have K6 := hid_into (K5.out.below b6 K5.out.lt); have d0 := (K6.out.cell 0).trans rfl; have z0 := K6.out.frozen 0; have K7 : Hid (Cw (w6.setCell ⟨w.heap.size, 0, none⟩ (.slice av G.l.length cx)) w.heap.size [.slice av G.l.length cx, .int .i64 G.cap, .int .i64 G.fuel] 24) := hid_into (K6.out.set 0 (.slice av G.l.length cx)); clear o6 b6 c0 c1)
      | (refine wpList_load_rw rfl 24 (.tmp 3) rfl w.heap.size [.slice av G.l.length cx, .int .i64 G.cap, .int .i64 G.fuel] 24 _ rfl ?_ Tryz.underlying24 rfl H24 ?_; exact K7.out)
      | (refine wpList_build_row rfl 68 #[(0, .tmp 47), (1, .tmp 48), (2, .tmp 49), (3, .tmp 50)] rfl [.slice av G.l.length cx, .int .i64 G.cap, .int .i64 G.fuel, .int .i64 1, .pointer (some ⟨qb, 0, none⟩), .pointer (some ⟨w2.heap.size + 1, 0, none⟩), .int .i64 0, .int .i64 0] _ rfl ?_ ?_; exact built83 _ _ _ _ _ _ _ _))
    go_ret2
    have o7 := Only.set w.heap.size 0 w6 (.slice av G.l.length cx)
    have s7 := o7.size
    have hc8 := Cw.new (w6.setCell ⟨w.heap.size, 0, none⟩ (.slice av G.l.length cx)) [.slice av G.l.length cx, .int .i64 G.cap, .int .i64 G.fuel, .int .i64 1, .pointer (some ⟨qb, 0, none⟩), .pointer (some ⟨w2.heap.size + 1, 0, none⟩), .int .i64 0, .int .i64 0] 68
    have B8 : Below (w6.setCell ⟨w.heap.size, 0, none⟩ (.slice av G.l.length cx)).heap.size (w6.setCell ⟨w.heap.size, 0, none⟩ (.slice av G.l.length cx)) ((w6.setCell ⟨w.heap.size, 0, none⟩ (.slice av G.l.length cx)).alloc (.cells [Value.slice av G.l.length cx, .int .i64 G.cap, .int .i64 G.fuel, .int .i64 1, .pointer (some ⟨qb, 0, none⟩), .pointer (some ⟨w2.heap.size + 1, 0, none⟩), .int .i64 0, .int .i64 0].toArray 68)) := (Below.refl _ _).alloc (Nat.le_refl _) _
    have hz8 := World.size_alloc (w6.setCell ⟨w.heap.size, 0, none⟩ (.slice av G.l.length cx)) (.cells [Value.slice av G.l.length cx, .int .i64 G.cap, .int .i64 G.fuel, .int .i64 1, .pointer (some ⟨qb, 0, none⟩), .pointer (some ⟨w2.heap.size + 1, 0, none⟩), .int .i64 0, .int .i64 0].toArray 68)
    generalize ((w6.setCell ⟨w.heap.size, 0, none⟩ (.slice av G.l.length cx)).alloc (.cells [Value.slice av G.l.length cx, .int .i64 G.cap, .int .i64 G.fuel, .int .i64 1, .pointer (some ⟨qb, 0, none⟩), .pointer (some ⟨w2.heap.size + 1, 0, none⟩), .int .i64 0, .int .i64 0].toArray 68)) = W8 at *
    have b6 := B6.out
    have z6 := b6.size
    have hz5 := Z5.out
    have hb1 := HB1.out.size
    have hz2 := Z2.out
    have hlt := K1.out.lt
    have f8 : ∀ k, k < w6.heap.size → k ≠ w.heap.size → W8.heap[k]? = w6.heap[k]? := fun k h1 h2 => by rw [B8.block k (by omega), o7.block k h2]
    have f2 : ∀ k, k < w2.heap.size → k ≠ w.heap.size → W8.heap[k]? = w2.heap[k]? := fun k h1 h2 => by rw [f8 k (by omega) h2, b6.block k (by omega), F5.out k h1]
    have hown := O6.out.lt
    refine ⟨⟨w6.heap.size, qb, w1.heap.size, w1.heap.size + 3, g0, g1, w2.heap.size + 1, w2.heap.size, .slice av G.l.length cx⟩, ?_, ⟨⟨0, [startS G.seed], ⟨?_, ?_, ?_, ?_, ?_, Nat.le_refl _⟩, newS_ring HG.out (Or.inr rfl)⟩, newS_ok HG.out (Or.inr rfl), HG.out⟩, ?_⟩
    · rfl
    · rw [s7] at hc8
      exact hc8
    · exact Q2.out.keep fun k h1 h2 => f2 k (by omega) (by omega)
    · exact R5.out.keep (by rw [f8 _ (by omega) (by omega), b6.block _ (by omega)]) (by rw [f8 _ (by omega) (by omega), b6.block _ (by omega)])
    · exact O6.out.ls.keep fun k hk _ => f8 k (hown k hk).2 (by have := (hown k hk).1; omega)
    · exact ⟨by show w.heap.size ≤ w6.heap.size ∧ w6.heap.size < W8.heap.size; omega, by show w.heap.size ≤ w1.heap.size ∧ w1.heap.size + 3 ≤ W8.heap.size; omega, by show w.heap.size ≤ w2.heap.size + 1 ∧ w2.heap.size + 1 < W8.heap.size; omega, by show w.heap.size ≤ w2.heap.size ∧ w2.heap.size < W8.heap.size; omega, fun k hk => (by have := hown k hk; omega), by show w6.heap.size < w1.heap.size ∨ w1.heap.size + 3 ≤ w6.heap.size; omega, by show w2.heap.size + 1 < w1.heap.size ∨ w1.heap.size + 3 ≤ w2.heap.size + 1; omega, by show w2.heap.size < w1.heap.size ∨ w1.heap.size + 3 ≤ w2.heap.size; omega, by show w6.heap.size ≠ w2.heap.size + 1; omega, by show w6.heap.size ≠ w2.heap.size; omega, fun k hk => (by have := hown k hk; show k ≠ w6.heap.size ∧ k ≠ w2.heap.size + 1 ∧ k ≠ w2.heap.size ∧ (k < w1.heap.size ∨ w1.heap.size + 3 ≤ k); omega)⟩
    · exact ((B5.out.trans (b6.mono B5.out.size)).trans (o7.below (Nat.le_refl _))).trans (B8.mono (by omega))
end Go.Proofs.YtbfldcieibdapabGreat
end

section
/-
  adder and known of the laws.
-/
namespace Go.Proofs.YtbfldcieibdapabGreat
open Go.RowKit
/-- A session of the law's own. -/
structure Lx (w W : World) (lo hi : Nat) (X : Sx) (G : Gm) (s : Sa) : Prop where
  se : Se W lo hi X G s
  b : Below w.heap.size w W
  lo : w.heap.size ≤ lo
section
variable {w W W' : World} {lo hi : Nat} {X : Sx} {G : Gm} {s t : Sa}
theorem Lx.next (h : Lx w W lo hi X G s) (hb : Below W.heap.size W W') : Lx w W' lo hi X G s := ⟨h.se.below hb, h.b.trans (hb.mono h.b.size), h.lo⟩
theorem Lx.sm (h : Lx w W lo hi X G s) (hb : Sm W W') : Lx w W' lo hi X G s := h.next (hb.below _)
theorem Lx.grow (h : Lx w W lo hi X G s) (hs : Se W' lo hi X G t) (hg : Grows (In2 lo hi) W W') : Lx w W' lo hi X G t := ⟨hs, h.b.trans (hg.below h.b.size fun _ hk => Nat.le_trans h.lo hk.1), h.lo⟩
theorem Lx.Local (h : Lx w W lo hi X G s) (hst : 0 ≤ s.st ∧ s.st < 4611686018427300000) {x : Int} (hx : 0 ≤ x ∧ x < 65536) : Calls Tryz.prog 9 #[.pointer (some ⟨X.sb, 0, none⟩), .int .u16 x] W fun e w' => e = .returned (.tuple #[.int .i64 (locA s G).1, .int .i64 (locA s G).2]) ∧ Lx w w' lo hi X G (locS s G x) := (h.se.Local hst hx).mono (by rintro e w' ⟨rfl, h1, h2⟩; exact ⟨rfl, h.grow h1 h2⟩)
theorem Lx.Remote (h : Lx w W lo hi X G s) (hst : 0 ≤ s.st ∧ s.st < 4611686018427300000) (hwr : 0 ≤ s.wr ∧ s.wr < 4611686018427300000) {f x : Int} (hf : -9223372036854775808 ≤ f ∧ f ≤ 9223372036854775807) (hx : 0 ≤ x ∧ x < 65536) : Calls Tryz.prog 10 #[.pointer (some ⟨X.sb, 0, none⟩), .int .i64 f, .int .u16 x] W fun e w' => e = .returned (.int .i64 (remA s G f x)) ∧ Lx w w' lo hi X G (remS s G f x) := (h.se.Remote hst hwr hf hx).mono (by rintro e w' ⟨rfl, h1, h2⟩; exact ⟨rfl, h.grow h1 h2⟩)
theorem Lx.Now (h : Lx w W lo hi X G s) : Calls Tryz.prog 12 #[.pointer (some ⟨X.sb, 0, none⟩)] W fun e w' => e = .returned (.agg (stV (s.now G)).toArray) ∧ Lx w w' lo hi X G s := h.se.Now.mono (by rintro e w' ⟨rfl, h1⟩; exact ⟨rfl, h.next h1⟩)
theorem Lx.Sure (h : Lx w W lo hi X G s) : Calls Tryz.prog 13 #[.pointer (some ⟨X.sb, 0, none⟩)] W fun e w' => e = .returned (.agg (stV (s.sure G)).toArray) ∧ Lx w w' lo hi X G s := h.se.Sure.mono (by rintro e w' ⟨rfl, h1⟩; exact ⟨rfl, h.next h1⟩)
theorem Lx.Work (h : Lx w W lo hi X G s) : Calls Tryz.prog 17 #[.pointer (some ⟨X.sb, 0, none⟩)] W fun e w' => e = .returned (.tuple #[.int .i64 s.st, .int .i64 s.wr]) ∧ Lx w w' lo hi X G s := h.se.Work.mono (by rintro e w' ⟨rfl, h1⟩; exact ⟨rfl, h.sm h1⟩)
theorem Lx.Needs (h : Lx w W lo hi X G s) : Calls Tryz.prog 14 #[.pointer (some ⟨X.sb, 0, none⟩)] W fun e w' => e = .returned (.int .i64 (In.kn s.h : Int)) ∧ Lx w w' lo hi X G s := h.se.Needs.mono (by rintro e w' ⟨rfl, h1⟩; exact ⟨rfl, h.sm h1⟩)
end
/-- A session that a law makes. -/
theorem Lx_new (w W : World) (hb : Below w.heap.size w W) (cv : Value) (G : Gm) (me : Int) (hl : Ls W cv G.l) (hG : G.Ok) (hm : me = 0 ∨ me = 1) : Calls Tryz.prog 8 #[gameV cv G.cap G.fuel, .int .u32 G.seed, .int .i64 me] W fun e w' => ∃ X hi, e = .returned (.tuple #[.pointer (some ⟨X.sb, 0, none⟩), .int .i64 0]) ∧ Lx w w' W.heap.size hi X G (newS me G.cap) ∧ Below W.heap.size W w' :=
  (New_any W cv G me hl hG hm).mono (by rintro e w' ⟨X, rfl, h1, h2⟩; exact ⟨X, _, rfl, ⟨h1, hb.trans (h2.mono hb.size), hb.size⟩, h2⟩)
/-- A game in which each player's cell grows by what he does. -/
def acode : List Ii := [(2, 0), (16, 0), (4, 0), (3, 0), (2, 1), (16, 1), (4, 0), (3, 1)]
theorem adder_any (limit : Int) (w : World) : Calls Tryz.prog 15 #[.int .i64 limit] w fun e w' => ∃ g, e = .returned (.agg #[.slice (some ⟨g, 0, none⟩) 8 8, .int .i64 limit, .int .i64 20]) ∧ Ls w' (.slice (some ⟨g, 0, none⟩) 8 8) acode ∧ Below w.heap.size w w' := by
  go_enter Tryz.func15, Tryz.ntmps15
  go_wp2_with fail
  have h1 : Cw ((w.alloc (.cells #[.slice (some ⟨w.heap.size + 1, 0, none⟩) 8 8, .int .i64 limit, .int .i64 20] 24)).alloc (.cells (cells2 acode).toArray 66)) w.heap.size [.slice (some ⟨w.heap.size + 1, 0, none⟩) 8 8, .int .i64 limit, .int .i64 20] 24 := (Cw.new w [.slice (some ⟨w.heap.size + 1, 0, none⟩) 8 8, .int .i64 limit, .int .i64 20] 24).alloc _
  have h2 := Cw.new (w.alloc (.cells #[.slice (some ⟨w.heap.size + 1, 0, none⟩) 8 8, .int .i64 limit, .int .i64 20] 24)) (cells2 acode) 66
  rw [World.size_alloc] at h2
  refine ret_row rfl rfl rfl h1 Tryz.underlying24 rfl (hid_into size24) ⟨w.heap.size + 1, rfl, Ls_of_block h2 (by unfold maxLen; decide), ((Below.refl w.heap.size w).alloc (Nat.le_refl _) _).alloc (by rw [World.size_alloc]; omega) _⟩
def adG (limit : Int) : Gm := ⟨acode, limit, 20, 1⟩
theorem chk_acode : chk acode = (0, 0) := by rfl
theorem adG_ok {limit : Int} (h1 : 1 ≤ limit) (h2 : limit ≤ 600) : (adG limit).Ok := by
  refine ⟨?_, by show (0 : Int) ≤ 1 ∧ (1 : Int) < 4294967296; omega⟩
  show chkG acode limit 20 = 0
  unfold chkG
  rw [chk_acode, if_neg (by simp), if_neg (by omega)]
def kS0 : Sa := newS 0 20
def kS1 : Sa := locS kS0 (adG 20) 1
def kS2 : Sa := locS kS1 (adG 20) 1
def kS3 : Sa := remS kS2 (adG 20) 0 5
def kS4 : Sa := remS kS3 (adG 20) 1 5
theorem known_plain : (kS1.st = 1 ∧ kS2.st = 2 ∧ kS2.wr = 0 ∧ kS3.st = 4 ∧ kS3.wr = 1) ∧ remA kS2 (adG 20) 0 5 = 0 ∧ remA kS3 (adG 20) 1 5 = 0 ∧ kS4.st = 4 ∧ kS4.wr = 1 ∧ (kS4.sure (adG 20)).frame = 2 ∧ (kS4.now (adG 20)).cells.getD 1 0 = 10 := by decide +kernel
theorem ad_new (w W : World) (hb : Below w.heap.size w W) (g : Nat) (limit me : Int) (h1 : 1 ≤ limit) (h2 : limit ≤ 600) (hl : Ls W (.slice (some ⟨g, 0, none⟩) 8 8) acode) (hm : me = 0 ∨ me = 1) : Calls Tryz.prog 8 #[.agg #[.slice (some ⟨g, 0, none⟩) 8 8, .int .i64 limit, .int .i64 20], .int .u32 1, .int .i64 me] W fun e w' => ∃ X hi, e = .returned (.tuple #[.pointer (some ⟨X.sb, 0, none⟩), .int .i64 0]) ∧ Lx w w' W.heap.size hi X (adG limit) (newS me limit) ∧ Below W.heap.size W w' :=
  Lx_new w W hb _ (adG limit) me hl (adG_ok h1 h2) hm
set_option maxRecDepth 20000 in
set_option maxHeartbeats 2000000 in
theorem known_any (w : World) : Calls Tryz.prog 7 #[] w fun e w' => e = .returned (.bool true) ∧ Below w.heap.size w w' := by
  obtain ⟨⟨t1, t2, t3, t4, t5⟩, a3, a4, s4, w4', f4, c4⟩ := known_plain
  have CA : Hid (∀ W, Calls Tryz.prog 15 #[.int .i64 20] W fun e w' => ∃ g, e = .returned (.agg #[.slice (some ⟨g, 0, none⟩) 8 8, .int .i64 20, .int .i64 20]) ∧ Ls w' (.slice (some ⟨g, 0, none⟩) 8 8) acode ∧ Below W.heap.size W w') := fun W => adder_any 20 W
  have CN : Hid (∀ W g, Below w.heap.size w W → Ls W (.slice (some ⟨g, 0, none⟩) 8 8) acode → Calls Tryz.prog 8 #[.agg #[.slice (some ⟨g, 0, none⟩) 8 8, .int .i64 20, .int .i64 20], .int .u32 1, .int .i64 0] W fun e w' => ∃ X hi, e = .returned (.tuple #[.pointer (some ⟨X.sb, 0, none⟩), .int .i64 0]) ∧ Lx w w' W.heap.size hi X (adG 20) kS0 ∧ Below W.heap.size W w') := fun W g hb hl => ad_new w W hb g 20 0 (by decide) (by decide) hl (Or.inl rfl)
  have C1 : Hid (∀ W lo hi X, Lx w W lo hi X (adG 20) kS0 → Calls Tryz.prog 9 #[.pointer (some ⟨X.sb, 0, none⟩), .int .u16 1] W fun e w' => ∃ x y, e = .returned (.tuple #[.int .i64 x, .int .i64 y]) ∧ Lx w w' lo hi X (adG 20) kS1) := fun W lo hi X h => (h.Local ⟨by decide, by decide⟩ ⟨by decide, by decide⟩).mono (by rintro e w' ⟨rfl, h⟩; exact ⟨_, _, rfl, h⟩)
  have C2 : Hid (∀ W lo hi X, Lx w W lo hi X (adG 20) kS1 → Calls Tryz.prog 9 #[.pointer (some ⟨X.sb, 0, none⟩), .int .u16 1] W fun e w' => ∃ x y, e = .returned (.tuple #[.int .i64 x, .int .i64 y]) ∧ Lx w w' lo hi X (adG 20) kS2) := fun W lo hi X h => (h.Local ⟨by rw [t1]; decide, by rw [t1]; decide⟩ ⟨by decide, by decide⟩).mono (by rintro e w' ⟨rfl, h⟩; exact ⟨_, _, rfl, h⟩)
  have C3 : Hid (∀ W lo hi X, Lx w W lo hi X (adG 20) kS2 → Calls Tryz.prog 10 #[.pointer (some ⟨X.sb, 0, none⟩), .int .i64 0, .int .u16 5] W fun e w' => e = .returned (.int .i64 0) ∧ Lx w w' lo hi X (adG 20) kS3) := fun W lo hi X h => by
    have g := h.Remote ⟨by rw [t2]; decide, by rw [t2]; decide⟩ ⟨by rw [t3]; decide, by rw [t3]; decide⟩ (f := 0) (x := 5) ⟨by decide, by decide⟩ ⟨by decide, by decide⟩
    rw [a3] at g
    exact g
  have C4 : Hid (∀ W lo hi X, Lx w W lo hi X (adG 20) kS3 → Calls Tryz.prog 10 #[.pointer (some ⟨X.sb, 0, none⟩), .int .i64 1, .int .u16 5] W fun e w' => e = .returned (.int .i64 0) ∧ Lx w w' lo hi X (adG 20) kS4) := fun W lo hi X h => by
    have g := h.Remote ⟨by rw [t4]; decide, by rw [t4]; decide⟩ ⟨by rw [t5]; decide, by rw [t5]; decide⟩ (f := 1) (x := 5) ⟨by decide, by decide⟩ ⟨by decide, by decide⟩
    rw [a4] at g
    exact g
  have C5 : Hid (∀ W lo hi X, Lx w W lo hi X (adG 20) kS4 → Calls Tryz.prog 17 #[.pointer (some ⟨X.sb, 0, none⟩)] W fun e w' => e = .returned (.tuple #[.int .i64 4, .int .i64 1]) ∧ Lx w w' lo hi X (adG 20) kS4) := fun W lo hi X h => by
    have g := h.Work
    rw [s4, w4'] at g
    exact g
  have C6 : Hid (∀ W lo hi X, Lx w W lo hi X (adG 20) kS4 → Calls Tryz.prog 13 #[.pointer (some ⟨X.sb, 0, none⟩)] W fun e w' => (e = .returned (.agg (stV (kS4.sure (adG 20))).toArray) ∧ ∀ V : World, (Instr.field 44 (.agg (stV (kS4.sure (adG 20))).toArray) 0).run Tryz.prog V = .ok (.int .i64 2) V) ∧ Lx w w' lo hi X (adG 20) kS4) := fun W lo hi X h => h.Sure.mono (by
    rintro e w' ⟨rfl, h2⟩
    refine ⟨⟨rfl, fun V => ?_⟩, h2⟩
    rw [(fieldS h.se.sureGs.wf).1 V, f4])
  have C7 : Hid (∀ W lo hi X, Lx w W lo hi X (adG 20) kS4 → Calls Tryz.prog 12 #[.pointer (some ⟨X.sb, 0, none⟩)] W fun e w' => (e = .returned (.agg (stV (kS4.now (adG 20))).toArray) ∧ (∀ V : World, (Instr.field 44 (.agg (stV (kS4.now (adG 20))).toArray) 1).run Tryz.prog V = .ok (.agg ((kS4.now (adG 20)).cells.map (Value.int .i32)).toArray) V) ∧ ∀ V : World, (Instr.index 42 (.agg ((kS4.now (adG 20)).cells.map (Value.int .i32)).toArray) (.int .i64 1)).run Tryz.prog V = .ok (.int .i32 10) V) ∧ Lx w w' lo hi X (adG 20) kS4) := fun W lo hi X h => h.Now.mono (by
    rintro e w' ⟨rfl, h2⟩
    refine ⟨⟨rfl, (fieldS h.se.nowGs.wf).2.2, fun V => ?_⟩, h2⟩
    have := index16 _ h.se.nowGs.wf.cells 1 (by decide) V
    rw [c4] at this
    exact this)
  clear t1 t2 t3 t4 t5 a3 a4 s4 w4' f4 c4
  generalize kS0 = k0 at *
  generalize kS1 = k1 at *
  generalize kS2 = k2 at *
  generalize kS3 = k3 at *
  generalize stV (kS4.sure (adG 20)) = ss at *
  generalize stV (kS4.now (adG 20)) = ns at *
  generalize ((kS4.now (adG 20)).cells.map (Value.int .i32)) = cc at *
  generalize kS4 = k4 at *
  generalize adG 20 = G at *
  go_enter Tryz.func7, Tryz.ntmps7
  go_wp2_with (first
    | (go_at_call 15; refine (CA.out _).mono ?_; rintro e w1 ⟨g1, rfl, hL1, B1⟩; have HL1 := hid_into hL1; have HB1 := hid_into B1; clear B1 hL1)
    | (go_at_call 8; refine (CN.out _ _ HB1.out HL1.out).mono ?_; rintro e w2 ⟨X, hi, rfl, h2, _⟩; have H0 := hid_into h2; clear h2)
    | (go_at_call 9; refine (C1.out _ _ _ _ H0.out).mono ?_; rintro e w3 ⟨x3, y3, rfl, h3⟩; have H1 := hid_into h3; clear h3 H0)
    | (go_at_call 9; refine (C2.out _ _ _ _ H1.out).mono ?_; rintro e w4 ⟨x4, y4, rfl, h4⟩; have H2 := hid_into h4; clear h4 H1)
    | (go_at_call 10; refine (C3.out _ _ _ _ H2.out).mono ?_; rintro e w5 ⟨rfl, h5⟩; have H3 := hid_into h5; clear h5 H2)
    | (go_at_call 10; refine (C4.out _ _ _ _ H3.out).mono ?_; rintro e w6 ⟨rfl, h6⟩; have H4 := hid_into h6; clear h6 H3)
    | (go_at_call 17; refine (C5.out _ _ _ _ H4.out).mono ?_; rintro e w7 ⟨rfl, h7⟩; have H5 := hid_into h7; clear h7)
    | (go_at_call 13; refine (C6.out _ _ _ _ H5.out).mono ?_; rintro e w8 ⟨⟨rfl, fs⟩, h8⟩; have H6 := hid_into h8; clear h8)
    | (go_at_call 12; refine (C7.out _ _ _ _ H6.out).mono ?_; rintro e w9 ⟨⟨rfl, fn, fi⟩, h9⟩; have H7 := hid_into h9; clear h9))
  go_ret
  exact ⟨rfl, H7.out.b⟩
end Go.Proofs.YtbfldcieibdapabGreat
end

section
/-
  The law's game in plain words: each player's cell grows by what he does. No walk.
-/
namespace Go.Proofs.YtbfldcieibdapabGreat
open Go.RowKit
def adS (limit : Int) (k : Nat) (x y : Int) : Sp := ⟨k, [x, y, 0, 0, 0, 0, 0, 0, 0, 0, 0, 0, 0, 0, 0, 0], 1, decide ((k : Int) = limit), if (k : Int) = limit then moreI x y else 0⟩
def adX (s : Sa) : Nat → Int
  | 0 => 0
  | k + 1 => heldI (adX s k + (s.use k).1)
def adY (s : Sa) : Nat → Int
  | 0 => 0
  | k + 1 => heldI (adY s k + (s.use k).2)
theorem adS_step {limit : Int} {k : Nat} {x y i0 i1 : Int} (hk : (k : Int) < limit) : stepS acode limit 20 (adS limit k x y) i0 i1 = adS limit (k + 1) (heldI (x + i0)) (heldI (y + i1)) := by
  have h1 : adS limit k x y = ⟨k, [x, y, 0, 0, 0, 0, 0, 0, 0, 0, 0, 0, 0, 0, 0, 0], 1, false, 0⟩ := by
    unfold adS
    rw [if_neg (by omega), show decide ((k : Int) = limit) = false by simp; omega]
  have h2 : stepS acode limit 20 ⟨k, [x, y, 0, 0, 0, 0, 0, 0, 0, 0, 0, 0, 0, 0, 0, 0], 1, false, 0⟩ i0 i1 = endS limit ⟨k, [heldI (x + i0), heldI (y + i1), 0, 0, 0, 0, 0, 0, 0, 0, 0, 0, 0, 0, 0, 0], 1, false, 0⟩ := rfl
  rw [h1, h2]
  unfold endS adS
  by_cases h3 : (k : Int) + 1 = limit
  · rw [if_pos ⟨h3, rfl⟩, if_pos (by omega), show decide (((k + 1 : Nat) : Int) = limit) = true by simp; omega]
    simp
  · rw [if_neg (fun e => h3 e.1), if_neg (by omega), show decide (((k + 1 : Nat) : Int) = limit) = false by simp; omega]
    simp
theorem ad_at {limit : Int} (hl : 1 ≤ limit) (s : Sa) : ∀ k : Nat, (k : Int) ≤ limit → s.at (adG limit) k = adS limit k (adX s k) (adY s k)
  | 0, _ => by
    rw [Sa.at_zero]
    unfold adS
    rw [if_neg (by simp; omega), show decide (((0 : Nat) : Int) = limit) = false by simp; omega]
    rfl
  | k + 1, h => by
    have ih := ad_at hl s k (by omega)
    have ho : (s.at (adG limit) k).over = false := by rw [ih]; show decide ((k : Int) = limit) = false; simp; omega
    rw [Sa.at_go ho, ih]
    show stepS acode limit 20 _ _ _ = _
    exact adS_step (by omega)
/-- A session of that game: p frames are done, q are told, one behind the other. -/
structure Nv (limit : Int) (s : Sa) (p q : Nat) : Prop where
  ok : s.Ok (adG limit)
  P : s.P = p
  kh : In.kn s.h = q
  free : ∀ k, q ≤ k → (In.at0 s.h k).2 = false
section
variable {limit : Int} {s : Sa} {p q : Nat}
theorem Nv.ple (h : Nv limit s p q) : (p : Int) ≤ limit := by have := h.ok.fit.P_le; rw [h.P] at this; exact this
theorem Nv.now (h : Nv limit s p q) (hl : 1 ≤ limit) : s.now (adG limit) = adS limit p (adX s p) (adY s p) := by unfold Sa.now; rw [h.P]; exact ad_at hl s p h.ple
theorem Nv.B (h : Nv limit s p q) : s.B = min p q := by unfold Sa.B; rw [h.kh]; have := h.P; unfold Sa.P at this; rw [this]
theorem Nv.sure (h : Nv limit s p q) (hl : 1 ≤ limit) : s.sure (adG limit) = adS limit (min p q) (adX s (min p q)) (adY s (min p q)) := by unfold Sa.sure; rw [h.B]; exact ad_at hl s _ (by have := h.ple; omega)
theorem adS_frame (limit : Int) (k : Nat) (x y : Int) : (adS limit k x y).frame = (k : Int) := rfl
theorem adS_over (limit : Int) (k : Nat) (x y : Int) : (adS limit k x y).over = decide ((k : Int) = limit) := rfl
theorem Nv.loc_ok (h : Nv limit s p q) (hl : 1 ≤ limit) (h6 : limit ≤ 600) (hp : (p : Int) < limit) (hw : p < min p q + 8) {x : Int} (hx : 0 ≤ x ∧ x < 65536) : locA s (adG limit) = ((p : Int), 0) ∧ locS s (adG limit) x = (s.put x).work 1 0 ∧ Nv limit ((s.put x).work 1 0) (p + 1) q := by
  have hA : locA s (adG limit) = ((p : Int), 0) := by
    unfold locA
    rw [h.now hl, h.sure hl, adS_over, adS_frame, h.P, if_neg (by simp; omega), if_neg (by omega)]
  have hS : locS s (adG limit) x = (s.put x).work 1 0 := by unfold locS; rw [hA, if_pos rfl]
  have hok := h.ok.loc (adG_ok hl h6) hx
  rw [hS] at hok
  refine ⟨hA, hS, hok, ?_, h.kh, h.free⟩
  show (s.put x).P = p + 1
  rw [Sa.put_P h.ok.fit (by rw [h.P]; exact hp) x, h.P]
theorem Nv.loc_win (h : Nv limit s p q) (hl : 1 ≤ limit) (hp : (p : Int) < limit) (hw : min p q + 8 ≤ p) (x : Int) : locA s (adG limit) = (0, 13) ∧ locS s (adG limit) x = s := by
  have hA : locA s (adG limit) = (0, 13) := by
    unfold locA
    rw [h.now hl, h.sure hl, adS_over, adS_frame, h.P, if_neg (by simp; omega), if_pos (by omega)]
  exact ⟨hA, by unfold locS; rw [hA]; rfl⟩
theorem Nv.loc_over (h : Nv limit s p q) (hl : 1 ≤ limit) (hp : (p : Int) = limit) (x : Int) : locA s (adG limit) = (0, 12) ∧ locS s (adG limit) x = s := by
  have hA : locA s (adG limit) = (0, 12) := by
    unfold locA
    rw [h.now hl, adS_over, if_pos (by simp [hp])]
  exact ⟨hA, by unfold locS; rw [hA]; rfl⟩
theorem Nv.hear (h : Nv limit s p q) (hq : (q : Int) < limit) {x : Int} (hok : (s.hear q x).Ok (adG limit)) : Nv limit (s.hear q x) p (q + 1) := by
  have hm : q < s.h.length := by have := h.ok.fit.hl; have e : (adG limit).cap = limit := rfl; omega
  refine ⟨hok, h.P, ?_, fun k hk => ?_⟩
  · refine In.kn_of (by show q + 1 ≤ (s.h.set q (x, true)).length; rw [List.length_set]; omega) (fun j hj => ?_) (fun hj => ?_)
    · show (In.at0 (s.h.set q (x, true)) j).2 = true
      rw [In.at0_set hm]
      split
      · rfl
      · exact In.kn_mark s.h j (by rw [h.kh]; omega)
    · show (In.at0 (s.h.set q (x, true)) (q + 1)).2 = false
      rw [In.at0_set hm, if_neg (by omega)]
      exact h.free _ (by omega)
  · show (In.at0 (s.h.set q (x, true)) k).2 = false
    rw [In.at0_set hm, if_neg (by omega)]
    exact h.free _ (by omega)
theorem Nv.rem_ok (h : Nv limit s p q) (hl : 1 ≤ limit) (hq : (q : Int) < limit) (hw : q ≤ min p q + 24) {x : Int} (hx : 0 ≤ x ∧ x < 65536) : remA s (adG limit) (q : Int) x = 0 ∧ (∃ d e, remS s (adG limit) (q : Int) x = (s.hear q x).work d e ∧ 0 ≤ d ∧ d ≤ 600 ∧ 0 ≤ e ∧ e ≤ 1 ∧ (gv s.h (q + 1) = x → d = 0 ∧ e = 0) ∧ (p ≤ q → d = 0 ∧ e = 0)) ∧ Nv limit (s.hear q x) p (q + 1) := by
  have hlen := h.ok.fit.hl
  have hc : (adG limit).cap = limit := rfl
  have hE : In.putE s.h (q : Int) x = 0 := by
    unfold In.putE
    rw [if_neg (by omega), Int.toNat_natCast, if_neg (by rw [h.free q (Nat.le_refl _)]; decide)]
  have hA : remA s (adG limit) (q : Int) x = 0 := by
    unfold remA
    rw [if_neg (by omega), h.sure hl, adS_over, adS_frame, if_neg (by simp; omega), if_neg (by omega)]
    exact hE
  obtain ⟨hr, _⟩ := remA_go hA
  rw [Int.toNat_natCast] at hr
  have hok := h.ok.hear hr hx
  have hN := h.hear hq hok
  refine ⟨hA, ?_, hN⟩
  unfold remS
  rw [if_pos hA, Int.toNat_natCast, h.now hl, adS_frame]
  by_cases c : (q : Int) < (p : Int) ∧ gv s.h (q + 1) ≠ x
  · rw [if_pos c, hN.now hl, adS_frame]
    refine ⟨_, _, rfl, by omega, ?_, by decide, by decide, fun e => absurd e c.2, fun e => by omega⟩
    have h1 := h.ple
    have h2 := h.ok.win
    rw [h.sure hl, adS_frame, h.P] at h2
    omega
  · rw [if_neg c]
    exact ⟨0, 0, by rw [Sa.work_zero], by decide, by decide, by decide, by decide, fun _ => ⟨rfl, rfl⟩, fun _ => ⟨rfl, rfl⟩⟩
theorem Nv.work (h : Nv limit s p q) (d e : Int) : Nv limit (s.work d e) p q := ⟨h.ok.work d e, h.P, h.kh, h.free⟩
end
theorem newS_nv {limit me : Int} (hl : 1 ≤ limit) (h6 : limit ≤ 600) (hm : me = 0 ∨ me = 1) : Nv limit (newS me limit) 0 0 := ⟨newS_ok (adG_ok hl h6) hm, newS_P _ _, kn_zeros _, fun k _ => by show (In.at0 (In.zeros limit.toNat) k).2 = false; rw [In.zeros_at]⟩
/-- A session of the law's own, of that game. -/
def Ah (w W : World) (lo hi : Nat) (X : Sx) (limit : Int) (p q : Nat) (b : Int) : Prop := ∃ s, Lx w W lo hi X (adG limit) s ∧ Nv limit s p q ∧ (0 ≤ s.st ∧ s.st ≤ b) ∧ 0 ≤ s.wr ∧ s.wr ≤ b
section
variable {w W W' : World} {lo hi : Nat} {X : Sx} {limit : Int} {p q : Nat} {b : Int}
theorem Ah.bel (h : Ah w W lo hi X limit p q b) : Below w.heap.size w W := by obtain ⟨s, h1, _⟩ := h; exact h1.b
theorem Ah.mono (h : Ah w W lo hi X limit p q b) {c : Int} (hc : b ≤ c) : Ah w W lo hi X limit p q c := by obtain ⟨s, h1, h2, h3, h4⟩ := h; exact ⟨s, h1, h2, ⟨h3.1, by omega⟩, h4.1, by omega⟩
theorem Ah.loc_ok (h : Ah w W lo hi X limit p q b) (hl : 1 ≤ limit) (h6 : limit ≤ 600) (hb : b ≤ 10000000) (hp : (p : Int) < limit) (hw : p < min p q + 8) {x : Int} (hx : 0 ≤ x ∧ x < 65536) : Calls Tryz.prog 9 #[.pointer (some ⟨X.sb, 0, none⟩), .int .u16 x] W fun e w' => e = .returned (.tuple #[.int .i64 (p : Int), .int .i64 0]) ∧ Ah w w' lo hi X limit (p + 1) q (b + 1) := by
  obtain ⟨s, h1, h2, h3, h4⟩ := h
  obtain ⟨e1, e2, e3⟩ := h2.loc_ok hl h6 hp hw hx
  have g := h1.Local ⟨h3.1, by omega⟩ hx
  rw [e1, e2] at g
  exact g.mono (by rintro e w' ⟨rfl, k⟩; exact ⟨rfl, _, k, e3, ⟨by show 0 ≤ s.st + 1; omega, by show s.st + 1 ≤ b + 1; omega⟩, by show 0 ≤ s.wr + 0; omega, by show s.wr + 0 ≤ b + 1; omega⟩)
theorem Ah.loc_win (h : Ah w W lo hi X limit p q b) (hl : 1 ≤ limit) (hb : b ≤ 10000000) (hp : (p : Int) < limit) (hw : min p q + 8 ≤ p) {x : Int} (hx : 0 ≤ x ∧ x < 65536) : Calls Tryz.prog 9 #[.pointer (some ⟨X.sb, 0, none⟩), .int .u16 x] W fun e w' => e = .returned (.tuple #[.int .i64 0, .int .i64 13]) ∧ Ah w w' lo hi X limit p q b := by
  obtain ⟨s, h1, h2, h3, h4⟩ := h
  obtain ⟨e1, e2⟩ := h2.loc_win hl hp hw x
  have g := h1.Local ⟨h3.1, by omega⟩ hx
  rw [e1, e2] at g
  exact g.mono (by rintro e w' ⟨rfl, k⟩; exact ⟨rfl, _, k, h2, h3, h4⟩)
theorem Ah.rem_ok (h : Ah w W lo hi X limit p q b) (hl : 1 ≤ limit) (h6 : limit ≤ 600) (hb : b ≤ 10000000) (hq : (q : Int) < limit) (hw : q ≤ min p q + 24) {x : Int} (hx : 0 ≤ x ∧ x < 65536) : Calls Tryz.prog 10 #[.pointer (some ⟨X.sb, 0, none⟩), .int .i64 (q : Int), .int .u16 x] W fun e w' => e = .returned (.int .i64 0) ∧ Ah w w' lo hi X limit p (q + 1) (b + 600) := by
  obtain ⟨s, h1, h2, h3, h4⟩ := h
  obtain ⟨e1, ⟨d, e, e2, d0, d1, f0, f1, _⟩, e3⟩ := h2.rem_ok hl hq hw hx
  have g := h1.Remote ⟨h3.1, by omega⟩ ⟨h4.1, by omega⟩ (f := (q : Int)) (x := x) ⟨by omega, by omega⟩ hx
  rw [e1, e2] at g
  exact g.mono (by rintro e w' ⟨rfl, k⟩; exact ⟨rfl, _, k, e3.work _ _, ⟨by show 0 ≤ s.st + d; omega, by show s.st + d ≤ b + 600; omega⟩, by show 0 ≤ s.wr + _; omega, by show s.wr + _ ≤ b + 600; omega⟩)
theorem Ah.needs (h : Ah w W lo hi X limit p q b) : Calls Tryz.prog 14 #[.pointer (some ⟨X.sb, 0, none⟩)] W fun e w' => e = .returned (.int .i64 (q : Int)) ∧ Ah w w' lo hi X limit p q b := by
  obtain ⟨s, h1, h2, h3⟩ := h
  have g := h1.Needs
  rw [h2.kh] at g
  exact g.mono (by rintro e w' ⟨rfl, k⟩; exact ⟨rfl, _, k, h2, h3⟩)
theorem Ah.sure (h : Ah w W lo hi X limit p q b) (hl : 1 ≤ limit) : Calls Tryz.prog 13 #[.pointer (some ⟨X.sb, 0, none⟩)] W fun e w' => (∃ cs : List Value, e = .returned (.agg cs.toArray) ∧ ∀ V : World, (Instr.field 44 (.agg cs.toArray) 0).run Tryz.prog V = .ok (.int .i64 ((min p q : Nat) : Int)) V) ∧ Ah w w' lo hi X limit p q b := by
  obtain ⟨s, h1, h2, h3⟩ := h
  exact h1.Sure.mono (by rintro e w' ⟨rfl, k⟩; exact ⟨⟨_, rfl, fun V => by rw [(fieldS h1.se.sureGs.wf).1 V, h2.sure hl]; rfl⟩, _, k, h2, h3⟩)
theorem Ah_new (w W : World) (hb : Below w.heap.size w W) (g : Nat) (limit me : Int) (h1 : 1 ≤ limit) (h2 : limit ≤ 600) (hl : Ls W (.slice (some ⟨g, 0, none⟩) 8 8) acode) (hm : me = 0 ∨ me = 1) : Calls Tryz.prog 8 #[.agg #[.slice (some ⟨g, 0, none⟩) 8 8, .int .i64 limit, .int .i64 20], .int .u32 1, .int .i64 me] W fun e w' => ∃ X hi, e = .returned (.tuple #[.pointer (some ⟨X.sb, 0, none⟩), .int .i64 0]) ∧ Ah w w' W.heap.size hi X limit 0 0 0 :=
  (ad_new w W hb g limit me h1 h2 hl hm).mono (by rintro e w' ⟨X, hi, rfl, k, _⟩; exact ⟨X, hi, rfl, _, k, newS_nv h1 h2 hm, ⟨Int.le_refl _, Int.le_refl _⟩, Int.le_refl _, Int.le_refl _⟩)
end
end Go.Proofs.YtbfldcieibdapabGreat
end
