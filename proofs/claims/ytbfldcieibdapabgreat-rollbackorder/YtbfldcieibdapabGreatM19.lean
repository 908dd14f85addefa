/-
  Joined from: RbUsed, RbNow, RbSure, RbStep.
-/
import Derived.Test.YtbfldcieibdapabGreatM18
section
/-
  used, Now, Sure of a session, by contracts.
-/
namespace Go.Proofs.YtbfldcieibdapabGreat
open Go.RowKit
section
variable {w w' : World} {lo hi : Nat} {X : Sx} {G : Gm} {s t : Sa} {a : Nat} {L : List Sp}
theorem zero62 : (Tryz.prog.info? 41).bind (·.zero) = some (.agg [Value.int .u16 0, .int .u16 0].toArray) := by kernel_rfl
theorem size62 : (Tryz.prog.info? 41).map (·.size) = some 2 := by kernel_rfl
/-- The pair, half laid. -/
structure Hu (w wr : World) (x y : Int) (k : Nat) : Prop where
  b : Below w.heap.size w wr
  z : wr.heap.size = w.heap.size + 1 + 1
  c : Cw wr w.heap.size [.int .u16 0, .int .u16 0] 41
  d : Cw wr (w.heap.size + 1) [.int .u16 (if 0 < k then x else 0), .int .u16 (if 1 < k then y else 0)] 41
theorem Hu.start (w : World) (x y : Int) : Hu w ((w.alloc (.cells #[.int .u16 0, .int .u16 0] 41)).alloc (.cells #[.int .u16 0, .int .u16 0] 41)) x y 0 := by
  have c := Cw.new w [.int .u16 0, .int .u16 0] 41
  have d := Cw.new (w.alloc (.cells #[.int .u16 0, .int .u16 0] 41)) [.int .u16 0, .int .u16 0] 41
  have s1 := World.size_alloc w (.cells #[.int .u16 0, .int .u16 0] 41)
  rw [s1] at d
  exact ⟨((Below.refl _ _).alloc (Nat.le_refl _) _).alloc (by omega) _, by rw [World.size_alloc, s1], c.alloc _, d⟩
set_option maxRecDepth 20000 in
set_option maxHeartbeats 2000000 in
theorem used_any (h : Sn w lo hi X G s a L) (hf : s.Fit G) (k : Nat) (hk : (k : Int) < G.cap) : Calls Tryz.prog 30 #[.pointer (some ⟨X.sb, 0, none⟩), .int .i64 (k : Int)] w fun e w' => e = .returned (.agg #[.int .u16 (s.use k).1, .int .u16 (s.use k).2]) ∧ Below w.heap.size w w' := by
  have CG : Hid (∀ W, Below w.heap.size w W → W.cell? ⟨X.sb, 4, none⟩ = some (.pointer (some ⟨X.qb, 0, none⟩)) ∧ (∃ b, Calls Tryz.prog 46 #[.pointer (some ⟨X.qb, 0, none⟩), .int .i64 0, .int .i64 (k : Int)] W fun e w' => e = .returned (.tuple #[.int .u16 (s.use k).1, .bool b]) ∧ w' = W) ∧ (∃ b, Calls Tryz.prog 46 #[.pointer (some ⟨X.qb, 0, none⟩), .int .i64 1, .int .i64 (k : Int)] W fun e w' => e = .returned (.tuple #[.int .u16 (s.use k).2, .bool b]) ∧ w' = W)) := fun W hW => by
    have H := h.below hW
    have e0 : (In.getP s.r0 (k : Int)).1 = (s.use k).1 := getP_gv (by have := hf.r0l; omega)
    have e1 : (In.getP s.r1 (k : Int)).1 = (s.use k).2 := getP_gv (by have := hf.r1l; omega)
    have g0 := In.get_any H.q 0 (k : Int)
    have g1 := In.get_any H.q 1 (k : Int)
    rw [show In.sel 0 s.r0 s.r1 = s.r0 from rfl, e0] at g0
    rw [show In.sel 1 s.r0 s.r1 = s.r1 from rfl, e1] at g1
    exact ⟨H.cl.c4, ⟨_, g0⟩, ⟨_, g1⟩⟩
  have HZ : Hid ((Tryz.prog.info? 41).bind (·.zero) = some (.agg [Value.int .u16 0, .int .u16 0].toArray)) := zero62
  have HS : Hid ((Tryz.prog.info? 41).map (·.size) = some 2) := size62
  generalize (s.use k).1 = x at *
  generalize (s.use k).2 = y at *
  generalize (k : Int) = f at *
  clear h hf hk
  go_enter Tryz.func30, Tryz.ntmps30
  go_wp2_with fail
  go_loopw [7] (fun u wr => ∃ j : Nat, j ≤ 2 ∧ u = .int .i64 (j : Int) ∧ Hid (Hu w wr x y j)) (fun u _ => 2 - (intOf u).toNat)
  case atStart => exact ⟨0, by decide, rfl, Hu.start w x y⟩
  case round =>
    obtain ⟨j, hj, rfl, H⟩ := hrel
    obtain ⟨c4, ⟨b0, C0⟩, ⟨b1, C1⟩⟩ := CG.out wr H.out.b
    have D0 := hid_into C0
    have D1 := hid_into C1
    clear C0 C1 CG
    have z0 := H.out.d.frozen 0
    have z1 := H.out.d.frozen 1
    have e0 := (H.out.d.cell 0).trans rfl
    have e1 := (H.out.d.cell 1).trans rfl
    obtain rfl | rfl | rfl : j = 0 ∨ j = 1 ∨ j = 2 := by omega
    · simp only [Nat.lt_irrefl, if_false, Nat.not_lt_zero] at e0 e1
      go_wp2_with (go_at_call 46; refine D0.out.mono ?_; rintro e w1 ⟨rfl, h1⟩; replace h1 := h1.symm; subst h1)
      go_roundw
      case rel =>
        have hd := H.out.d.set 0 (.int .u16 x)
        have ho := Only.set (w.heap.size + 1) 0 wr (.int .u16 x)
        exact ⟨1, by decide, rfl, ⟨H.out.b.trans (ho.below (by omega)), by rw [ho.size]; exact H.out.z, ho.cw H.out.c (by omega), hd⟩⟩
      case measure => decide
    · simp only [Nat.lt_irrefl, if_false, Nat.zero_lt_one, if_true] at e0 e1
      go_wp2_with (go_at_call 46; refine D1.out.mono ?_; rintro e w1 ⟨rfl, h1⟩; replace h1 := h1.symm; subst h1)
      go_roundw
      case rel =>
        have hd := H.out.d.set 1 (.int .u16 y)
        have ho := Only.set (w.heap.size + 1) 1 wr (.int .u16 y)
        exact ⟨2, by decide, rfl, ⟨H.out.b.trans (ho.below (by omega)), by rw [ho.size]; exact H.out.z, ho.cw H.out.c (by omega), hd⟩⟩
      case measure => decide
    · have hc := H.out.c
      have hd : Cw wr (w.heap.size + 1) [.int .u16 x, .int .u16 y] 41 := H.out.d
      have HB := hid_into H.out.b
      clear e0 e1 H
      go_wp2_with (first
        | (refine wpList_load_rw rfl 41 (.tmp 5) rfl (w.heap.size + 1) [.int .u16 x, .int .u16 y] 41 _ rfl ?_ Tryz.underlying41 rfl HS ?_; exact hd)
        | (refine wpList_store_rw rfl 41 (.tmp 4) (.tmp 23) rfl w.heap.size [.int .u16 0, .int .u16 0] [.int .u16 x, .int .u16 y] 41 rfl rfl ?_ HS (hid_into rfl) (by simp [Value.oneCell']) ?_; exact hc; intro W4 hr4 O4))
      exact ret_row rfl rfl rfl hr4 Tryz.underlying41 rfl HS ⟨rfl, HB.out.trans (O4.below (Nat.le_refl _))⟩
end
end Go.Proofs.YtbfldcieibdapabGreat
end

section
/-
  Now and Sure of a session, by contracts.
-/
namespace Go.Proofs.YtbfldcieibdapabGreat
open Go.RowKit
section
variable {w w' : World} {lo hi : Nat} {X : Sx} {G : Gm} {s t : Sa} {a : Nat} {L : List Sp}
theorem Sn.nowWf (h : Sn w lo hi X G s a L) (hr : Ring s G a L) : (s.now G).Wf := by
  rw [← hr.now.1]; exact Rn.gt_wf h.r.k _
theorem Sn.sureWf (h : Sn w lo hi X G s a L) (hr : Ring s G a L) : (s.sure G).Wf := by
  rw [← hr.sure]; exact Rn.gt_wf h.r.k _
theorem Now_nil (w : World) : Calls Tryz.prog 12 #[.pointer none] w fun e w' => e = .returned (.agg zeroS.toArray) ∧ Below w.heap.size w w' := by
  have HZ : Hid ((Tryz.prog.info? 44).bind (·.zero) = some (.agg zeroS.toArray)) := Tryz.zero44
  have ZS := zeroS_size
  have HBz : Hid (Tryz.prog.built 44 [] = some zeroS.toArray) := built28z
  have HL := st_len noS_wf
  have HO := st_one noS_wf
  go_enter Tryz.func12, Tryz.ntmps12
  go_wp2_with (first
    | (refine wpList_alloc_row rfl 44 rfl zeroS HZ.out ?_; intro W1 hr1 B1 _)
    | (go_at_call 24; refine (sempty_nil _).mono ?_; rintro e w2 ⟨rfl, h2⟩; replace h2 := h2.symm; subst h2)
    | (refine wpList_build_row rfl 44 #[] rfl zeroS [] rfl HBz.out ?_)
    | (refine wpList_store_rw rfl 44 (.tmp 2) (.tmp 7) rfl w.heap.size zeroS zeroS 44 rfl rfl ?_ ZS HL HO.out ?_; exact hr1; intro W3 hr3 O3))
  exact ret_row rfl rfl rfl hr3 Tryz.underlying44 rfl ZS ⟨rfl, B1.trans (O3.below (Nat.le_refl _))⟩
theorem Sure_nil (w : World) : Calls Tryz.prog 13 #[.pointer none] w fun e w' => e = .returned (.agg zeroS.toArray) ∧ Below w.heap.size w w' := by
  have HZ : Hid ((Tryz.prog.info? 44).bind (·.zero) = some (.agg zeroS.toArray)) := Tryz.zero44
  have ZS := zeroS_size
  have HBz : Hid (Tryz.prog.built 44 [] = some zeroS.toArray) := built28z
  have HL := st_len noS_wf
  have HO := st_one noS_wf
  go_enter Tryz.func13, Tryz.ntmps13
  go_wp2_with (first
    | (refine wpList_alloc_row rfl 44 rfl zeroS HZ.out ?_; intro W1 hr1 B1 _)
    | (go_at_call 24; refine (sempty_nil _).mono ?_; rintro e w2 ⟨rfl, h2⟩; replace h2 := h2.symm; subst h2)
    | (refine wpList_build_row rfl 44 #[] rfl zeroS [] rfl HBz.out ?_)
    | (refine wpList_store_rw rfl 44 (.tmp 2) (.tmp 7) rfl w.heap.size zeroS zeroS 44 rfl rfl ?_ ZS HL HO.out ?_; exact hr1; intro W3 hr3 O3))
  exact ret_row rfl rfl rfl hr3 Tryz.underlying44 rfl ZS ⟨rfl, B1.trans (O3.below (Nat.le_refl _))⟩
set_option maxRecDepth 20000 in
set_option maxHeartbeats 2000000 in
theorem Now_any (h : Sn w lo hi X G s a L) (hr : Ring s G a L) : Calls Tryz.prog 12 #[.pointer (some ⟨X.sb, 0, none⟩)] w fun e w' => e = .returned (.agg (stV (s.now G)).toArray) ∧ Below w.heap.size w w' := by
  have CE : Hid (∀ W, Below w.heap.size w W → Calls Tryz.prog 24 #[.pointer (some ⟨X.sb, 0, none⟩)] W fun e w' => e = .returned (.bool false) ∧ w' = W) := fun W hW => sempty_any (h.below hW)
  have CN : Hid (∀ W, Below w.heap.size w W → W.cell? ⟨X.sb, 5, none⟩ = some (.pointer (some ⟨X.rb, 0, none⟩)) ∧ Calls Tryz.prog 33 #[.pointer (some ⟨X.rb, 0, none⟩)] W fun e w' => e = .returned (.tuple #[.agg (stV (s.now G)).toArray, .bool true]) ∧ Below W.heap.size W w') := fun W hW => by
    have H := h.below hW
    have g := Rn.newest_any H.r
    rw [hr.now.1, hr.now.2.1] at g
    exact ⟨H.cl.c5, g⟩
  have HZ : Hid ((Tryz.prog.info? 44).bind (·.zero) = some (.agg zeroS.toArray)) := Tryz.zero44
  have ZS := zeroS_size
  have hwf := h.nowWf hr
  have HN := st_size hwf
  have HL := st_len hwf
  have HO := st_one hwf
  generalize stV (s.now G) = cs at *
  clear h hr hwf
  go_enter Tryz.func12, Tryz.ntmps12
  go_wp2_with (first
    | (have HB3' := HB3; refine wpList_alloc_row rfl 44 rfl zeroS HZ.out ?_; intro W4 hc4 B4 HS4; have hr4 := hr3.below B4 hr3.lt; have hne := hid_into (Nat.ne_of_lt hr3.lt); have HB4 := hid_into (HB3.out.trans (B4.mono HB3.out.size)); clear hr3 B4)
    | (refine wpList_alloc_row rfl 44 rfl zeroS HZ.out ?_; intro W1 hr1 B1 _; have c5 := (CN.out _ B1).1)
    | (go_at_call 24; refine (CE.out _ B1).mono ?_; rintro e w2 ⟨rfl, h2⟩; replace h2 := h2.symm; subst h2)
    | (go_at_call 33; refine (CN.out _ B1).2.mono ?_; rintro e w3 ⟨rfl, B3⟩; have hr3 := hr1.below B3 hr1.lt; have HB3 := hid_into (B1.trans (B3.mono B1.size)); clear hr1 B1 B3)
    | (refine wpList_store_rw rfl 44 (.tmp 3) (.tmp 14) rfl w3.heap.size zeroS cs 44 rfl rfl ?_ ZS HL HO.out ?_; exact hc4; intro W5 hc5 O5; have hr5 := O5.cw hr4 hne.out; have HB5 := hid_into (HB4.out.trans (O5.below HB3.out.size)); clear hc4 hr4 O5)
    | (refine wpList_load_rw rfl 44 (.tmp 3) rfl w3.heap.size cs 44 _ rfl ?_ Tryz.underlying44 rfl HN ?_; exact hc5)
    | (refine wpList_store_rw rfl 44 (.tmp 2) (.tmp 16) rfl w.heap.size zeroS cs 44 rfl rfl ?_ ZS HL HO.out ?_; exact hr5; intro W6 hr6 O6))
  exact ret_row rfl rfl rfl hr6 Tryz.underlying44 rfl HN ⟨rfl, HB5.out.trans (O6.below (Nat.le_refl _))⟩
end
end Go.Proofs.YtbfldcieibdapabGreat
end

section
/-
  Sure of a session, by a contract.
-/
namespace Go.Proofs.YtbfldcieibdapabGreat
open Go.RowKit
section
variable {w w' : World} {lo hi : Nat} {X : Sx} {G : Gm} {s t : Sa} {a : Nat} {L : List Sp}
/-- Parts of a state. -/
theorem fieldS {s : Sp} (hs : s.Wf) : (∀ w : World, (Instr.field 44 (.agg (stV s).toArray) 0).run Tryz.prog w = .ok (.int .i64 s.frame) w) ∧ (∀ w : World, (Instr.field 44 (.agg (stV s).toArray) 3).run Tryz.prog w = .ok (.bool s.over) w) ∧ (∀ w : World, (Instr.field 44 (.agg (stV s).toArray) 1).run Tryz.prog w = .ok (.agg (s.cells.map (Value.int .i32)).toArray) w) := by
  obtain ⟨fr, cells, seed, over, win⟩ := s
  obtain ⟨c0, c1, c2, c3, c4, c5, c6, c7, c8, c9, c10, c11, c12, c13, c14, c15, e⟩ := sixteen hs.cells
  simp only at e
  subst e
  exact ⟨fun w => by kernel_rfl, fun w => by kernel_rfl, fun w => by kernel_rfl⟩
theorem new_below {W w2 : World} (B2 : Below (W.alloc (.cells zeroS.toArray 44)).heap.size (W.alloc (.cells zeroS.toArray 44)) w2) : Cw w2 W.heap.size zeroS 44 ∧ Below W.heap.size W w2 :=
  ⟨(Cw.new W zeroS 44).below B2 (by rw [World.size_alloc]; omega), ((Below.refl W.heap.size W).alloc (Nat.le_refl _) _).trans (B2.mono (by rw [World.size_alloc]; omega))⟩
theorem new_belowD {W w2 : World} (B2 : Below (W.alloc (.cells zeroS.toArray 44)).drew.heap.size (W.alloc (.cells zeroS.toArray 44)).drew w2) : Cw w2 W.heap.size zeroS 44 ∧ Below W.heap.size W w2 := by
  have B3 : Below (W.alloc (.cells zeroS.toArray 44)).heap.size (W.alloc (.cells zeroS.toArray 44)) w2 := ⟨B2.os, B2.tape, B2.output, B2.size, B2.block⟩
  exact new_below B3
theorem drew_below {W w2 : World} (B2 : Below W.drew.heap.size W.drew w2) : Below W.heap.size W w2 := ⟨B2.os, B2.tape, B2.output, B2.size, B2.block⟩
set_option maxRecDepth 20000 in
set_option maxHeartbeats 4000000 in
theorem Sure_any (h : Sn w lo hi X G s a L) (hr : Ring s G a L) : Calls Tryz.prog 13 #[.pointer (some ⟨X.sb, 0, none⟩)] w fun e w' => e = .returned (.agg (stV (s.sure G)).toArray) ∧ Below w.heap.size w w' := by
  have CE : Hid (∀ W, Below w.heap.size w W → Calls Tryz.prog 24 #[.pointer (some ⟨X.sb, 0, none⟩)] W fun e w' => e = .returned (.bool false) ∧ w' = W) := fun W hW => sempty_any (h.below hW)
  have HC : Hid (∀ W, Below w.heap.size w W → W.cell? ⟨X.sb, 4, none⟩ = some (.pointer (some ⟨X.qb, 0, none⟩)) ∧ W.cell? ⟨X.sb, 5, none⟩ = some (.pointer (some ⟨X.rb, 0, none⟩))) := fun W hW => ⟨(h.below hW).cl.c4, (h.below hW).cl.c5⟩
  have CB : Hid (∀ W, Below w.heap.size w W → Calls Tryz.prog 35 #[.pointer (some ⟨X.qb, 0, none⟩)] W fun e w' => e = .returned (.int .i64 ((s.B : Nat) : Int)) ∧ Below W.heap.size W w') := fun W hW => by
    have g := In.Both_any (h.below hW).q
    have e : min (In.kn s.r0) (In.kn s.r1) = s.B := by unfold Sa.B Sa.r0 Sa.r1; split; rfl; exact Nat.min_comm _ _
    rw [e] at g
    exact g.mono (by rintro e w' ⟨rfl, rfl⟩; exact ⟨rfl, Below.refl _ _⟩)
  have hwn := h.nowWf hr
  have CN : Hid (∀ W, Below w.heap.size w W → Calls Tryz.prog 12 #[.pointer (some ⟨X.sb, 0, none⟩)] W fun e w' => e = .returned (.agg (stV (s.now G)).toArray) ∧ Below W.heap.size W w') := fun W hW => Now_any (h.below hW) hr
  have hns := (fieldS hwn).1
  have CG : Hid (∀ W, Below w.heap.size w W → Calls Tryz.prog 34 #[.pointer (some ⟨X.rb, 0, none⟩), .int .i64 (if (s.now G).frame < ((s.B : Nat) : Int) then (s.now G).frame else ((s.B : Nat) : Int))] W fun e w' => e = .returned (.tuple #[.agg (stV (s.sure G)).toArray, .bool (Rn.gtB a L (min ((s.B : Nat) : Int) (s.now G).frame))]) ∧ Below W.heap.size W w') := fun W hW => by
    have g := Rn.get_any (h.below hW).r (min ((s.B : Nat) : Int) (s.now G).frame)
    rw [hr.sure] at g
    rw [show (if (s.now G).frame < ((s.B : Nat) : Int) then (s.now G).frame else ((s.B : Nat) : Int)) = min ((s.B : Nat) : Int) (s.now G).frame by split <;> omega]
    exact g
  generalize Rn.gtB a L (min ((s.B : Nat) : Int) (s.now G).frame) = bb at *
  have HZ : Hid ((Tryz.prog.info? 44).bind (·.zero) = some (.agg zeroS.toArray)) := Tryz.zero44
  have ZS := zeroS_size
  have hwf := h.sureWf hr
  have HN := st_size hwf
  have HL := st_len hwf
  have HO := st_one hwf
  generalize stV (s.sure G) = cs at *
  generalize stV (s.now G) = ns at *
  generalize ((s.B : Nat) : Int) = p at *
  generalize (s.now G).frame = q at *
  clear h hr hwf hwn
  obtain ⟨m, hm⟩ : ∃ m, (if q < p then q else p) = m := ⟨_, rfl⟩
  rw [hm] at CG
  go_enter Tryz.func13, Tryz.ntmps13
  go_wp2_with (first
    | (refine wpList_alloc_row rfl 44 rfl zeroS HZ.out ?_; intro W1 hr1 B1 _)
    | (go_at_call 24; refine (CE.out _ B1).mono ?_; rintro e w2 ⟨rfl, h2⟩; replace h2 := h2.symm; subst h2))
  have HSk : Hid (∀ V, Below W1.heap.size W1 V → V.cell? ⟨X.sb, 4, none⟩ = some (.pointer (some ⟨X.qb, 0, none⟩)) ∧ V.cell? ⟨X.sb, 5, none⟩ = some (.pointer (some ⟨X.rb, 0, none⟩))) := fun V hV => HC.out _ (B1.trans (hV.mono B1.size))
  have S0 := HSk.out W1.drew (Below.refl _ _).drew
  have HB0 : Hid (Below W1.heap.size W1 W1.drew) := (Below.refl _ _).drew
  try dsimp only at S0
  refine wp_region_held (S := fun V => V.cell? ⟨X.sb, 4, none⟩ = some (.pointer (some ⟨X.qb, 0, none⟩)) ∧ V.cell? ⟨X.sb, 5, none⟩ = some (.pointer (some ⟨X.rb, 0, none⟩))) (by kernel_rfl) ?_
  change wpAnyH _ _ _ _ _ _ _ _ (World.drew _)
  refine wpAnyH_take (i := 0) (v := .pointer (some ⟨X.sb, 0, none⟩)) rfl (by kernel_rfl) (by kernel_rfl) (by kernel_rfl) (fun _ _ _ h => h) (Or.inl ⟨by kernel_rfl, by intro V _; go_simp⟩) S0 ?_
  refine wpAnyH_take (i := 1) (v := .pointer (some ⟨X.sb, 0, none⟩)) rfl (by kernel_rfl) (by kernel_rfl) (by kernel_rfl) (fun _ _ _ h => h) (Or.inl ⟨by kernel_rfl, by intro V _; go_simp⟩) S0 ?_
  refine wpAnyH_take (i := 2) (v := .pointer (some ⟨X.sb, 5, none⟩)) rfl (by kernel_rfl) (by kernel_rfl) (by kernel_rfl) (fun _ _ _ h => h) (Or.inl ⟨by kernel_rfl, by intro V _; go_simp⟩) S0 ?_
  refine wpAnyH_take (i := 3) (v := .pointer (some ⟨X.rb, 0, none⟩)) rfl (by kernel_rfl) (by kernel_rfl) (by kernel_rfl) (fun _ _ _ h => h) (Or.inl ⟨by kernel_rfl, by intro V hV; obtain ⟨y4, y5⟩ := hV; go_simp⟩) S0 ?_
  refine wpAnyH_take (i := 4) (v := .pointer (some ⟨X.sb, 0, none⟩)) rfl (by kernel_rfl) (by kernel_rfl) (by kernel_rfl) (fun _ _ _ h => h) (Or.inl ⟨by kernel_rfl, by intro V _; go_simp⟩) S0 ?_
  refine wpAnyH_take (i := 5) (v := .pointer (some ⟨X.sb, 0, none⟩)) rfl (by kernel_rfl) (by kernel_rfl) (by kernel_rfl) (fun _ _ _ h => h) (Or.inl ⟨by kernel_rfl, by intro V _; go_simp⟩) S0 ?_
  refine wpAnyH_take (i := 6) (v := .pointer (some ⟨X.sb, 4, none⟩)) rfl (by kernel_rfl) (by kernel_rfl) (by kernel_rfl) (fun _ _ _ h => h) (Or.inl ⟨by kernel_rfl, by intro V _; go_simp⟩) S0 ?_
  refine wpAnyH_take (i := 7) (v := .pointer (some ⟨X.qb, 0, none⟩)) rfl (by kernel_rfl) (by kernel_rfl) (by kernel_rfl) (fun _ _ _ h => h) (Or.inl ⟨by kernel_rfl, by intro V hV; obtain ⟨y4, y5⟩ := hV; go_simp⟩) S0 ?_
  refine wpAnyH_take (i := 9) (v := .pointer (some ⟨X.sb, 0, none⟩)) rfl (by kernel_rfl) (by kernel_rfl) (by kernel_rfl) (fun _ _ _ h => h) (Or.inl ⟨by kernel_rfl, by intro V _; go_simp⟩) S0 ?_
  refine wpAnyH_ready (rs := [8, 17]) (by kernel_rfl) (by simp) ?_
  refine AllReadyH.cons rfl (fun KK hK => ?_) (AllReadyH.cons rfl (fun KK hK => ?_) AllReadyH.nil)
  · go_simp
    refine (CB.out _ (B1.trans (HB0.out.mono B1.size))).mono ?_
    rintro e w1 ⟨rfl, Bx⟩
    have HB1 := hid_into (HB0.out.trans (Bx.mono HB0.out.size))
    have S1 := HSk.out w1 HB1.out
    dsimp only
    refine hK.out _ _ (by exact S1) (fun _ => ?_)
    clear hK KK Bx
    refine wpAnyH_ready (rs := [10, 17]) (by kernel_rfl) (by simp) ?_
    try simp only [List.getElem_toArray, List.getElem_cons_zero, List.getElem_cons_succ, Act.put, List.setIfInBounds_toArray, List.set_cons_zero, List.set_cons_succ]
    refine AllReadyH.cons rfl (fun KK hK => ?_) (AllReadyH.cons rfl (fun KK hK => ?_) AllReadyH.nil)
    · go_simp
      refine (CN.out _ (B1.trans (HB1.out.mono B1.size))).mono ?_
      rintro e w2 ⟨rfl, Bx⟩
      have HB2 := hid_into (HB1.out.trans (Bx.mono HB1.out.size))
      have S2 := HSk.out w2 HB2.out
      dsimp only
      refine hK.out _ _ (by exact S2) (fun _ => ?_)
      clear hK KK Bx
      refine wpAnyH_take (i := 11) (v := .int .i64 q) rfl (by kernel_rfl) (by kernel_rfl) (by kernel_rfl) (fun _ _ _ h => h) (Or.inl ⟨by kernel_rfl, by intro V _; go_simp⟩) S2 ?_
      refine wpAnyH_take (i := 12) (v := .int .i64 m) rfl (by kernel_rfl) (by kernel_rfl) (by kernel_rfl) (fun _ _ _ h => h) (Or.inl ⟨by kernel_rfl, by intro V _; go_simp⟩) S2 ?_
      refine wpAnyH_ready (rs := [13, 17]) (by kernel_rfl) (by simp) ?_
      try simp only [List.getElem_toArray, List.getElem_cons_zero, List.getElem_cons_succ, Act.put, List.setIfInBounds_toArray, List.set_cons_zero, List.set_cons_succ]
      refine AllReadyH.cons rfl (fun KK hK => ?_) (AllReadyH.cons rfl (fun KK hK => ?_) AllReadyH.nil)
      · go_simp
        refine (CG.out _ (B1.trans (HB2.out.mono B1.size))).mono ?_
        rintro e w3 ⟨rfl, Bx⟩
        have HB3 := hid_into (HB2.out.trans (Bx.mono HB2.out.size))
        have S3 := HSk.out w3 HB3.out
        dsimp only
        refine hK.out _ _ (by exact S3) (fun _ => ?_)
        clear hK KK Bx
        refine wpAnyH_take (i := 14) (v := .tuple #[.agg cs.toArray, .bool bb]) rfl (by kernel_rfl) (by kernel_rfl) (by kernel_rfl) (fun _ _ _ h => h) (Or.inl ⟨by kernel_rfl, by intro V _; go_simp⟩) S3 ?_
        refine wpAnyH_take (i := 15) (v := .agg cs.toArray) rfl (by kernel_rfl) (by kernel_rfl) (by kernel_rfl) (fun _ _ _ h => h) (Or.inl ⟨by kernel_rfl, by intro V _; go_simp⟩) S3 ?_
        refine wpAnyH_take (i := 16) (v := .bool bb) rfl (by kernel_rfl) (by kernel_rfl) (by kernel_rfl) (fun _ _ _ h => h) (Or.inl ⟨by kernel_rfl, by intro V _; go_simp⟩) S3 ?_
        refine wpAnyH_ready (rs := [17]) (by kernel_rfl) (by simp) ?_
        try simp only [List.getElem_toArray, List.getElem_cons_zero, List.getElem_cons_succ, Act.put, List.setIfInBounds_toArray, List.set_cons_zero, List.set_cons_succ]
        refine AllReadyH.cons rfl (fun KK hK => ?_) AllReadyH.nil
        refine step_alloc_row rfl 44 rfl zeroS HZ.out ?_
        intro w4 hn4 Ba _
        have NB : W1.heap.size ≤ w3.heap.size := HB3.out.size
        have HNB := hid_into NB
        clear NB
        have HB4 := hid_into (HB3.out.trans (Ba.mono HB3.out.size))
        have S4 := HSk.out w4 HB4.out
        refine hK.out _ _ (by exact S4) (fun _ => ?_)
        clear hK KK Ba
        refine wpAnyH_ready (rs := [18]) (by kernel_rfl) (by simp) ?_
        refine AllReadyH.cons rfl (fun KK hK => ?_) AllReadyH.nil
        refine step_store_rw rfl 44 (.tmp 3) (.tmp 23) rfl (w3.heap.size) zeroS cs 44 (by kernel_rfl) (by kernel_rfl) hn4 ZS HL HO ?_
        intro W5 NC O5
        have HBe := hid_into (HB4.out.trans (O5.below HNB.out))
        have Se := HSk.out W5 HBe.out
        refine hK.out _ _ (by exact Se) (fun _ => ?_)
        clear hK KK
        refine wpAnyH_take (i := 19) (v := .bool bb) rfl (by kernel_rfl) (by kernel_rfl) (by kernel_rfl) (fun _ _ _ h => h) (Or.inl ⟨by kernel_rfl, by intro V _; go_simp⟩) Se ?_
        simp only [List.getElem_toArray, List.getElem_cons_zero, List.getElem_cons_succ, Act.put, List.setIfInBounds_toArray, List.set_cons_zero, List.set_cons_succ]
        refine wpAnyH_done (by kernel_rfl) ?_ _
        have hr5 := hr1.below HBe.out hr1.lt
        go_wp2_with (first
          | (refine wpList_load_rw rfl 44 (.tmp 3) rfl _ cs 44 _ rfl ?_ Tryz.underlying44 rfl HN ?_; exact NC)
          | (refine wpList_store_rw rfl 44 (.tmp 2) (.tmp 25) rfl w.heap.size zeroS cs 44 rfl rfl ?_ ZS HL HO.out ?_; exact hr5; intro W6 hr6 O6))
        exact ret_row rfl rfl rfl hr6 Tryz.underlying44 rfl HN ⟨rfl, (B1.trans (HBe.out.mono B1.size)).trans (O6.below (Nat.le_refl _))⟩
      · refine step_alloc_row rfl 44 rfl zeroS HZ.out ?_
        intro w3 hn3 Ba _
        have NB : W1.heap.size ≤ w2.heap.size := HB2.out.size
        have HNB := hid_into NB
        clear NB
        have HB3 := hid_into (HB2.out.trans (Ba.mono HB2.out.size))
        have S3 := HSk.out w3 HB3.out
        refine hK.out _ _ (by exact S3) (fun _ => ?_)
        clear hK KK Ba
        refine wpAnyH_ready (rs := [13]) (by kernel_rfl) (by simp) ?_
        try simp only [List.getElem_toArray, List.getElem_cons_zero, List.getElem_cons_succ, Act.put, List.setIfInBounds_toArray, List.set_cons_zero, List.set_cons_succ]
        refine AllReadyH.cons rfl (fun KK hK => ?_) AllReadyH.nil
        go_simp
        refine (CG.out _ (B1.trans (HB3.out.mono B1.size))).mono ?_
        rintro e w4 ⟨rfl, Bx⟩
        have HB4 := hid_into (HB3.out.trans (Bx.mono HB3.out.size))
        have S4 := HSk.out w4 HB4.out
        dsimp only
        refine hK.out _ _ (by exact S4) (fun _ => ?_)
        have hn4 := hn3.below Bx hn3.lt
        clear hn3
        clear hK KK Bx
        refine wpAnyH_take (i := 14) (v := .tuple #[.agg cs.toArray, .bool bb]) rfl (by kernel_rfl) (by kernel_rfl) (by kernel_rfl) (fun _ _ _ h => h) (Or.inl ⟨by kernel_rfl, by intro V _; go_simp⟩) S4 ?_
        refine wpAnyH_take (i := 15) (v := .agg cs.toArray) rfl (by kernel_rfl) (by kernel_rfl) (by kernel_rfl) (fun _ _ _ h => h) (Or.inl ⟨by kernel_rfl, by intro V _; go_simp⟩) S4 ?_
        refine wpAnyH_take (i := 16) (v := .bool bb) rfl (by kernel_rfl) (by kernel_rfl) (by kernel_rfl) (fun _ _ _ h => h) (Or.inl ⟨by kernel_rfl, by intro V _; go_simp⟩) S4 ?_
        refine wpAnyH_ready (rs := [18]) (by kernel_rfl) (by simp) ?_
        refine AllReadyH.cons rfl (fun KK hK => ?_) AllReadyH.nil
        refine step_store_rw rfl 44 (.tmp 3) (.tmp 23) rfl (w2.heap.size) zeroS cs 44 (by kernel_rfl) (by kernel_rfl) hn4 ZS HL HO ?_
        intro W5 NC O5
        have HBe := hid_into (HB4.out.trans (O5.below HNB.out))
        have Se := HSk.out W5 HBe.out
        refine hK.out _ _ (by exact Se) (fun _ => ?_)
        clear hK KK
        refine wpAnyH_take (i := 19) (v := .bool bb) rfl (by kernel_rfl) (by kernel_rfl) (by kernel_rfl) (fun _ _ _ h => h) (Or.inl ⟨by kernel_rfl, by intro V _; go_simp⟩) Se ?_
        simp only [List.getElem_toArray, List.getElem_cons_zero, List.getElem_cons_succ, Act.put, List.setIfInBounds_toArray, List.set_cons_zero, List.set_cons_succ]
        refine wpAnyH_done (by kernel_rfl) ?_ _
        have hr5 := hr1.below HBe.out hr1.lt
        go_wp2_with (first
          | (refine wpList_load_rw rfl 44 (.tmp 3) rfl _ cs 44 _ rfl ?_ Tryz.underlying44 rfl HN ?_; exact NC)
          | (refine wpList_store_rw rfl 44 (.tmp 2) (.tmp 25) rfl w.heap.size zeroS cs 44 rfl rfl ?_ ZS HL HO.out ?_; exact hr5; intro W6 hr6 O6))
        exact ret_row rfl rfl rfl hr6 Tryz.underlying44 rfl HN ⟨rfl, (B1.trans (HBe.out.mono B1.size)).trans (O6.below (Nat.le_refl _))⟩
    · refine step_alloc_row rfl 44 rfl zeroS HZ.out ?_
      intro w2 hn2 Ba _
      have NB : W1.heap.size ≤ w1.heap.size := HB1.out.size
      have HNB := hid_into NB
      clear NB
      have HB2 := hid_into (HB1.out.trans (Ba.mono HB1.out.size))
      have S2 := HSk.out w2 HB2.out
      refine hK.out _ _ (by exact S2) (fun _ => ?_)
      clear hK KK Ba
      refine wpAnyH_ready (rs := [10]) (by kernel_rfl) (by simp) ?_
      try simp only [List.getElem_toArray, List.getElem_cons_zero, List.getElem_cons_succ, Act.put, List.setIfInBounds_toArray, List.set_cons_zero, List.set_cons_succ]
      refine AllReadyH.cons rfl (fun KK hK => ?_) AllReadyH.nil
      go_simp
      refine (CN.out _ (B1.trans (HB2.out.mono B1.size))).mono ?_
      rintro e w3 ⟨rfl, Bx⟩
      have HB3 := hid_into (HB2.out.trans (Bx.mono HB2.out.size))
      have S3 := HSk.out w3 HB3.out
      dsimp only
      refine hK.out _ _ (by exact S3) (fun _ => ?_)
      have hn3 := hn2.below Bx hn2.lt
      clear hn2
      clear hK KK Bx
      refine wpAnyH_take (i := 11) (v := .int .i64 q) rfl (by kernel_rfl) (by kernel_rfl) (by kernel_rfl) (fun _ _ _ h => h) (Or.inl ⟨by kernel_rfl, by intro V _; go_simp⟩) S3 ?_
      refine wpAnyH_take (i := 12) (v := .int .i64 m) rfl (by kernel_rfl) (by kernel_rfl) (by kernel_rfl) (fun _ _ _ h => h) (Or.inl ⟨by kernel_rfl, by intro V _; go_simp⟩) S3 ?_
      refine wpAnyH_ready (rs := [13]) (by kernel_rfl) (by simp) ?_
      try simp only [List.getElem_toArray, List.getElem_cons_zero, List.getElem_cons_succ, Act.put, List.setIfInBounds_toArray, List.set_cons_zero, List.set_cons_succ]
      refine AllReadyH.cons rfl (fun KK hK => ?_) AllReadyH.nil
      go_simp
      refine (CG.out _ (B1.trans (HB3.out.mono B1.size))).mono ?_
      rintro e w4 ⟨rfl, Bx⟩
      have HB4 := hid_into (HB3.out.trans (Bx.mono HB3.out.size))
      have S4 := HSk.out w4 HB4.out
      dsimp only
      refine hK.out _ _ (by exact S4) (fun _ => ?_)
      have hn4 := hn3.below Bx hn3.lt
      clear hn3
      clear hK KK Bx
      refine wpAnyH_take (i := 14) (v := .tuple #[.agg cs.toArray, .bool bb]) rfl (by kernel_rfl) (by kernel_rfl) (by kernel_rfl) (fun _ _ _ h => h) (Or.inl ⟨by kernel_rfl, by intro V _; go_simp⟩) S4 ?_
      refine wpAnyH_take (i := 15) (v := .agg cs.toArray) rfl (by kernel_rfl) (by kernel_rfl) (by kernel_rfl) (fun _ _ _ h => h) (Or.inl ⟨by kernel_rfl, by intro V _; go_simp⟩) S4 ?_
      refine wpAnyH_take (i := 16) (v := .bool bb) rfl (by kernel_rfl) (by kernel_rfl) (by kernel_rfl) (fun _ _ _ h => h) (Or.inl ⟨by kernel_rfl, by intro V _; go_simp⟩) S4 ?_
      refine wpAnyH_ready (rs := [18]) (by kernel_rfl) (by simp) ?_
      refine AllReadyH.cons rfl (fun KK hK => ?_) AllReadyH.nil
      refine step_store_rw rfl 44 (.tmp 3) (.tmp 23) rfl (w1.heap.size) zeroS cs 44 (by kernel_rfl) (by kernel_rfl) hn4 ZS HL HO ?_
      intro W5 NC O5
      have HBe := hid_into (HB4.out.trans (O5.below HNB.out))
      have Se := HSk.out W5 HBe.out
      refine hK.out _ _ (by exact Se) (fun _ => ?_)
      clear hK KK
      refine wpAnyH_take (i := 19) (v := .bool bb) rfl (by kernel_rfl) (by kernel_rfl) (by kernel_rfl) (fun _ _ _ h => h) (Or.inl ⟨by kernel_rfl, by intro V _; go_simp⟩) Se ?_
      simp only [List.getElem_toArray, List.getElem_cons_zero, List.getElem_cons_succ, Act.put, List.setIfInBounds_toArray, List.set_cons_zero, List.set_cons_succ]
      refine wpAnyH_done (by kernel_rfl) ?_ _
      have hr5 := hr1.below HBe.out hr1.lt
      go_wp2_with (first
        | (refine wpList_load_rw rfl 44 (.tmp 3) rfl _ cs 44 _ rfl ?_ Tryz.underlying44 rfl HN ?_; exact NC)
        | (refine wpList_store_rw rfl 44 (.tmp 2) (.tmp 25) rfl w.heap.size zeroS cs 44 rfl rfl ?_ ZS HL HO.out ?_; exact hr5; intro W6 hr6 O6))
      exact ret_row rfl rfl rfl hr6 Tryz.underlying44 rfl HN ⟨rfl, (B1.trans (HBe.out.mono B1.size)).trans (O6.below (Nat.le_refl _))⟩
  · refine step_alloc_row rfl 44 rfl zeroS HZ.out ?_
    intro w1 hn1 Ba _
    have NB : W1.heap.size ≤ W1.drew.heap.size := HB0.out.size
    have HNB := hid_into NB
    clear NB
    have HB1 := hid_into (HB0.out.trans (Ba.mono HB0.out.size))
    have S1 := HSk.out w1 HB1.out
    refine hK.out _ _ (by exact S1) (fun _ => ?_)
    clear hK KK Ba
    refine wpAnyH_ready (rs := [8]) (by kernel_rfl) (by simp) ?_
    try simp only [List.getElem_toArray, List.getElem_cons_zero, List.getElem_cons_succ, Act.put, List.setIfInBounds_toArray, List.set_cons_zero, List.set_cons_succ]
    refine AllReadyH.cons rfl (fun KK hK => ?_) AllReadyH.nil
    go_simp
    refine (CB.out _ (B1.trans (HB1.out.mono B1.size))).mono ?_
    rintro e w2 ⟨rfl, Bx⟩
    have HB2 := hid_into (HB1.out.trans (Bx.mono HB1.out.size))
    have S2 := HSk.out w2 HB2.out
    dsimp only
    refine hK.out _ _ (by exact S2) (fun _ => ?_)
    have hn2 := hn1.below Bx hn1.lt
    clear hn1
    clear hK KK Bx
    refine wpAnyH_ready (rs := [10]) (by kernel_rfl) (by simp) ?_
    try simp only [List.getElem_toArray, List.getElem_cons_zero, List.getElem_cons_succ, Act.put, List.setIfInBounds_toArray, List.set_cons_zero, List.set_cons_succ]
    refine AllReadyH.cons rfl (fun KK hK => ?_) AllReadyH.nil
    go_simp
    refine (CN.out _ (B1.trans (HB2.out.mono B1.size))).mono ?_
    rintro e w3 ⟨rfl, Bx⟩
    have HB3 := hid_into (HB2.out.trans (Bx.mono HB2.out.size))
    have S3 := HSk.out w3 HB3.out
    dsimp only
    refine hK.out _ _ (by exact S3) (fun _ => ?_)
    have hn3 := hn2.below Bx hn2.lt
    clear hn2
    clear hK KK Bx
    refine wpAnyH_take (i := 11) (v := .int .i64 q) rfl (by kernel_rfl) (by kernel_rfl) (by kernel_rfl) (fun _ _ _ h => h) (Or.inl ⟨by kernel_rfl, by intro V _; go_simp⟩) S3 ?_
    refine wpAnyH_take (i := 12) (v := .int .i64 m) rfl (by kernel_rfl) (by kernel_rfl) (by kernel_rfl) (fun _ _ _ h => h) (Or.inl ⟨by kernel_rfl, by intro V _; go_simp⟩) S3 ?_
    refine wpAnyH_ready (rs := [13]) (by kernel_rfl) (by simp) ?_
    try simp only [List.getElem_toArray, List.getElem_cons_zero, List.getElem_cons_succ, Act.put, List.setIfInBounds_toArray, List.set_cons_zero, List.set_cons_succ]
    refine AllReadyH.cons rfl (fun KK hK => ?_) AllReadyH.nil
    go_simp
    refine (CG.out _ (B1.trans (HB3.out.mono B1.size))).mono ?_
    rintro e w4 ⟨rfl, Bx⟩
    have HB4 := hid_into (HB3.out.trans (Bx.mono HB3.out.size))
    have S4 := HSk.out w4 HB4.out
    dsimp only
    refine hK.out _ _ (by exact S4) (fun _ => ?_)
    have hn4 := hn3.below Bx hn3.lt
    clear hn3
    clear hK KK Bx
    refine wpAnyH_take (i := 14) (v := .tuple #[.agg cs.toArray, .bool bb]) rfl (by kernel_rfl) (by kernel_rfl) (by kernel_rfl) (fun _ _ _ h => h) (Or.inl ⟨by kernel_rfl, by intro V _; go_simp⟩) S4 ?_
    refine wpAnyH_take (i := 15) (v := .agg cs.toArray) rfl (by kernel_rfl) (by kernel_rfl) (by kernel_rfl) (fun _ _ _ h => h) (Or.inl ⟨by kernel_rfl, by intro V _; go_simp⟩) S4 ?_
    refine wpAnyH_take (i := 16) (v := .bool bb) rfl (by kernel_rfl) (by kernel_rfl) (by kernel_rfl) (fun _ _ _ h => h) (Or.inl ⟨by kernel_rfl, by intro V _; go_simp⟩) S4 ?_
    refine wpAnyH_ready (rs := [18]) (by kernel_rfl) (by simp) ?_
    refine AllReadyH.cons rfl (fun KK hK => ?_) AllReadyH.nil
    refine step_store_rw rfl 44 (.tmp 3) (.tmp 23) rfl (W1.drew.heap.size) zeroS cs 44 (by kernel_rfl) (by kernel_rfl) hn4 ZS HL HO ?_
    intro W5 NC O5
    have HBe := hid_into (HB4.out.trans (O5.below HNB.out))
    have Se := HSk.out W5 HBe.out
    refine hK.out _ _ (by exact Se) (fun _ => ?_)
    clear hK KK
    refine wpAnyH_take (i := 19) (v := .bool bb) rfl (by kernel_rfl) (by kernel_rfl) (by kernel_rfl) (fun _ _ _ h => h) (Or.inl ⟨by kernel_rfl, by intro V _; go_simp⟩) Se ?_
    simp only [List.getElem_toArray, List.getElem_cons_zero, List.getElem_cons_succ, Act.put, List.setIfInBounds_toArray, List.set_cons_zero, List.set_cons_succ]
    refine wpAnyH_done (by kernel_rfl) ?_ _
    have hr5 := hr1.below HBe.out hr1.lt
    go_wp2_with (first
      | (refine wpList_load_rw rfl 44 (.tmp 3) rfl _ cs 44 _ rfl ?_ Tryz.underlying44 rfl HN ?_; exact NC)
      | (refine wpList_store_rw rfl 44 (.tmp 2) (.tmp 25) rfl w.heap.size zeroS cs 44 rfl rfl ?_ ZS HL HO.out ?_; exact hr5; intro W6 hr6 O6))
    exact ret_row rfl rfl rfl hr6 Tryz.underlying44 rfl HN ⟨rfl, (B1.trans (HBe.out.mono B1.size)).trans (O6.below (Nat.le_refl _))⟩
end
end Go.Proofs.YtbfldcieibdapabGreat
end

section
/-
  step of a session, by a contract.
-/
namespace Go.Proofs.YtbfldcieibdapabGreat
open Go.RowKit
section
variable {w w' : World} {lo hi : Nat} {X : Sx} {G : Gm} {s t : Sa} {a : Nat} {L : List Sp}
/-- What a step leaves. -/
structure StepP (w w' : World) (lo hi : Nat) (X : Sx) (G : Gm) (s : Sa) (a : Nat) (k : Nat) : Prop where
  ex : ∃ a' L', Sn w' lo hi X G (s.work 1 0) a' L' ∧ Up s G a' L' (k + 1) ∧ a' + L'.length = k + 2 ∧ (a' = a ∨ a' + 14 = k)
  g : Grows (In2 lo hi) w w'
theorem isS_gs {cap : Int} {t : Sp} (h : Gs cap t) (hc : cap ≤ 600) : isS t = true := by
  have := h.f0; have := h.f1
  simp only [isS, decide_eq_true_eq]
  refine ⟨by omega, by omega, h.w0, h.w1, ?_⟩
  cases e : t.over with
  | true => exact Or.inl rfl
  | false => exact Or.inr (h.w2 e)
set_option maxRecDepth 20000 in
set_option maxHeartbeats 4000000 in
theorem step_any (h : Sn w lo hi X G s a L) (hG : G.Ok) (hf : s.Fit G) {k : Nat} (hk : (k : Int) < G.cap) (hu : Up s G a L k) (hov : (s.at G k).over = false) (hfr : (s.at G k).frame = (k : Int)) (hst : 0 ≤ s.st ∧ s.st < 4611686018427387904) :
    Calls Tryz.prog 28 #[.pointer (some ⟨X.sb, 0, none⟩), .int .i64 (k : Int)] w fun e w' => e = .returned (.bool (!(s.at G (k + 1)).over)) ∧ StepP w w' lo hi X G s a k := by
  obtain ⟨ao, cp, hcv, hm⟩ := h.l.len
  have hgs := hf.gs hG k
  have hgt := hf.gs hG (k + 1)
  have hcap := chkG_cap hG.c
  have hE := hgs.stepE hG.c hov
  have hstep := Sa.at_go hov
  have hfr1 : (s.at G (k + 1)).frame = ((k + 1 : Nat) : Int) := by rw [hstep, stepS_frame, hfr]; omega
  have hiS := isS_gs hgt hcap.2.2.1
  obtain ⟨he, hup, hlen, hlo⟩ := hu.step h.r.k hfr1 hiS
  have hi0 := (hf.use k).1
  have hi1 := (hf.use k).2
  have hF : stepF G.l G.cap G.fuel (s.at G k) (s.use k).1 (s.use k).2 = (s.at G (k + 1), 0) := by rw [hstep]; exact if_pos hE
  have HC : Hid (∀ W, Below w.heap.size w W → (W.cell? ⟨X.sb, 0, none⟩ = some (.slice ao G.l.length cp) ∧ W.cell? ⟨X.sb, 1, none⟩ = some (.int .i64 G.cap) ∧ W.cell? ⟨X.sb, 2, none⟩ = some (.int .i64 G.fuel)) ∧ W.cell? ⟨X.sb, 5, none⟩ = some (.pointer (some ⟨X.rb, 0, none⟩))) := fun W hW => by
    have H := (h.below hW).cl
    exact ⟨⟨by rw [H.c0, hcv], H.c1, H.c2⟩, H.c5⟩
  have CG : Hid (∀ W, Below w.heap.size w W → Calls Tryz.prog 34 #[.pointer (some ⟨X.rb, 0, none⟩), .int .i64 (k : Int)] W fun e w' => e = .returned (.tuple #[.agg (stV (s.at G k)).toArray, .bool true]) ∧ Below W.heap.size W w') := fun W hW => by
    have g := Rn.get_any (h.below hW).r (k : Int)
    obtain ⟨g1, g2⟩ := hu.get hu.lo (Nat.le_refl k)
    rw [g1, g2] at g
    exact g
  have CU : Hid (∀ W, Below w.heap.size w W → Calls Tryz.prog 30 #[.pointer (some ⟨X.sb, 0, none⟩), .int .i64 (k : Int)] W fun e w' => e = .returned (.agg #[.int .u16 (s.use k).1, .int .u16 (s.use k).2]) ∧ Below W.heap.size W w') := fun W hW => used_any (h.below hW) hf k hk
  have CS : Hid (∀ W, Below w.heap.size w W → Calls Tryz.prog 45 #[.agg #[.slice ao G.l.length cp, .int .i64 G.cap, .int .i64 G.fuel], .agg (stV (s.at G k)).toArray, .agg #[.int .u16 (s.use k).1, .int .u16 (s.use k).2]] W fun e w' => e = .returned (.tuple #[.agg (stV (s.at G (k + 1))).toArray, .int .i64 0]) ∧ Below W.heap.size W w') := fun W hW => by
    have hl := (h.below hW).l
    rw [hcv] at hl
    have g := Step_any _ G.l G.cap G.fuel (s.at G k) (s.use k).1 (s.use k).2 W hl hgs.wf hi0 hi1
    rw [hF] at g
    exact g
  have CP : Hid (∀ W, Below w.heap.size w W → Calls Tryz.prog 21 #[.pointer (some ⟨X.rb, 0, none⟩), .agg (stV (s.at G (k + 1))).toArray] W fun e w' => e = .returned (.int .i64 0) ∧ (∃ a' L', Sn w' lo hi X G s a' L' ∧ Up s G a' L' (k + 1) ∧ a' + L'.length = k + 2 ∧ (a' = a ∨ a' + 14 = k)) ∧ Grows (fun q => q = X.rb ∨ q = X.pb) W w') := fun W hW => by
    have H := h.below hW
    have g := Rn.put_any H.r (s.at G (k + 1)) ⟨hgt.wf, by rw [hfr1]; omega, by rw [hfr1]; omega⟩
    rw [he] at g
    exact g.mono (by rintro e w' ⟨rfl, hp⟩; exact ⟨rfl, ⟨_, _, H.putR hp.1 hp.2, hup, hlen, hlo⟩, hp.2⟩)
  have HZ : Hid ((Tryz.prog.info? 44).bind (·.zero) = some (.agg zeroS.toArray)) := Tryz.zero44
  have ZS := zeroS_size
  have HN := st_size hgs.wf
  have HL := st_len hgs.wf
  have HO := st_one hgs.wf
  have HNt := st_size hgt.wf
  have HLt := st_len hgt.wf
  have HOt := st_one hgt.wf
  have HXt := hid_into (stV_c hgt.wf).over
  have Hh := hid_into h
  have HW : Hid (IntKind.i64.wrap (s.st + 1) = s.st + 1) := by simp [IntKind.wrap, IntKind.bits, IntKind.signed, Hid]; omega
  obtain ⟨hst1, hst2⟩ := hst
  obtain ⟨ov, hov'⟩ : ∃ ov, ov = (s.at G (k + 1)).over := ⟨_, rfl⟩
  rw [← hov'] at HXt ⊢
  generalize stV (s.at G k) = cs at *
  generalize stV (s.at G (k + 1)) = ts at *
  generalize (s.use k).1 = i0 at *
  generalize (s.use k).2 = i1 at *
  have HK := hid_into hk
  obtain ⟨kk, hkk⟩ : ∃ kk : Int, kk = (k : Int) := ⟨_, rfl⟩
  rw [← hkk] at CG CU ⊢
  clear h hgs hgt hE hstep hfr1 hiS he hup hlen hlo hi0 hi1 hF hu hov hfr hcv hm hcap hG hf hk HK hkk hov'
  go_enter Tryz.func28, Tryz.ntmps28
  have c5 := (HC.out w (Below.refl _ _)).2
  go_upto_region 2 with (go_big_may; first
    | (go_at_call 34; refine (CG.out _ (Below.refl _ _)).mono ?_; rintro e w2 ⟨rfl, B2⟩; clear c5)
    | (refine wpList_alloc_row rfl 44 rfl zeroS HZ.out ?_; intro W1 hc1 B1 _)
    | (refine wpList_store_rw rfl 44 (.tmp 5) (.tmp 16) rfl w2.heap.size zeroS cs 44 rfl rfl ?_ ZS HL HO.out ?_; exact hc1; intro W3 hc3 O3))
  have HB3 : Hid (Below w.heap.size w W3) := (B2.trans (B1.mono B2.size)).trans (O3.below B2.size)
  have HSk : Hid (∀ V, Below W3.heap.size W3 V → (V.cell? ⟨X.sb, 0, none⟩ = some (.slice ao G.l.length cp) ∧ V.cell? ⟨X.sb, 1, none⟩ = some (.int .i64 G.cap) ∧ V.cell? ⟨X.sb, 2, none⟩ = some (.int .i64 G.fuel)) ∧ V.rangeAt w2.heap.size 0 cs) := fun V hV => ⟨(HC.out V (HB3.out.trans (hV.mono HB3.out.size))).1, (hc3.below hV hc3.lt).range⟩
  clear B2 B1 O3 hc1
  go_cut [7, 8] (fun tb te wx => ∃ b, tb = .pointer (some ⟨b, 0, none⟩) ∧ te = .int .i64 0 ∧ W3.heap.size ≤ b ∧ Cw wx b ts 44 ∧ Below W3.heap.size W3 wx)
  case first =>
    have S0 := HSk.out W3.drew (Below.refl _ _).drew
    have HB0 : Hid (Below W3.heap.size W3 W3.drew) := (Below.refl _ _).drew
    try dsimp only at S0
    refine wp_region_held (S := fun V => (V.cell? ⟨X.sb, 0, none⟩ = some (.slice ao G.l.length cp) ∧ V.cell? ⟨X.sb, 1, none⟩ = some (.int .i64 G.cap) ∧ V.cell? ⟨X.sb, 2, none⟩ = some (.int .i64 G.fuel)) ∧ V.rangeAt w2.heap.size 0 cs) (by kernel_rfl) ?_
    change wpAnyH _ _ _ _ _ _ _ _ (World.drew _)
    refine wpAnyH_take (i := 0) (v := .pointer (some ⟨X.sb, 0, none⟩)) rfl (by kernel_rfl) (by kernel_rfl) (by kernel_rfl) (fun _ _ _ h => h) (Or.inl ⟨by kernel_rfl, by intro V _; go_simp⟩) S0 ?_
    refine wpAnyH_take (i := 1) (v := .pointer (some ⟨X.sb, 0, none⟩)) rfl (by kernel_rfl) (by kernel_rfl) (by kernel_rfl) (fun _ _ _ h => h) (Or.inl ⟨by kernel_rfl, by intro V _; go_simp⟩) S0 ?_
    refine wpAnyH_take (i := 2) (v := .pointer (some ⟨X.sb, 0, none⟩)) rfl (by kernel_rfl) (by kernel_rfl) (by kernel_rfl) (fun _ _ _ h => h) (Or.inl ⟨by kernel_rfl, by intro V _; go_simp⟩) S0 ?_
    refine wpAnyH_take (i := 3) (v := .agg #[.slice ao G.l.length cp, .int .i64 G.cap, .int .i64 G.fuel]) rfl (by kernel_rfl) (by kernel_rfl) (by kernel_rfl) (fun _ _ _ h => h) (Or.inl ⟨by kernel_rfl, by intro V hV; obtain ⟨⟨y0, y1, y2⟩, _⟩ := hV; go_simp⟩) S0 ?_
    refine wpAnyH_take (i := 4) (v := .agg cs.toArray) rfl (by kernel_rfl) (by kernel_rfl) (by kernel_rfl) (fun _ _ _ h => h) (yieldsIf_load_mid (by kernel_rfl) 44 (.tmp 5) rfl w2.heap.size 0 (by kernel_rfl) cs _ (fun V h => h.2) Tryz.underlying44 rfl HN.out) S0 ?_
    refine wpAnyH_take (i := 5) (v := .pointer (some ⟨X.sb, 0, none⟩)) rfl (by kernel_rfl) (by kernel_rfl) (by kernel_rfl) (fun _ _ _ h => h) (Or.inl ⟨by kernel_rfl, by intro V _; go_simp⟩) S0 ?_
    refine wpAnyH_take (i := 6) (v := .int .i64 kk) rfl (by kernel_rfl) (by kernel_rfl) (by kernel_rfl) (fun _ _ _ h => h) (Or.inl ⟨by kernel_rfl, by intro V _; go_simp⟩) S0 ?_
    refine wpAnyH_ready (rs := [7, 12]) (by kernel_rfl) (by simp) ?_
    refine AllReadyH.cons rfl (fun KK hK => ?_) (AllReadyH.cons rfl (fun KK hK => ?_) AllReadyH.nil)
    · go_simp
      refine (CU.out _ (HB3.out.trans (HB0.out.mono HB3.out.size))).mono ?_
      rintro e w1 ⟨rfl, Bx⟩
      have HB1 := hid_into (HB0.out.trans (Bx.mono HB0.out.size))
      have S1 := HSk.out w1 HB1.out
      dsimp only
      refine hK.out _ _ (by exact S1) (fun _ => ?_)
      clear hK KK Bx
      refine wpAnyH_ready (rs := [8, 12]) (by kernel_rfl) (by simp) ?_
      try simp only [List.getElem_toArray, List.getElem_cons_zero, List.getElem_cons_succ, Act.put, List.setIfInBounds_toArray, List.set_cons_zero, List.set_cons_succ]
      refine AllReadyH.cons rfl (fun KK hK => ?_) (AllReadyH.cons rfl (fun KK hK => ?_) AllReadyH.nil)
      · go_simp
        refine (CS.out _ (HB3.out.trans (HB1.out.mono HB3.out.size))).mono ?_
        rintro e w2 ⟨rfl, Bx⟩
        have HB2 := hid_into (HB1.out.trans (Bx.mono HB1.out.size))
        have S2 := HSk.out w2 HB2.out
        dsimp only
        refine hK.out _ _ (by exact S2) (fun _ => ?_)
        clear hK KK Bx
        refine wpAnyH_take (i := 9) (v := .tuple #[.agg ts.toArray, .int .i64 0]) rfl (by kernel_rfl) (by kernel_rfl) (by kernel_rfl) (fun _ _ _ h => h) (Or.inl ⟨by kernel_rfl, by intro V _; go_simp⟩) S2 ?_
        refine wpAnyH_take (i := 10) (v := .agg ts.toArray) rfl (by kernel_rfl) (by kernel_rfl) (by kernel_rfl) (fun _ _ _ h => h) (Or.inl ⟨by kernel_rfl, by intro V _; go_simp⟩) S2 ?_
        refine wpAnyH_take (i := 11) (v := .int .i64 0) rfl (by kernel_rfl) (by kernel_rfl) (by kernel_rfl) (fun _ _ _ h => h) (Or.inl ⟨by kernel_rfl, by intro V _; go_simp⟩) S2 ?_
        refine wpAnyH_ready (rs := [12]) (by kernel_rfl) (by simp) ?_
        try simp only [List.getElem_toArray, List.getElem_cons_zero, List.getElem_cons_succ, Act.put, List.setIfInBounds_toArray, List.set_cons_zero, List.set_cons_succ]
        refine AllReadyH.cons rfl (fun KK hK => ?_) AllReadyH.nil
        refine step_alloc_row rfl 44 rfl zeroS HZ.out ?_
        intro w3 hn3 Ba _
        have NB : W3.heap.size ≤ w2.heap.size := HB2.out.size
        have HNB := hid_into NB
        clear NB
        have HB3 := hid_into (HB2.out.trans (Ba.mono HB2.out.size))
        have S3 := HSk.out w3 HB3.out
        refine hK.out _ _ (by exact S3) (fun _ => ?_)
        clear hK KK Ba
        refine wpAnyH_ready (rs := [13]) (by kernel_rfl) (by simp) ?_
        refine AllReadyH.cons rfl (fun KK hK => ?_) AllReadyH.nil
        refine step_store_rw rfl 44 (.tmp 7) (.tmp 28) rfl (w2.heap.size) zeroS ts 44 (by kernel_rfl) (by kernel_rfl) hn3 ZS HLt HOt ?_
        intro W5 NC O5
        have HBe := hid_into (HB3.out.trans (O5.below HNB.out))
        have Se := HSk.out W5 HBe.out
        refine hK.out _ _ (by exact Se) (fun _ => ?_)
        clear hK KK
        refine wpAnyH_take (i := 14) (v := .int .i64 0) rfl (by kernel_rfl) (by kernel_rfl) (by kernel_rfl) (fun _ _ _ h => h) (Or.inl ⟨by kernel_rfl, by intro V _; go_simp⟩) Se ?_
        simp only [List.getElem_toArray, List.getElem_cons_zero, List.getElem_cons_succ, Act.put, List.setIfInBounds_toArray, List.set_cons_zero, List.set_cons_succ]
        refine wpAnyH_done (by kernel_rfl) ?_ _
        go_wp2_with fail
        go_meet
        exact ⟨_, rfl, rfl, HNB.out, NC, HBe.out⟩
      · refine step_alloc_row rfl 44 rfl zeroS HZ.out ?_
        intro w2 hn2 Ba _
        have NB : W3.heap.size ≤ w1.heap.size := HB1.out.size
        have HNB := hid_into NB
        clear NB
        have HB2 := hid_into (HB1.out.trans (Ba.mono HB1.out.size))
        have S2 := HSk.out w2 HB2.out
        refine hK.out _ _ (by exact S2) (fun _ => ?_)
        clear hK KK Ba
        refine wpAnyH_ready (rs := [8]) (by kernel_rfl) (by simp) ?_
        try simp only [List.getElem_toArray, List.getElem_cons_zero, List.getElem_cons_succ, Act.put, List.setIfInBounds_toArray, List.set_cons_zero, List.set_cons_succ]
        refine AllReadyH.cons rfl (fun KK hK => ?_) AllReadyH.nil
        go_simp
        refine (CS.out _ (HB3.out.trans (HB2.out.mono HB3.out.size))).mono ?_
        rintro e w3 ⟨rfl, Bx⟩
        have HB3 := hid_into (HB2.out.trans (Bx.mono HB2.out.size))
        have S3 := HSk.out w3 HB3.out
        dsimp only
        refine hK.out _ _ (by exact S3) (fun _ => ?_)
        have hn3 := hn2.below Bx hn2.lt
        clear hn2
        clear hK KK Bx
        refine wpAnyH_take (i := 9) (v := .tuple #[.agg ts.toArray, .int .i64 0]) rfl (by kernel_rfl) (by kernel_rfl) (by kernel_rfl) (fun _ _ _ h => h) (Or.inl ⟨by kernel_rfl, by intro V _; go_simp⟩) S3 ?_
        refine wpAnyH_take (i := 10) (v := .agg ts.toArray) rfl (by kernel_rfl) (by kernel_rfl) (by kernel_rfl) (fun _ _ _ h => h) (Or.inl ⟨by kernel_rfl, by intro V _; go_simp⟩) S3 ?_
        refine wpAnyH_take (i := 11) (v := .int .i64 0) rfl (by kernel_rfl) (by kernel_rfl) (by kernel_rfl) (fun _ _ _ h => h) (Or.inl ⟨by kernel_rfl, by intro V _; go_simp⟩) S3 ?_
        refine wpAnyH_ready (rs := [13]) (by kernel_rfl) (by simp) ?_
        refine AllReadyH.cons rfl (fun KK hK => ?_) AllReadyH.nil
        refine step_store_rw rfl 44 (.tmp 7) (.tmp 28) rfl (w1.heap.size) zeroS ts 44 (by kernel_rfl) (by kernel_rfl) hn3 ZS HLt HOt ?_
        intro W5 NC O5
        have HBe := hid_into (HB3.out.trans (O5.below HNB.out))
        have Se := HSk.out W5 HBe.out
        refine hK.out _ _ (by exact Se) (fun _ => ?_)
        clear hK KK
        refine wpAnyH_take (i := 14) (v := .int .i64 0) rfl (by kernel_rfl) (by kernel_rfl) (by kernel_rfl) (fun _ _ _ h => h) (Or.inl ⟨by kernel_rfl, by intro V _; go_simp⟩) Se ?_
        simp only [List.getElem_toArray, List.getElem_cons_zero, List.getElem_cons_succ, Act.put, List.setIfInBounds_toArray, List.set_cons_zero, List.set_cons_succ]
        refine wpAnyH_done (by kernel_rfl) ?_ _
        go_wp2_with fail
        go_meet
        exact ⟨_, rfl, rfl, HNB.out, NC, HBe.out⟩
    · refine step_alloc_row rfl 44 rfl zeroS HZ.out ?_
      intro w1 hn1 Ba _
      have NB : W3.heap.size ≤ W3.drew.heap.size := HB0.out.size
      have HNB := hid_into NB
      clear NB
      have HB1 := hid_into (HB0.out.trans (Ba.mono HB0.out.size))
      have S1 := HSk.out w1 HB1.out
      refine hK.out _ _ (by exact S1) (fun _ => ?_)
      clear hK KK Ba
      refine wpAnyH_ready (rs := [7]) (by kernel_rfl) (by simp) ?_
      try simp only [List.getElem_toArray, List.getElem_cons_zero, List.getElem_cons_succ, Act.put, List.setIfInBounds_toArray, List.set_cons_zero, List.set_cons_succ]
      refine AllReadyH.cons rfl (fun KK hK => ?_) AllReadyH.nil
      go_simp
      refine (CU.out _ (HB3.out.trans (HB1.out.mono HB3.out.size))).mono ?_
      rintro e w2 ⟨rfl, Bx⟩
      have HB2 := hid_into (HB1.out.trans (Bx.mono HB1.out.size))
      have S2 := HSk.out w2 HB2.out
      dsimp only
      refine hK.out _ _ (by exact S2) (fun _ => ?_)
      have hn2 := hn1.below Bx hn1.lt
      clear hn1
      clear hK KK Bx
      refine wpAnyH_ready (rs := [8]) (by kernel_rfl) (by simp) ?_
      try simp only [List.getElem_toArray, List.getElem_cons_zero, List.getElem_cons_succ, Act.put, List.setIfInBounds_toArray, List.set_cons_zero, List.set_cons_succ]
      refine AllReadyH.cons rfl (fun KK hK => ?_) AllReadyH.nil
      go_simp
      refine (CS.out _ (HB3.out.trans (HB2.out.mono HB3.out.size))).mono ?_
      rintro e w3 ⟨rfl, Bx⟩
      have HB3 := hid_into (HB2.out.trans (Bx.mono HB2.out.size))
      have S3 := HSk.out w3 HB3.out
      dsimp only
      refine hK.out _ _ (by exact S3) (fun _ => ?_)
      have hn3 := hn2.below Bx hn2.lt
      clear hn2
      clear hK KK Bx
      refine wpAnyH_take (i := 9) (v := .tuple #[.agg ts.toArray, .int .i64 0]) rfl (by kernel_rfl) (by kernel_rfl) (by kernel_rfl) (fun _ _ _ h => h) (Or.inl ⟨by kernel_rfl, by intro V _; go_simp⟩) S3 ?_
      refine wpAnyH_take (i := 10) (v := .agg ts.toArray) rfl (by kernel_rfl) (by kernel_rfl) (by kernel_rfl) (fun _ _ _ h => h) (Or.inl ⟨by kernel_rfl, by intro V _; go_simp⟩) S3 ?_
      refine wpAnyH_take (i := 11) (v := .int .i64 0) rfl (by kernel_rfl) (by kernel_rfl) (by kernel_rfl) (fun _ _ _ h => h) (Or.inl ⟨by kernel_rfl, by intro V _; go_simp⟩) S3 ?_
      refine wpAnyH_ready (rs := [13]) (by kernel_rfl) (by simp) ?_
      refine AllReadyH.cons rfl (fun KK hK => ?_) AllReadyH.nil
      refine step_store_rw rfl 44 (.tmp 7) (.tmp 28) rfl (W3.drew.heap.size) zeroS ts 44 (by kernel_rfl) (by kernel_rfl) hn3 ZS HLt HOt ?_
      intro W5 NC O5
      have HBe := hid_into (HB3.out.trans (O5.below HNB.out))
      have Se := HSk.out W5 HBe.out
      refine hK.out _ _ (by exact Se) (fun _ => ?_)
      clear hK KK
      refine wpAnyH_take (i := 14) (v := .int .i64 0) rfl (by kernel_rfl) (by kernel_rfl) (by kernel_rfl) (fun _ _ _ h => h) (Or.inl ⟨by kernel_rfl, by intro V _; go_simp⟩) Se ?_
      simp only [List.getElem_toArray, List.getElem_cons_zero, List.getElem_cons_succ, Act.put, List.setIfInBounds_toArray, List.set_cons_zero, List.set_cons_succ]
      refine wpAnyH_done (by kernel_rfl) ?_ _
      go_wp2_with fail
      go_meet
      exact ⟨_, rfl, rfl, HNB.out, NC, HBe.out⟩

  case rest =>
    rename World => W4
    obtain ⟨b, rfl, rfl, hb, hcb, hB⟩ := hcut
    have HB4 : Hid (Below w.heap.size w W4) := HB3.out.trans (hB.mono HB3.out.size)
    have HS5 : Hid (∀ V, Below W4.heap.size W4 V → V.cell? ⟨X.sb, 5, none⟩ = some (.pointer (some ⟨X.rb, 0, none⟩)) ∧ V.rangeAt b 0 ts) := fun V hV => ⟨(HC.out V (HB4.out.trans (hV.mono HB4.out.size))).2, (hcb.below hV hcb.lt).range⟩
    have HQ : Hid (∀ w5, (∃ a' L', Sn w5 lo hi X G s a' L' ∧ Up s G a' L' (k + 1) ∧ a' + L'.length = k + 2 ∧ (a' = a ∨ a' + 14 = k)) → Grows (fun q => q = X.rb ∨ q = X.pb) W4.drew w5 → (w5.cell? ⟨X.sb, 5, none⟩ = some (.pointer (some ⟨X.rb, 0, none⟩)) ∧ w5.rangeAt b 0 ts) ∧ w5.cell? ⟨X.sb, 6, none⟩ = some (.int .i64 s.st) ∧ w5.frozen? ⟨X.sb, 6, none⟩ = false ∧ (w5.setCell ⟨X.sb, 6, none⟩ (.int .i64 (s.st + 1))).cell? ⟨b, 18, none⟩ = some (.bool ov)) := fun w5 H5 g5 => by
      obtain ⟨a', L', H, _⟩ := H5
      have hz := Hh.out.z
      have hzz := HB3.out.size
      have hcb5 : Cw w5 b ts 44 := hcb.keep (g5.block b hcb.lt (by have := H.x.r; have := H.x.p; omega))
      refine ⟨⟨H.cl.c5, hcb5.range⟩, H.cl.c6, H.c.frozen 6, ?_⟩
      have hcb6 := (Only.set X.sb 6 w5 (.int .i64 (s.st + 1))).cw hcb5 (by have := H.x.s; omega)
      exact (hcb6.cell 18).trans HXt.out
    clear HB3 HSk hc3 hB CG CU CS HC
    go_upto_region 5 with fail
    have S0 := HS5.out W4.drew ((Below.refl _ _).drew)
    refine wp_region_held (S := fun V => V.cell? ⟨X.sb, 5, none⟩ = some (.pointer (some ⟨X.rb, 0, none⟩)) ∧ V.rangeAt b 0 ts) (by kernel_rfl) ?_
    change wpAnyH _ _ _ _ _ _ _ _ (World.drew _)
    refine wpAnyH_take (i := 0) (v := .pointer (some ⟨X.sb, 0, none⟩)) rfl (by kernel_rfl) (by kernel_rfl) (by kernel_rfl) (fun _ _ _ h => h) (Or.inl ⟨by kernel_rfl, by intro V _; go_simp⟩) S0 ?_
    refine wpAnyH_take (i := 1) (v := .pointer (some ⟨X.sb, 0, none⟩)) rfl (by kernel_rfl) (by kernel_rfl) (by kernel_rfl) (fun _ _ _ h => h) (Or.inl ⟨by kernel_rfl, by intro V _; go_simp⟩) S0 ?_
    refine wpAnyH_take (i := 2) (v := .pointer (some ⟨X.sb, 5, none⟩)) rfl (by kernel_rfl) (by kernel_rfl) (by kernel_rfl) (fun _ _ _ h => h) (Or.inl ⟨by kernel_rfl, by intro V _; go_simp⟩) S0 ?_
    refine wpAnyH_take (i := 3) (v := .pointer (some ⟨X.rb, 0, none⟩)) rfl (by kernel_rfl) (by kernel_rfl) (by kernel_rfl) (fun _ _ _ h => h) (Or.inl ⟨by kernel_rfl, by intro V hV; obtain ⟨y5, _⟩ := hV; go_simp⟩) S0 ?_
    refine wpAnyH_take (i := 4) (v := .agg ts.toArray) rfl (by kernel_rfl) (by kernel_rfl) (by kernel_rfl) (fun _ _ _ h => h) (yieldsIf_load_mid (by kernel_rfl) 44 (.tmp 7) rfl b 0 (by kernel_rfl) ts _ (fun V h => h.2) Tryz.underlying44 rfl HNt.out) S0 ?_
    refine wpAnyH_ready (rs := [5]) (by kernel_rfl) (by simp) ?_
    try simp only [List.getElem_toArray, List.getElem_cons_zero, List.getElem_cons_succ, Act.put, List.setIfInBounds_toArray, List.set_cons_zero, List.set_cons_succ]
    refine AllReadyH.cons rfl (fun KK hK => ?_) AllReadyH.nil
    go_simp
    refine (CP.out _ (HB4.out.trans ((Below.refl _ _).drew.mono HB4.out.size))).mono ?_
    rintro e w5 ⟨rfl, H5, g5⟩
    obtain ⟨S5', c6, z6, hb5⟩ := HQ.out w5 H5 g5
    refine hK.out _ _ (by exact S5') (fun _ => ?_)
    clear hK KK
    try simp only [List.getElem_toArray, List.getElem_cons_zero, List.getElem_cons_succ, Act.put, List.setIfInBounds_toArray, List.set_cons_zero, List.set_cons_succ]
    refine wpAnyH_done (by kernel_rfl) ?_ _

    go_wp2_with fail
    go_ret
    obtain ⟨a', L', Hs, hrest⟩ := H5
    refine ⟨rfl, ⟨⟨a', L', ?_, hrest⟩, ?_⟩⟩
    · have hc := Hs.c.set 6 (.int .i64 (s.st + 1))
      exact Hs.putC (t := s.work 1 0) (by unfold Sx.cells Sa.work; rw [Int.add_zero]; exact hc) (Only.set X.sb 6 w5 (.int .i64 (s.st + 1))) rfl rfl
    · exact gtrans (gtrans (gb HB4.out) (Hh.out.below HB4.out |>.gr ⟨g5.os, g5.tape, g5.output, g5.size, g5.block⟩)) (Hs.gc (Only.set X.sb 6 w5 (.int .i64 (s.st + 1))))
end
end Go.Proofs.YtbfldcieibdapabGreat
end
