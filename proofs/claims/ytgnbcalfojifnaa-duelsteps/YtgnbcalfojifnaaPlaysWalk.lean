/-
  DuelPlays, its walk.
-/
import Derived.Test.YtgnbcalfojifnaaLawD
import Derived.Test.YtgnbcalfojifnaaResultsWalk
import Derived.Deep.RegionHeld3
namespace Go.Proofs.Ytgnbcalfojifnaa
open Go.RowKit
theorem yieldsIf_neq28 {ops : Array Oper} {S : World → Prop} {op : Oper} {a : Act} (hw : Region.wanted op (yielded ops a.tmps) = true) (x y : Operand) (ho : op.op = .binOp .neq 30 x y 30) (cs ds : List Value) (q : Bool) (hq : Hid (∀ w, (Op.equalIn 10000 30 (.agg cs.toArray) (.agg ds.toArray)).run Try.prog w = .ok q w)) (hx : a.eval x = .agg cs.toArray) (hy : a.eval y = .agg ds.toArray) : YieldsIf Try.prog ops S op (.bool (!q)) a :=
  .inl ⟨hw, fun w _ => by
    unfold execOp
    simp only [ho, hx, hy, Sem.run_bind, run_eqGuard_agg w .neq 30 x y cs.toArray ds.toArray guard28, Result.andThen_ok, run_neq_struct, hq.out w, Sem.run_pure]⟩
theorem guard43 : Try.prog.eqGuardType Try.prog.depth 43 = false := by kernel_rfl
theorem sizeOf41 (w : World) : (sizeOf 41).run Try.prog w = .ok 1 w := by kernel_rfl
theorem run_eqP (a b : Int) (w : World) : (Op.equalIn 10000 43 (.agg #[.int .u16 a, .int .u16 b]) (.agg #[.int .u16 a, .int .u16 b])).run Try.prog w = .ok true w := by
  have pe : ∀ x : Int, (Op.equalIn 9999 41 (.int .u16 x) (.int .u16 x)).run Try.prog w = .ok true w := fun x => by
    rw [run_equalIn_int w 9998 41 .u16 .u16 _ _ Try.underlying41]; simp
  rw [Op.equalIn]
  simp only [Sem.run_bind, run_underlying Try.underlying43, Result.andThen_ok, sizeOf41, Std.Legacy.Range.forIn_eq_forIn_range', Std.Legacy.Range.size, Nat.sub_zero, Nat.add_sub_cancel, Nat.div_one]
  have e : List.range' 0 2 1 = [0, 1] := rfl
  rw [e]
  simp [part, isAgg, run_underlying Try.underlying41, pe]
theorem yieldsIf_neq43 {ops : Array Oper} {S : World → Prop} {op : Oper} {a : Act} (hw : Region.wanted op (yielded ops a.tmps) = true) (x y : Operand) (ho : op.op = .binOp .neq 43 x y 43) (i j : Int) (hx : a.eval x = .agg #[.int .u16 i, .int .u16 j]) (hy : a.eval y = .agg #[.int .u16 i, .int .u16 j]) : YieldsIf Try.prog ops S op (.bool false) a :=
  .inl ⟨hw, fun w _ => by
    unfold execOp
    simp only [ho, hx, hy, Sem.run_bind, run_eqGuard_agg w .neq 43 x y #[.int .u16 i, .int .u16 j] #[.int .u16 i, .int .u16 j] guard43, Result.andThen_ok, run_neq_struct, run_eqP, Sem.run_pure]
    rfl⟩
set_option maxRecDepth 20000 in
set_option maxHeartbeats 8000000 in
theorem plays_walk (cv : Value) (l : List Ii) (cap fuel seed : Int) (iv : Value) (ps : List (Int × Int)) (w : World) (hl : Ls w cv l) (hseed : 0 ≤ seed ∧ seed < 4294967296) (hp : Ps w iv ps) (hin : InP ps) :
    Calls Try.prog 3 #[gameV cv cap fuel, .int .u32 seed, iv] w fun e w' => e = .returned (.bool true) ∧ Below w.heap.size w w' := by
  obtain ⟨ao, cp, rfl, hm⟩ := hl.len
  obtain ⟨ai, ci, rfl, hmi⟩ := hp.len
  have C9 := hid_into fun W => heavy_any ao ai l.length cp ps.length ci cap fuel W
  have P1 := hid_into (Pw.make w (.slice ao l.length cp) cap fuel)
  have hb0 : (true : Bool) = true := rfl
  unfold gameV
  cases hhv : hvy l.length ps.length with
  | true =>
    rw [hhv] at C9
    go_enter Try.func3, Try.ntmps3
    go_wp2_with (go_at_call 9; refine (C9.out _).mono ?_; rintro e w2 ⟨rfl, B2⟩; have P2 := hid_into (P1.out.next B2))
    go_ret
    exact ⟨rfl, P2.out.below⟩
  | false =>
    rw [hhv] at C9
    have hlen : ps.length ≤ 100 := by
      simp only [hvy, decide_eq_false_iff_not] at hhv
      omega
    have C10 : Hid (∀ W xv, Below w.heap.size w W → Ps W xv ps → Calls Try.prog 10 #[.agg #[.slice ao l.length cp, .int .i64 cap, .int .i64 fuel], .int .u32 seed, xv] W fun e w' => e = .returned (.tuple #[.agg (stV (playE l cap fuel seed ps).1).toArray, .int .i64 (playE l cap fuel seed ps).2]) ∧ Below W.heap.size W w') := fun W xv hW hx => Play_any _ l cap fuel seed xv ps W (hl.below hW) hx hin hseed
    have C11 : Hid (∀ W, Below w.heap.size w W → Calls Try.prog 11 #[.agg #[.slice ao l.length cp, .int .i64 cap, .int .i64 fuel], .int .u32 seed, .slice ai ps.length ci] W fun e w' => e = .returned (.tuple #[.agg (stV (playE l cap fuel seed ps).1).toArray, .int .i64 (playE l cap fuel seed ps).2]) ∧ Below W.heap.size W w') := fun W hW => rPlay_any _ l cap fuel seed _ ps W (hl.below hW) (hp.below hW) hin hseed (by omega)
    have C12 : Hid (∀ W xv, Below w.heap.size w W → Ps W xv ps → Calls Try.prog 12 #[.agg #[.slice ao l.length cp, .int .i64 cap, .int .i64 fuel], .int .u32 seed, xv] W fun e w' => StsP W l cap fuel seed ps e w') := fun W xv hW hx => States_any _ l cap fuel seed xv ps W (hl.below hW) hx hin hseed (by omega)
    have C13 : Hid (∀ W, Below w.heap.size w W → Calls Try.prog 13 #[.agg #[.slice ao l.length cp, .int .i64 cap, .int .i64 fuel], .int .u32 seed, .slice ai ps.length ci] W fun e w' => StsP W l cap fuel seed ps e w') := fun W hW => rStates_any _ l cap fuel seed _ ps W (hl.below hW) (hp.below hW) hin hseed (by omega)
    unfold StsP at C12 C13
    have hwf := playE_wf (l := l) (cap := cap) (fuel := fuel) hin hseed
    obtain ⟨ra, rb, rc, hR⟩ := resR_three (playE l cap fuel seed ps).1 cap
    have C14 : Hid (∀ W, Calls Try.prog 14 #[.agg (stV (playE l cap fuel seed ps).1).toArray, .agg #[.slice ao l.length cp, .int .i64 cap, .int .i64 fuel]] W fun e w' => e = .returned (.tuple #[.int .i64 ra, .int .i64 rb, .bool rc]) ∧ Below W.heap.size W w') := fun W => by have h := Result_any _ hwf (.slice ao l.length cp) cap fuel ⟨_, _, _, rfl⟩ W; rw [hR] at h; exact h
    have C15 : Hid (∀ W, Calls Try.prog 15 #[.agg (stV (playE l cap fuel seed ps).1).toArray, .agg #[.slice ao l.length cp, .int .i64 cap, .int .i64 fuel]] W fun e w' => e = .returned (.tuple #[.int .i64 ra, .int .i64 rb, .bool rc]) ∧ Below W.heap.size W w') := fun W => by have h := rResult_any _ hwf (.slice ao l.length cp) cap fuel ⟨_, _, _, rfl⟩ W; rw [hR] at h; exact h
    have HYl : Hid ((if chkG l cap fuel = 0 then startS seed :: goS l cap fuel (startS seed) ps else []).length ≤ 101) := by
      have hgn := goS_len l cap fuel ps (startS seed)
      refine hid_into ?_
      split
      · rw [List.length_cons]; omega
      · exact Nat.zero_le _
    generalize (if chkG l cap fuel = 0 then startS seed :: goS l cap fuel (startS seed) ps else []) = Y at C12 C13 HYl
    generalize chkG l cap fuel = ck at C12 C13
    have HN := st_size hwf
    have HL := st_len hwf
    have HO := st_one hwf
    have HE := run_neqS hwf
    generalize stV (playE l cap fuel seed ps).1 = es at C10 C11 C14 C15 HN HL HO HE
    generalize (playE l cap fuel seed ps).2 = er at C10 C11
    have HZ : Hid ((Try.prog.info? 30).bind (·.zero) = some (.agg zeroS.toArray)) := Try.zero30
    have ZS := zeroS_size
    have CK := hid_into known_any
    have HP := hid_into hp
    have Hlen := hid_into hlen
    clear hwf hR hl hp hin hm hseed hhv hmi
    go_enter Try.func3, Try.ntmps3
    go_upto_block 0 with (go_big_may; first
      | (go_at_call 9; refine (C9.out _).mono ?_; rintro e w2 ⟨rfl, B2⟩; have P2 := hid_into (P1.out.next B2); clear B2 P1 C9)
      | (have _p := P2; at_builtin; refine wpList_copy_ps _ rfl (.tmp 27) (.tmp 28) rfl w2.heap.size rfl ?_ ?_ (.slice ai ps.length ci) ps rfl ?_ ?_ ?_; exact Po.empty w2 (Nat.le_refl _); (rw [World.size_alloc]; omega); exact HP.out.below (P2.out.below.alloc P2.out.below.size _); (have := Hlen.out; omega); intro ax cx W3 hx3 B3; have P3 := hid_into ((P2.out.next (((Below.refl w2.heap.size w2).alloc (Nat.le_refl _) _).trans B3)).add hx3 (Stab.po _ _ _)); obtain ⟨k0, k1, k2⟩ := P3.out.cells; clear P2 hx3 B3)
      | (go_at_call 10; refine (C10.out _ _ P3.out.below P3.out.t.2.ls).mono ?_; rintro e w4 ⟨rfl, B4⟩; have P4 := hid_into (P3.out.next B4); clear P3 B4 k0 k1 k2 C10)
      | (have _p := P4; refine wpList_alloc_row rfl 30 rfl zeroS HZ.out ?_; intro W5 hn5 B5 _)
      | (refine wpList_store_rw rfl 30 (.tmp 8) (.tmp 35) rfl w4.heap.size zeroS es 30 rfl rfl ?_ ZS HL HO.out ?_; exact hn5; intro W6 hn6 O6; have P6 := hid_into (P4.out.fresh B5 O6 hn6); obtain ⟨k0, k1, k2⟩ := P6.out.cells; clear P4 B5 O6 hn6 hn5)
      | (go_at_call 11; refine (C11.out _ P6.out.below).mono ?_; rintro e w7 ⟨rfl, B7⟩; have P7 := hid_into (P6.out.next B7); clear P6 B7 k0 k1 k2 C11)
      | (have _p := P7; refine wpList_alloc_row rfl 30 rfl zeroS HZ.out ?_; intro W8 hn8 B8 _)
      | (refine wpList_store_rw rfl 30 (.tmp 10) (.tmp 42) rfl w7.heap.size zeroS es 30 rfl rfl ?_ ZS HL HO.out ?_; exact hn8; intro W9 hn9 O9; have P9 := hid_into (P7.out.fresh B8 O9 hn9); obtain ⟨k0, k1, k2⟩ := P9.out.cells; clear P7 B8 O9 hn9 hn8)
      | (go_at_call 12; refine (C12.out _ _ P9.out.below P9.out.t.1.1.2.ls).mono ?_; rintro e w10 ⟨vl, rfl, hol, B10⟩; obtain ⟨al, cl, rfl⟩ := hol.form; have P10 := hid_into ((P9.out.next B10).add hol (Stab.so _ _ _)); clear k0 k1 k2; obtain ⟨k0, k1, k2⟩ := P10.out.cells; clear P9 B10 hol C12)
      | (go_at_call 13; refine (C13.out _ P10.out.below).mono ?_; rintro e w11 ⟨vm, rfl, hom, B11⟩; obtain ⟨am, cm, rfl⟩ := hom.form; have P11 := hid_into ((P10.out.next B11).add hom (Stab.so _ _ _)); clear k0 k1 k2 P10 B11 hom C13)
      | (refine wpList_load_rw rfl 30 (.tmp 8) rfl w4.heap.size es 30 _ rfl ?_ Try.underlying30 rfl HN ?_; exact P11.out.t.1.1.1.2)
      | (refine wpList_load_rw rfl 30 (.tmp 10) rfl w7.heap.size es 30 _ rfl ?_ Try.underlying30 rfl HN ?_; exact P11.out.t.1.1.2)
      | (refine wpList_neq28 (by kernel_rfl) (.tmp 58) (.tmp 59) rfl es es true HE rfl rfl ?_))
    go_wp2_with fail
    go_loopw [16] (fun i wr => ∃ k : Nat, k ≤ Y.length ∧ i = .int .i64 (k : Int) ∧ Sm w11 wr) (fun i _ => Y.length - (intOf i).toNat)
    case atStart => exact ⟨0, Nat.zero_le _, rfl, Sm.refl _⟩
    case round =>
      obtain ⟨k, hk, rfl, hsm⟩ := hrel
      have PR := hid_into (P11.out.next (hsm.below _))
      have hYl := HYl.out
      by_cases hlt : k < Y.length
      · have hlt' : (k : Int) < Y.length := by omega
        obtain ⟨y, hy⟩ : ∃ y, Y[k]? = some y := ⟨_, List.getElem?_eq_getElem hlt⟩
        obtain ⟨gl, hal, _, _, rl⟩ := PR.out.t.1.2.at k y hy
        obtain ⟨gm, ham, _, _, rm⟩ := PR.out.t.2.at k y hy
        subst hal ham
        have hyw : y.Wf := PR.out.t.2.fit y (List.mem_of_getElem? hy)
        have HNc := st_size hyw
        have HEc := run_neqS hyw
        have S1 : wr.drew.rangeAt gl (k * 20) (stV y) ∧ wr.drew.rangeAt gm (k * 20) (stV y) := ⟨rl, rm⟩
        generalize stV y = cs at S1 HNc HEc
        have Hsm := hid_into hsm
        clear hyw rl rm hy hsm PR
        go_upto_region 13 with fail
        refine wp_region_held (S := fun V => V.rangeAt gl (k * 20) cs ∧ V.rangeAt gm (k * 20) cs) (by kernel_rfl) ?_
        change wpAnyH _ _ _ _ _ _ _ _ (World.drew _)
        refine wpAnyH_take (i := 0) (v := .slice (some ⟨gl, 0, none⟩) Y.length cl) rfl (by kernel_rfl) (by kernel_rfl) (by kernel_rfl) (fun _ _ _ h => h) (Or.inl ⟨by kernel_rfl, by intro V _; go_simp⟩) S1 ?_
        refine wpAnyH_take (i := 1) (v := .int .i64 (k : Int)) rfl (by kernel_rfl) (by kernel_rfl) (by kernel_rfl) (fun _ _ _ h => h) (Or.inl ⟨by kernel_rfl, by intro V _; go_simp⟩) S1 ?_
        refine wpAnyH_take (i := 2) (v := .pointer (some ⟨gl, k * 20, none⟩)) rfl (by kernel_rfl) (by kernel_rfl) (by kernel_rfl) (fun _ _ _ h => h) (Or.inl ⟨by kernel_rfl, by intro V _; go_simp⟩) S1 ?_
        refine wpAnyH_take (i := 3) (v := .agg cs.toArray) rfl (by kernel_rfl) (by kernel_rfl) (by kernel_rfl) (fun _ _ _ h => h) (yieldsIf_load_mid (by kernel_rfl) 30 (.tmp 86) rfl gl (k * 20) (by kernel_rfl) cs _ (fun V h => h.1) Try.underlying30 rfl HNc.out) S1 ?_
        refine wpAnyH_take (i := 4) (v := .slice (some ⟨gm, 0, none⟩) Y.length cm) rfl (by kernel_rfl) (by kernel_rfl) (by kernel_rfl) (fun _ _ _ h => h) (Or.inl ⟨by kernel_rfl, by intro V _; go_simp⟩) S1 ?_
        refine wpAnyH_take (i := 5) (v := .int .i64 (k : Int)) rfl (by kernel_rfl) (by kernel_rfl) (by kernel_rfl) (fun _ _ _ h => h) (Or.inl ⟨by kernel_rfl, by intro V _; go_simp⟩) S1 ?_
        refine wpAnyH_take (i := 6) (v := .pointer (some ⟨gm, k * 20, none⟩)) rfl (by kernel_rfl) (by kernel_rfl) (by kernel_rfl) (fun _ _ _ h => h) (Or.inl ⟨by kernel_rfl, by intro V _; go_simp⟩) S1 ?_
        refine wpAnyH_take (i := 7) (v := .agg cs.toArray) rfl (by kernel_rfl) (by kernel_rfl) (by kernel_rfl) (fun _ _ _ h => h) (yieldsIf_load_mid (by kernel_rfl) 30 (.tmp 90) rfl gm (k * 20) (by kernel_rfl) cs _ (fun V h => h.2) Try.underlying30 rfl HNc.out) S1 ?_
        refine wpAnyH_take (i := 8) (v := .bool false) rfl (by kernel_rfl) (by kernel_rfl) (by kernel_rfl) (fun _ _ _ h => h) (yieldsIf_neq28 (by kernel_rfl) (.tmp 87) (.tmp 91) rfl cs cs true HEc (by kernel_rfl) (by kernel_rfl)) S1 ?_
        simp only [List.getElem_toArray, List.getElem_cons_zero, List.getElem_cons_succ, Act.put, List.setIfInBounds_toArray, List.set_cons_zero, List.set_cons_succ]
        refine wpAnyH_done (by kernel_rfl) ?_ _
        go_wp2_with fail
        go_roundw
        case rel => exact ⟨k + 1, by omega, by go_num, Hsm.out.trans ⟨rfl, rfl, rfl, rfl⟩⟩
        case measure => simp [intOf]; omega
      · have hlt' : ¬ (k : Int) < Y.length := by omega
        clear P11
        obtain ⟨U, rfl⟩ : ∃ U : World, U = wr := ⟨_, rfl⟩
        go_upto_block 0 with fail
        go_loopw [17] (fun i wr => ∃ k : Nat, k ≤ ps.length ∧ i = .int .i64 (k : Int) ∧ Sm U wr) (fun i _ => ps.length - (intOf i).toNat)
        case atStart => exact ⟨0, Nat.zero_le _, rfl, Sm.refl _⟩
        case round =>
          obtain ⟨j, hj, rfl, hsm2⟩ := hrel
          have PS := hid_into (PR.out.next (hsm2.below _))
          have hl100 := Hlen.out
          by_cases hlt2 : j < ps.length
          · have hlt2' : (j : Int) < ps.length := by omega
            obtain ⟨p, hpk⟩ : ∃ p, ps[j]? = some p := ⟨_, List.getElem?_eq_getElem hlt2⟩
            obtain ⟨ga, off, hao, x0, x1⟩ := HP.out.at PS.out.below (Nat.le_refl _) _ _ hpk
            subst hao
            obtain ⟨gx, ofx, hax, y0, y1⟩ := PS.out.t.1.1.1.1.2.ls.at (Below.refl wr.heap.size wr) (Nat.le_refl _) _ _ hpk
            subst hax
            have Hsm2 := hid_into hsm2
            clear hpk hsm2 PS
            go_upto_region 18 with fail
            have S1 : (fun V => V.cell? ⟨gx, ofx + j * 2, none⟩ = some (.int .u16 p.1) ∧ V.cell? ⟨gx, ofx + j * 2 + 1, none⟩ = some (.int .u16 p.2) ∧ V.cell? ⟨ga, off + j * 2, none⟩ = some (.int .u16 p.1) ∧ V.cell? ⟨ga, off + j * 2 + 1, none⟩ = some (.int .u16 p.2)) wr.drew := ⟨y0, y1, x0, x1⟩
            dsimp only at S1
            refine wp_region_held (S := fun V => V.cell? ⟨gx, ofx + j * 2, none⟩ = some (.int .u16 p.1) ∧ V.cell? ⟨gx, ofx + j * 2 + 1, none⟩ = some (.int .u16 p.2) ∧ V.cell? ⟨ga, off + j * 2, none⟩ = some (.int .u16 p.1) ∧ V.cell? ⟨ga, off + j * 2 + 1, none⟩ = some (.int .u16 p.2)) (by kernel_rfl) ?_
            change wpAnyH _ _ _ _ _ _ _ _ (World.drew _)
            refine wpAnyH_take (i := 0) (v := .slice (some ⟨gx, ofx, none⟩) ps.length cx) rfl (by kernel_rfl) (by kernel_rfl) (by kernel_rfl) (fun _ _ _ h => h) (Or.inl ⟨by kernel_rfl, by intro V _; go_simp⟩) S1 ?_
            refine wpAnyH_take (i := 1) (v := .int .i64 (j : Int)) rfl (by kernel_rfl) (by kernel_rfl) (by kernel_rfl) (fun _ _ _ h => h) (Or.inl ⟨by kernel_rfl, by intro V _; go_simp⟩) S1 ?_
            refine wpAnyH_take (i := 2) (v := .pointer (some ⟨gx, ofx + j * 2, none⟩)) rfl (by kernel_rfl) (by kernel_rfl) (by kernel_rfl) (fun _ _ _ h => h) (Or.inl ⟨by kernel_rfl, by intro V _; go_simp⟩) S1 ?_
            refine wpAnyH_take (i := 3) (v := .agg #[.int .u16 p.1, .int .u16 p.2]) rfl (by kernel_rfl) (by kernel_rfl) (by kernel_rfl) (fun _ _ _ h => h) (Or.inl ⟨by kernel_rfl, by intro V hV; obtain ⟨q0, q1, q2, q3⟩ := hV; go_simp⟩) S1 ?_
            refine wpAnyH_take (i := 4) (v := .slice (some ⟨ga, off, none⟩) ps.length ci) rfl (by kernel_rfl) (by kernel_rfl) (by kernel_rfl) (fun _ _ _ h => h) (Or.inl ⟨by kernel_rfl, by intro V _; go_simp⟩) S1 ?_
            refine wpAnyH_take (i := 5) (v := .int .i64 (j : Int)) rfl (by kernel_rfl) (by kernel_rfl) (by kernel_rfl) (fun _ _ _ h => h) (Or.inl ⟨by kernel_rfl, by intro V _; go_simp⟩) S1 ?_
            refine wpAnyH_take (i := 6) (v := .pointer (some ⟨ga, off + j * 2, none⟩)) rfl (by kernel_rfl) (by kernel_rfl) (by kernel_rfl) (fun _ _ _ h => h) (Or.inl ⟨by kernel_rfl, by intro V _; go_simp⟩) S1 ?_
            refine wpAnyH_take (i := 7) (v := .agg #[.int .u16 p.1, .int .u16 p.2]) rfl (by kernel_rfl) (by kernel_rfl) (by kernel_rfl) (fun _ _ _ h => h) (Or.inl ⟨by kernel_rfl, by intro V hV; obtain ⟨q0, q1, q2, q3⟩ := hV; go_simp⟩) S1 ?_
            refine wpAnyH_take (i := 8) (v := .bool false) rfl (by kernel_rfl) (by kernel_rfl) (by kernel_rfl) (fun _ _ _ h => h) (yieldsIf_neq43 (by kernel_rfl) (.tmp 102) (.tmp 106) rfl p.1 p.2 (by kernel_rfl) (by kernel_rfl)) S1 ?_
            simp only [List.getElem_toArray, List.getElem_cons_zero, List.getElem_cons_succ, Act.put, List.setIfInBounds_toArray, List.set_cons_zero, List.set_cons_succ]
            refine wpAnyH_done (by kernel_rfl) ?_ _
            go_wp2_with fail
            go_roundw
            case rel => exact ⟨j + 1, by omega, by go_num, Hsm2.out.trans ⟨rfl, rfl, rfl, rfl⟩⟩
            case measure => simp [intOf]; omega
          · have hlt2' : ¬ (j : Int) < ps.length := by omega
            obtain ⟨k0, k1, k2⟩ := PS.out.cells
            go_wp2_with (first
              | (refine wpList_load_rw rfl 30 (.tmp 8) rfl w4.heap.size es 30 _ rfl ?_ Try.underlying30 rfl HN ?_; exact PS.out.t.1.1.1.2)
              | (refine wpList_load_rw rfl 30 (.tmp 10) rfl w7.heap.size es 30 _ rfl ?_ Try.underlying30 rfl HN ?_; exact PS.out.t.1.1.2)
              | (go_at_call 14; refine (C14.out _).mono ?_; rintro e w12 ⟨rfl, B12⟩; replace PS := hid_into (PS.out.next B12); clear k0 k1 k2 B12; obtain ⟨k0, k1, k2⟩ := PS.out.cells)
              | (go_at_call 15; refine (C15.out _).mono ?_; rintro e w13 ⟨rfl, B13⟩; replace PS := hid_into (PS.out.next B13); clear k0 k1 k2 B13)
              | (go_at_call 16; refine (CK.out _).mono ?_; rintro e w14 ⟨rfl, B14⟩; replace PS := hid_into (PS.out.next B14); clear B14))
            go_ret
            exact ⟨rfl, PS.out.below⟩
end Go.Proofs.Ytgnbcalfojifnaa
