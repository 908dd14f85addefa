/-
  Joined from: SegSegs, SegDec, SegNum.
-/
import Derived.Test.YtnkjhooeklodcaaGreatDoorM33
import Derived.Test.YtnkjhooeklodcaaGreatDoorM30
import Derived.Laws.IdiomStrings
section
/-
  segments: the names that are a prefix's segments, out of all names of the disk.
-/
namespace Go.Proofs.YtnkjhooeklodcaaGreatDoor
open Go.RowKit Go.Maps Go.Sort

def segsN (ns : List (List UInt8)) (pre : List UInt8) : List (List UInt8) := ns.filter fun n => isSeg n pre
structure Sg (w1 : World) (t : Nat) (wr : World) (tv : Value) (L : List (List UInt8)) : Prop where
  blk : Cw wr t [tv] 69
  row : Ot wr 0 tv L
  own : ∀ k, tv.ownBlock = some k → w1.heap.size ≤ k
  g : Grows (fun k => k = t) w1 wr
variable {w1 wr w2 : World} {t : Nat} {tv : Value} {L : List (List UInt8)}
theorem Sg.below (h : Sg w1 t wr tv L) (hb : Below wr.heap.size wr w2) : Sg w1 t w2 tv L :=
  ⟨h.blk.below hb h.blk.lt, Fr.ownsRow_keep h.row fun k _ hlt => hb.block k hlt, h.own, ⟨hb.os.trans h.g.os, hb.tape.trans h.g.tape, hb.output.trans h.g.output, Nat.le_trans h.g.size hb.size, fun k hk hn => (hb.block k (Nat.lt_of_lt_of_le hk h.g.size)).trans (h.g.block k hk hn)⟩⟩
theorem Ot.cell {w : World} {base : Nat} {ns : List (List UInt8)} {g n cap : Nat} (h : Ot w base (.slice (some ⟨g, 0, none⟩) n cap) ns) {i : Nat} {x : List UInt8} (hx : ns[i]? = some x) : w.cell? ⟨g, i, none⟩ = some (encStr x) := by
  have := World.ownsRow.cells h (g := g) rfl i (encStr x) (by simp [hx])
  simpa [Addr.add_lit] using this
section
variable {w : World} {ops : Array Oper} {o : Oper} {a : Act} {K : Act → World → Prop} {Q : Exit → Act → World → Prop} {E : Prop}
theorem step_made_str (hgd : o.guard = none) (x : Operand) (ho : o.op = .buildSlice 69 1 #[(0, x)]) (s : List UInt8) (hx : a.eval x = encStr s)
    (h : K (a.put o.dst (.slice (some ⟨w.heap.size, 0, none⟩) 1 1)) (w.alloc (.cells #[encStr s] 9))) : if Region.wanted o (yielded ops a.tmps) = true then Oper.wp Tryz.prog o a w K Q else E := by
  have hw : Region.wanted o (yielded ops a.tmps) = true := by simp [Region.wanted, hgd]
  rw [if_pos hw]
  unfold Oper.wp execOp
  simp only [ho, Sem.run_bind, List.map_toArray, List.map_cons, List.map_nil, hx, mk_str1, Result.andThen_ok]
  exact h
theorem step_append_nm (hgd : o.guard = none) (s x : Operand)
    (ho : o.op = .call { callee := .builtin .append, args := #[s, x], argTypes := #[69, 69] })
    (base : Nat) (v : Value) (ss : List (List UInt8)) (hs : a.eval s = v) (hown : Ot w base v ss) (B : Nat) (n : List UInt8) (hx : a.eval x = .slice (some ⟨B, 0, none⟩) 1 1) (hb : w.cell? ⟨B, 0, none⟩ = some (encStr n))
    (h63 : ss.length ≤ 1000000000) (hbase : base ≤ w.heap.size)
    (h : ∀ ao cap w', Ot w' base (.slice ao (ss.length + 1) cap) (ss ++ [n]) → w.grownBy w' v.ownBlock → ((Value.slice ao (ss.length + 1) cap).ownBlock = v.ownBlock ∨ (Value.slice ao (ss.length + 1) cap).ownBlock = some w.heap.size) →
      K (a.put o.dst (.slice ao (ss.length + 1) cap)) w') : if Region.wanted o (yielded ops a.tmps) = true then Oper.wp Tryz.prog o a w K Q else E := by
  have hw : Region.wanted o (yielded ops a.tmps) = true := by simp [Region.wanted, hgd]
  rw [if_pos hw]
  obtain ⟨i0, hi, hz0, hz1, hz2⟩ := info_parts Tryz.info9p
  obtain ⟨v', w', hrun, h2, h3, _, h5⟩ := run_append_own_at (P := Tryz.prog) w base 69 o.type 9 i0 (.string ⟨#[]⟩) 1 16 Tryz.underlying69 hi hz0 hz1 hz2 rfl (by decide) v ss.length (ss.map encStr) hown ⟨B, 0, none⟩ 1 1 [encStr n] rfl
    (by intro j u hu
        cases j with
        | zero => rw [Addr.add_lit]; simp at hu; subst hu; exact hb
        | succ j => simp at hu) (by intro u hu; simp at hu; subst hu; rfl) (by unfold maxLen; omega) (by omega) hbase
  have h2' : Ot w' base v' (ss ++ [n]) := by
    unfold Ot
    rw [List.length_append]
    simpa using h2
  obtain ⟨ao, cap, hv⟩ := h2'.form
  rw [List.length_append] at hv
  subst hv
  unfold Oper.wp execOp
  simp only [ho, resolve, invoke, builtin, Sem.run_bind, Sem.run_pure, Result.andThen_ok, List.map_toArray, List.map_cons, List.map_nil, hs, hx, hrun]
  exact h ao cap w' h2' h3 h5
end
theorem enters44 : ∀ args w, (callFunc 44 args).run Tryz.prog w = .ok (.enter 44 args) w := enters_of Tryz.func44 (by kernel_rfl) rfl
theorem Sg.add (h : Sg w1 t wr tv L) (x : List UInt8) {w6 : World} {tv' : Value} (ho : Ot w6 0 tv' (L ++ [x])) (hg : (wr.alloc (.cells #[encStr x] 9)).grownBy w6 tv.ownBlock) (hat : tv'.ownBlock = tv.ownBlock ∨ tv'.ownBlock = some (wr.alloc (.cells #[encStr x] 9)).heap.size) (ht : t < w1.heap.size) : Sg w1 t (w6.setCell ⟨t, 0, none⟩ tv') tv' (L ++ [x]) ∧ Cw w6 t [tv] 69 := by
  have hA : Below wr.heap.size wr (wr.alloc (.cells #[encStr x] 9)) := (Below.refl _ _).alloc (Nat.le_refl _) _
  have h2 := h.below hA
  have hsz := h2.g.size
  have hno : ∀ k, tv'.ownBlock = some k → w1.heap.size ≤ k := fun k hk => by
    rcases hat with e | e
    · exact h.own k (by rw [← e]; exact hk)
    · rw [e] at hk
      have := Option.some.inj hk
      omega
  have hb6 : Cw w6 t [tv] 69 := h2.blk.keep (hg.block t h2.blk.lt fun e => by have := h.own t e.symm; omega)
  refine ⟨⟨hb6.set 0 tv', Fr.ownsRow_keep ho fun k hk _ => set_other _ _ _ _ _ fun e => by have := hno k hk; omega, hno, ⟨hg.os.trans h2.g.os, hg.tape.trans h2.g.tape, hg.output.trans h2.g.output, by rw [set_size]; exact Nat.le_trans hsz hg.size, fun k hk hn => ?_⟩⟩, hb6⟩
  rw [set_other _ _ _ _ _ hn, hg.block k (Nat.lt_of_lt_of_le hk hsz) fun e => by have := h.own k e.symm; omega]
  exact h2.g.block k hk hn
set_option maxHeartbeats 4000000 in
set_option maxRecDepth 100000 in
theorem segClo_any {w : World} {D : Nat → Prop} {sb : Nat} {u : Ud} (h : Pd w D sb u) (pre : List UInt8) (p t : Nat) (c0 : w.cell? ⟨p, 0, none⟩ = some (.pointer (some ⟨t, 0, none⟩))) (c1 : w.cell? ⟨p + 1, 0, none⟩ = some (.func (.func 44) #[] #[])) (ht : Cw w t [.slice none 0 0] 69) (hpt : p ≠ t)
    (hnl : ∀ n ∈ u.us.map (·.1), n.length ≤ 140737488355328) (hcn : u.us.length ≤ 1000000) :
    Calls Tryz.prog 108 #[.pointer (some ⟨sb, 0, none⟩), encStr pre, .pointer (some ⟨p + 1, 0, none⟩), .pointer (some ⟨p, 0, none⟩)] w fun e w' => e = .returned (.int .i64 0) ∧ ∃ tv, Sg w t w' tv (segsN (u.us.map (·.1)) pre) := by
  have CNm := pNames h
  have hpl := World.block_lt_of_cell? w _ c0
  have eg := enters44
  obtain ⟨ns, hns⟩ : ∃ ns, ns = u.us.map (·.1) := ⟨_, rfl⟩
  rw [← hns] at CNm hnl ⊢
  have hlen : ns.length ≤ 1000000 := by rw [hns, List.length_map]; exact hcn
  have HNL := hid_into hnl
  clear h hns hnl hcn
  go_enter Tryz.func108, Tryz.ntmps108
  go_wp2_with fail
  refine CNm.mono ?_
  rintro e w1 ⟨v1, rfl, ho1, hB1⟩
  have ht1 := ht.below hB1 ht.lt
  have hs1 := hB1.size
  have hptl := ht.lt
  obtain ⟨ao1, cap1, hv1⟩ := ho1.form
  subst hv1
  have hnb : ∀ k, (Value.slice ao1 ns.length cap1).ownBlock = some k → w.heap.size ≤ k ∧ k < w1.heap.size := fun k hk => World.ownsRow.lt ho1 k hk
  have hst : Hid (Sg w1 t w1 (.slice none 0 0) (segsN (ns.take 0) pre)) := ⟨ht1, World.ownsRow_nil _ _ _ _, (fun k hk => by cases hk), Grows.refl _ _⟩
  have HO := hid_into ho1
  have HNB := hid_into hnb
  have HBB := hid_into hB1
  clear ho1 hnb ht1 CNm hB1 ht
  go_wp2_with fail
  go_loopw [13] (fun i wr => ∃ k : Nat, k ≤ ns.length ∧ i = .int .i64 (k : Int) ∧ Hid (∃ tv, Sg w1 t wr tv (segsN (ns.take k) pre))) (fun i _ => ns.length - (intOf i).toNat)
  case atStart => exact ⟨0, Nat.zero_le _, rfl, ⟨_, hst.out⟩⟩
  case round =>
    clear hst
    obtain ⟨k, hk, rfl, HS⟩ := hrel
    by_cases hlt : k < ns.length
    · obtain ⟨x, hx⟩ : ∃ x, ns[k]? = some x := ⟨_, List.getElem?_eq_getElem hlt⟩
      obtain ⟨tv, hS⟩ := HS.out
      have hrow : Ot wr w.heap.size (.slice ao1 ns.length cap1) ns := Fr.ownsRow_keep HO.out fun k2 hk2 _ => hS.g.block k2 (HNB.out k2 hk2).2 fun e => by have := (HNB.out k2 hk2).1; omega
      obtain ⟨g, hg⟩ : ∃ g, ao1 = some ⟨g, 0, none⟩ := by
        rcases hrow.2 with ⟨_, h2⟩ | ⟨g, cap, cur, h2, _⟩
        · omega
        · simp only [Value.slice.injEq] at h2
          exact ⟨g, h2.1⟩
      subst hg
      have y1 := hrow.cell hx
      have hxl := HNL.out x (List.mem_of_getElem? hx)
      have htake : ns.take (k + 1) = ns.take k ++ [x] := by rw [List.take_add_one, hx]; rfl
      have CS := isSeg_any x pre wr hxl
      have HT := hid_into htake
      have HSg := hid_into hS
      clear HS hS hrow hx htake
      cases hseg : isSeg x pre with
      | false =>
        rw [hseg] at CS
        have HX : Hid (segsN (ns.take (k + 1)) pre = segsN (ns.take k) pre) := by show _ = _; rw [HT.out]; simp [segsN, hseg]
        clear hseg
        go_wp2_with fail
        refine CS.mono ?_
        rintro e w3 ⟨rfl, hB3⟩
        go_wp2_with fail
        go_roundw
        case rel => exact ⟨k + 1, by omega, by go_num, ⟨tv, by rw [HX.out]; exact HSg.out.below hB3⟩⟩
        case measure => simp [intOf]; omega
      | true =>
        rw [hseg] at CS
        have HX : Hid (segsN (ns.take (k + 1)) pre = segsN (ns.take k) pre ++ [x]) := by show _ = _; rw [HT.out]; simp [segsN, hseg]
        clear hseg
        go_wp2_with fail
        refine CS.mono ?_
        rintro e w3 ⟨rfl, hB3⟩
        have hS3 := HSg.out.below hB3
        obtain ⟨at3, ct3, htv⟩ := hS3.row.form
        subst htv
        have ct : w3.cell? ⟨t, 0, none⟩ = some (.slice at3 (segsN (ns.take k) pre).length ct3) := hS3.blk.cell 0
        have cp : w3.cell? ⟨p, 0, none⟩ = some (.pointer (some ⟨t, 0, none⟩)) := by
          rw [World.cell?_of_block (w := w1) (hS3.g.block p (by omega) hpt), HBB.out.cell (p := ⟨p, 0, none⟩) hpl]
          exact c0
        have hll : (segsN (ns.take k) pre).length ≤ 1000000 := by
          have h1 : (segsN (ns.take k) pre).length ≤ (ns.take k).length := List.length_filter_le _ _
          rw [List.length_take] at h1
          omega
        have htl : t < w1.heap.size := by omega
        have H3 := hid_into hS3
        clear hS3 CS hB3 HSg y1 c0
        generalize segsN (ns.take k) pre = L3 at *
        go_wp2_with fail
        have hS : w3.drew.cell? ⟨p, 0, none⟩ = some (.pointer (some ⟨t, 0, none⟩)) ∧ w3.drew.cell? ⟨t, 0, none⟩ = some (.slice at3 L3.length ct3) := ⟨cp, ct⟩
        refine wp_region_L 8 (fun w' => w'.cell? ⟨p, 0, none⟩ = some (.pointer (some ⟨t, 0, none⟩)) ∧ w'.cell? ⟨t, 0, none⟩ = some (.slice at3 L3.length ct3)) (by kernel_rfl) ?_
        refine' wpL_take 0 20 rfl rfl (by kernel_rfl) (by kernel_rfl) (by kernel_rfl) (by kernel_rfl) (fun _ _ _ h => h) (by rfl) hS ?y20 ?r20
        case y20 => (intro u hSu; obtain ⟨hSu1, hSu2⟩ := hSu; (try dsimp only at hSu1 hSu2); go_simp; try with_reducible rfl)
        simp only [Act.put, List.setIfInBounds_toArray, List.set_cons_zero, List.set_cons_succ]
        refine' wpL_take 1 21 rfl rfl (by kernel_rfl) (by kernel_rfl) (by kernel_rfl) (by kernel_rfl) (fun _ _ _ h => h) (by rfl) hS ?y21 ?r21
        case y21 => (intro u hSu; obtain ⟨hSu1, hSu2⟩ := hSu; (try dsimp only at hSu1 hSu2); go_simp; try with_reducible rfl)
        simp only [Act.put, List.setIfInBounds_toArray, List.set_cons_zero, List.set_cons_succ]
        refine' wpL_take 2 22 rfl rfl (by kernel_rfl) (by kernel_rfl) (by kernel_rfl) (by kernel_rfl) (fun _ _ _ h => h) (by rfl) hS ?y22 ?r22
        case y22 => (intro u hSu; obtain ⟨hSu1, hSu2⟩ := hSu; (try dsimp only at hSu1 hSu2); go_simp; try with_reducible rfl)
        simp only [Act.put, List.setIfInBounds_toArray, List.set_cons_zero, List.set_cons_succ]
        refine' wpL_take 3 23 rfl rfl (by kernel_rfl) (by kernel_rfl) (by kernel_rfl) (by kernel_rfl) (fun _ _ _ h => h) (by rfl) hS ?y23 ?r23
        case y23 => (intro u hSu; obtain ⟨hSu1, hSu2⟩ := hSu; (try dsimp only at hSu1 hSu2); go_simp; try with_reducible rfl)
        simp only [Act.put, List.setIfInBounds_toArray, List.set_cons_zero, List.set_cons_succ]
        refine' wpL_take 4 24 rfl rfl (by kernel_rfl) (by kernel_rfl) (by kernel_rfl) (by kernel_rfl) (fun _ _ _ h => h) (by rfl) hS ?y24 ?r24
        case y24 => (intro u hSu; obtain ⟨hSu1, hSu2⟩ := hSu; (try dsimp only at hSu1 hSu2); go_simp; try with_reducible rfl)
        simp only [Act.put, List.setIfInBounds_toArray, List.set_cons_zero, List.set_cons_succ]
        have hA4 : Below w3.heap.size w3 (w3.alloc (.cells #[encStr x] 9)) := (Below.refl _ _).alloc (Nat.le_refl _) _
        have h4 := H3.out.below hA4
        have cp4 : (w3.alloc (.cells #[encStr x] 9)).cell? ⟨p, 0, none⟩ = some (.pointer (some ⟨t, 0, none⟩)) := by
          rw [hA4.cell (p := ⟨p, 0, none⟩) (World.block_lt_of_cell? w3 _ cp)]; exact cp
        refine wpL_one (i := 5) (by kernel_rfl) rfl (fun K hK => ?_)
        refine step_made_str rfl (.tmp 24) rfl x rfl ?_
        refine hK.out _ _ (fun _ => ⟨cp4, h4.blk.cell 0⟩) ?_
        change wpL Tryz.prog _ _ _ _ _ _ _ (Act.put _ (some 25) _) _
        clear hK K
        simp only [Act.put, List.setIfInBounds_toArray, List.set_cons_zero, List.set_cons_succ]
        refine wpL_one (i := 6) (by kernel_rfl) rfl (fun K hK => ?_)
        refine step_append_nm rfl (.tmp 23) (.tmp 25) rfl 0 (.slice at3 L3.length ct3) L3 rfl (by exact h4.row) w3.heap.size x rfl (by exact (cell_of_row _ _ 0 _ _ _ (heap_alloc_new w3 _)).trans rfl) (by omega) (Nat.zero_le _) ?_
        intro ao6 cap6 w6 ho6 hg6 hat6
        have hg6' : (w3.alloc (.cells #[encStr x] 9)).grownBy w6 (Value.slice at3 L3.length ct3).ownBlock := ⟨hg6.os, hg6.tape, hg6.output, hg6.size, hg6.block⟩
        obtain ⟨hS6, hb6⟩ := H3.out.add x ho6 hg6' hat6 htl
        have ct6 : w6.cell? ⟨t, 0, none⟩ = some (.slice at3 L3.length ct3) := hb6.cell 0
        have ft6 := hb6.frozen 0
        have cp6 : w6.cell? ⟨p, 0, none⟩ = some (.pointer (some ⟨t, 0, none⟩)) := by
          rw [World.cell?_of_block (w := w3.alloc (.cells #[encStr x] 9)) (hg6'.block p (World.block_lt_of_cell? _ _ cp4) fun e => by have := H3.out.own p e.symm; omega)]
          exact cp4
        refine hK.out _ _ (fun _ => ⟨cp6, ct6⟩) ?_
        change wpL Tryz.prog _ _ _ _ _ _ _ (Act.put _ (some 26) _) _
        clear hK K
        simp only [Act.put, List.setIfInBounds_toArray, List.set_cons_zero, List.set_cons_succ]
        have H6 := hid_into hS6
        clear hS6 hb6 ho6 hg6 hg6' hat6 h4 hA4 cp4 H3
        refine wpL_one (i := 7) (by kernel_rfl) rfl (fun K hK => ?_)
        rw [if_pos (by rfl)]
        go_simp
        refine hK.out _ _ (fun _ => ⟨cp6, ct6⟩) ?_
        clear hK K
        refine wpL_one (i := 8) (by kernel_rfl) rfl (fun K hK => ?_)
        rw [if_pos (by rfl)]
        go_simp
        refine hK.out _ _ (fun e => absurd rfl e) ?_
        clear hK K
        refine wpL_done (by kernel_rfl) ?_ _
        go_wp2_with fail
        go_roundw
        case rel => exact ⟨k + 1, by omega, by go_num, ⟨_, by rw [HX.out]; exact H6.out⟩⟩
        case measure => simp [intOf]; omega
    · obtain ⟨tv, hS⟩ := HS.out
      rw [List.take_of_length_le (by omega)] at hS
      have HSg := hid_into hS
      clear HS hS
      go_wp2_with fail
      go_ret
      refine ⟨rfl, tv, HSg.out.blk, HSg.out.row, fun k hk => Nat.le_trans hs1 (HSg.out.own k hk), ?_⟩
      have hg := HSg.out.g
      exact ⟨hg.os.trans HBB.out.os, hg.tape.trans HBB.out.tape, hg.output.trans HBB.out.output, Nat.le_trans hs1 hg.size, fun k hk hn => (hg.block k (by omega) hn).trans (HBB.out.block k hk)⟩
end Go.Proofs.YtnkjhooeklodcaaGreatDoor
end

section
/-
  The document's Dec: a number in decimal digits.
-/
namespace Go.Proofs.YtnkjhooeklodcaaGreatDoor
open Go.RowKit Go.Maps Go.Sort

theorem decDigits_more {k : Nat} (h : ¬ k < 10) : Lib.decDigits k = Lib.decDigits (k / 10) ++ [UInt8.ofNat (48 + k % 10)] := by
  rw [Lib.decDigits, dif_neg h]
set_option maxHeartbeats 2000000 in
set_option maxRecDepth 100000 in
theorem dec_ref (v : Nat) (hv : v < 18446744073709551616) (w : World) :
    Calls Tryz.prog 65 #[.int .u64 (v : Int)] w fun e w' => e = .returned (encStr (Lib.decDigits v)) ∧ Below w.heap.size w w' := by
  go_enter Tryz.func65, Tryz.ntmps65
  go_wp2
  go_loopw [0, 3] (fun a s wr => ∃ (k : Nat) (t : List UInt8), a = .int .u64 (k : Int) ∧ s = encStr t ∧ k < 18446744073709551616 ∧ t.length + Lib.nDigits k ≤ 20 ∧ Hid (Lib.decDigits k ++ t = Lib.decDigits v) ∧ Below w.heap.size w wr) (fun a _ _ => (intOf a).toNat)
  case atStart => exact ⟨v, [], rfl, rfl, hv, by have := Lib.nDigits_le20 v hv; simpa using this, by show _ = _; simp, Below.refl _ _⟩
  case round =>
    obtain ⟨k, t, rfl, rfl, hk, ht, HD, hB⟩ := hrel
    have hn1 := Lib.nDigits_pos k
    have htl : t.length ≤ 19 := by omega
    obtain ⟨d, hd⟩ : ∃ d, UInt8.ofNat (48 + k % 10) = d := ⟨_, rfl⟩
    have hdn : (d.toNat : Int) = 48 + (k : Int) % 10 := by
      rw [← hd]
      have : (UInt8.ofNat (48 + k % 10)).toNat = 48 + k % 10 := by
        rw [UInt8.toNat_ofNat']
        omega
      rw [this]
      omega
    have HC : Sem.run Tryz.prog (convert 38 9 (.slice (some ⟨wr.heap.size, 0, none⟩) 1 1)) (wr.alloc (.cells #[.int .u8 (48 + (k : Int) % 10)] 5)) = .ok (.string ⟨[d].toArray⟩) (wr.alloc (.cells #[.int .u8 (48 + (k : Int) % 10)] 5)) := by
      refine run_convert_bytes_back _ 38 9 5 ⟨wr.heap.size, 0, none⟩ 1 [d] Tryz.underlying38 Tryz.underlying5 Tryz.underlying9 ?_
      intro j hj
      obtain rfl : j = 0 := by simpa using hj
      rw [Addr.add_lit, cell_of_row _ _ _ _ _ _ (heap_alloc_new wr _)]
      simp [hdn]
    have hBa : Below w.heap.size w (wr.alloc (.cells #[.int .u8 (48 + (k : Int) % 10)] 5)) := hB.alloc hB.size _
    have HAP : Hid ((⟨[d].toArray⟩ : ByteArray) ++ ⟨t.toArray⟩ = ⟨(d :: t).toArray⟩) := ByteArray.mk_append_mk _ _
    have hz1 : (⟨[d].toArray⟩ : ByteArray).size = 1 := rfl
    have hz2 : (⟨t.toArray⟩ : ByteArray).size = t.length := by simp [ByteArray.size]
    have f4 : ¬ 9223372036854775807 < 1 + t.length := by omega
    by_cases hk0 : k < 10
    · have q0 : ((k : Int) / 10) = 0 := by omega
      have HR : Hid (d :: t = Lib.decDigits v) := by
        show _ = _
        rw [← HD.out, Lib.decDigits_one hk0, ← hd]
        have : k % 10 = k := by omega
        rw [this]; rfl
      clear HD hd
      go_wp2_with fail
      go_ret
      exact ⟨congrArg (fun b => Ending.returned (.string b)) (HAP.out.trans (by rw [HR.out])), hBa⟩
    · obtain ⟨m, hm⟩ : ∃ m, k / 10 = m := ⟨_, rfl⟩
      have qw : IntKind.u64.wrap ((k : Int).tdiv 10) = (m : Int) := by
        rw [Int.tdiv_eq_ediv_of_nonneg (by omega), IntKind.wrap_u64]
        omega
      have qn : ((k : Int) / 10 == 0) = false := beq_eq_false_iff_ne.2 (by omega)
      have HQ : Hid ((k : Int) / 10 = (m : Int)) := by show _ = _; omega
      have hm1 : m < 18446744073709551616 := by omega
      have HM : Hid (m < k) := by show _ < _; omega
      have HR : Hid (Lib.decDigits m ++ (d :: t) = Lib.decDigits v) := by
        show _ = _
        rw [← HD.out, decDigits_more hk0, ← hd, hm]
        simp
      have HN : Hid ((d :: t).length + Lib.nDigits m ≤ 20) := by
        show _ ≤ _
        rw [Lib.nDigits_big hk0, hm] at ht
        simp
        omega
      clear HD hd ht hm
      go_wp2_with fail
      go_roundw
      case rel => exact ⟨m, d :: t, congrArg (Value.int .u64) HQ.out, congrArg Value.string HAP.out, hm1, HN.out, HR, hBa⟩
      case measure =>
        have := HM.out
        simp [intOf]
        omega
theorem decDigits_pad : ∀ (k n : Nat), 1 ≤ k → n < 10 ^ k → Lib.decDigits (10 ^ k + n) = 49 :: (List.replicate (k - Lib.nDigits n) 48 ++ Lib.decDigits n)
  | 0, _, h, _ => by omega
  | 1, n, _, h => by
    have h10 : n < 10 := by simpa using h
    rw [decDigits_more (by omega), show (10 ^ 1 + n) / 10 = 1 by omega, show (10 ^ 1 + n) % 10 = n by omega, Lib.decDigits_one h10, Lib.nDigits_small h10, Lib.decDigits_one (by omega : 1 < 10)]
    rfl
  | k + 2, n, _, h => by
    have hp : 10 ^ (k + 2) = 10 * 10 ^ (k + 1) := by rw [Nat.pow_succ 10 (k + 1)]; omega
    have hp0 : 0 < 10 ^ (k + 1) := Nat.pow_pos (by omega)
    have ih := decDigits_pad (k + 1) (n / 10) (by omega) (by omega)
    rw [decDigits_more (by omega), show (10 ^ (k + 2) + n) / 10 = 10 ^ (k + 1) + n / 10 by omega, show (10 ^ (k + 2) + n) % 10 = n % 10 by omega, ih]
    by_cases h10 : n < 10
    · have e0 : n / 10 = 0 := by omega
      have e1 : n % 10 = n := by omega
      rw [e0, e1, Lib.decDigits_one h10, Lib.nDigits_small h10, Lib.decDigits_one (by omega : 0 < 10), Lib.nDigits_small (by omega : 0 < 10)]
      have : List.replicate (k + 2 - 1) (48 : UInt8) = List.replicate (k + 1 - 1) 48 ++ [48] := by
        rw [show k + 2 - 1 = (k + 1 - 1) + 1 by omega, List.replicate_succ']
      rw [this]
      simp
    · rw [decDigits_more h10, Lib.nDigits_big h10]
      rw [show k + 2 - (Lib.nDigits (n / 10) + 1) = k + 1 - Lib.nDigits (n / 10) by omega]
      simp
theorem nameN_pad (pre : List UInt8) (n : Nat) (h : n < 100000000) : nameN pre n = pre ++ (List.replicate (8 - (Lib.decDigits n).length) 48 ++ Lib.decDigits n) := by
  unfold nameN
  rw [show 100000000 + n = 10 ^ 8 + n by omega, decDigits_pad 8 n (by omega) (by omega), Lib.decDigits_length]
  rfl
theorem decDigits_len8 (n : Nat) (h : n < 100000000) : (Lib.decDigits n).length ≤ 8 := by
  rw [Lib.decDigits_length]
  have : ∀ (k m : Nat), 1 ≤ k → m < 10 ^ k → Lib.nDigits m ≤ k := by
    intro k
    induction k with
    | zero => intro m h; omega
    | succ k ih =>
      intro m _ hm
      by_cases h10 : m < 10
      · rw [Lib.nDigits_small h10]; omega
      · rw [Lib.nDigits_big h10]
        have hp : 10 ^ (k + 1) = 10 * 10 ^ k := by rw [Nat.pow_succ]; omega
        cases k with
        | zero => simp at hm; omega
        | succ k => have := ih (m / 10) (by omega) (by omega); omega
  exact this 8 n (by omega) (by omega)
set_option maxHeartbeats 2000000 in
set_option maxRecDepth 100000 in
theorem name_ref (pre : List UInt8) (n : Nat) (hn : n < 100000000) (hpl : pre.length ≤ 1000) (w : World) :
    Calls Tryz.prog 28 #[encStr pre, .int .i64 (n : Int)] w fun e w' => e = .returned (encStr (nameN pre n)) ∧ Below w.heap.size w w' := by
  have CD := dec_ref n (by omega) w
  have hq : IntKind.u64.wrap (n : Int) = (n : Int) := by rw [IntKind.wrap_u64]; omega
  have HP : Hid (nameN pre n = pre ++ (List.replicate (8 - (Lib.decDigits n).length) 48 ++ Lib.decDigits n)) := nameN_pad pre n hn
  have h8 := decDigits_len8 n hn
  generalize Lib.decDigits n = d at *
  go_enter Tryz.func28, Tryz.ntmps28
  go_wp2_with (go_at_call 65; refine CD.mono ?_; rintro e w1 ⟨rfl, hB⟩)
  go_loop [5] (fun s => ∃ j : Nat, s = encStr (List.replicate j 48 ++ d) ∧ j + d.length ≤ 8) (fun s => 8 - Lib.strSize s)
  case atStart => exact ⟨0, rfl, by omega⟩
  case round =>
    obtain ⟨j, rfl, hj⟩ := hrel
    obtain ⟨xs, hxs⟩ : ∃ xs, List.replicate j 48 ++ d = xs := ⟨_, rfl⟩
    have hxl : xs.length = j + d.length := by rw [← hxs]; simp
    have hz : (⟨xs.toArray⟩ : ByteArray).size = j + d.length := by simp [ByteArray.size, hxl]
    have hz1 : (⟨#[48]⟩ : ByteArray).size = 1 := rfl
    have hpz : (⟨pre.toArray⟩ : ByteArray).size = pre.length := by simp [ByteArray.size]
    have HA1 : Hid ((⟨#[48]⟩ : ByteArray) ++ ⟨xs.toArray⟩ = ⟨(48 :: xs).toArray⟩) := ByteArray.mk_append_mk [48] xs
    have HA2 : Hid ((⟨pre.toArray⟩ : ByteArray) ++ ⟨xs.toArray⟩ = ⟨(pre ++ xs).toArray⟩) := ByteArray.mk_append_mk pre xs
    have HX := hid_into hxs
    obtain ⟨m, hm⟩ : ∃ m, j + d.length = m := ⟨_, rfl⟩
    rw [hm] at hz
    rw [hxs]
    have HM := hid_into hm
    clear hxs hxl hm CD
    by_cases hlt : m < 8
    · have f1 : (m : Int) < 8 := by omega
      have f4 : ¬ 9223372036854775807 < 1 + m := by omega
      have HN : Hid (j + 1 + d.length ≤ 8) := by show _ ≤ _; have := HM.out; omega
      clear hj
      go_wp2_with fail
      go_round
      case rel => exact ⟨j + 1, by
        rw [List.replicate_succ, List.cons_append, HX.out]
        exact congrArg Value.string HA1.out, HN.out⟩
      case measure =>
        show 8 - Lib.strSize (.string _) < 8 - Lib.strSize (.string _)
        simp only [Lib.strSize, ByteArray.size_append, hz1, hz]
        omega
    · have f1 : ¬ (m : Int) < 8 := by omega
      have f4 : ¬ 9223372036854775807 < pre.length + m := by have := HM.out; omega
      have HJ : Hid (j = 8 - d.length) := by show _ = _; have := HM.out; omega
      clear hj
      go_wp2_with fail
      go_ret
      refine ⟨?_, hB⟩
      rw [HP.out, ← HJ.out, HX.out]
      exact congrArg (fun b => Ending.returned (.string b)) HA2.out
end Go.Proofs.YtnkjhooeklodcaaGreatDoor
end

section
/-
  The document's number: the number in a segment's name.
-/
namespace Go.Proofs.YtnkjhooeklodcaaGreatDoor
open Go.RowKit Go.Maps Go.Sort

def numV (t : List UInt8) : Nat := t.foldl (fun n d => n * 10 + (d.toNat - 48)) 0
def numE (pre s : List UInt8) : Int := if isSeg s pre = true then (numV (s.drop pre.length) : Int) else -1
set_option maxHeartbeats 2000000 in
set_option maxRecDepth 100000 in
theorem number_len (pre s : List UInt8) (w : World) (hpl : pre.length ≤ 1000) (_hsl : s.length ≤ 140737488355328) (hl : s.length ≠ pre.length + 8) :
    Calls Tryz.prog 62 #[encStr pre, encStr s] w fun e w' => e = .returned (.int .i64 (-1)) ∧ w' = w := by
  have z1 : (⟨pre.toArray⟩ : ByteArray).size = pre.length := by simp [ByteArray.size]
  have z2 : (⟨s.toArray⟩ : ByteArray).size = s.length := by simp [ByteArray.size]
  have q1 : IntKind.i64.wrap ((pre.length : Int) + 8) = (pre.length : Int) + 8 := by rw [IntKind.wrap_i64]; omega
  have f1 : ¬ (s.length : Int) = (pre.length : Int) + 8 := by omega
  clear hl
  generalize pre.length = p at *
  generalize s.length = m at *
  go_enter Tryz.func62, Tryz.ntmps62
  go_wp2_with fail
  go_ret
  exact ⟨rfl, rfl⟩
theorem extract_pre (s : List UInt8) (p : Nat) : ((⟨s.toArray⟩ : ByteArray).extract 0 p).toList = s.take p := by
  rw [Lib.extract_mk]
  simp
set_option maxHeartbeats 2000000 in
set_option maxRecDepth 100000 in
theorem number_pre (pre s : List UInt8) (w : World) (hpl : pre.length ≤ 1000) (hl : s.length = pre.length + 8) (hp : s.take pre.length ≠ pre) :
    Calls Tryz.prog 62 #[encStr pre, encStr s] w fun e w' => e = .returned (.int .i64 (-1)) ∧ w' = w := by
  have z1 : (⟨pre.toArray⟩ : ByteArray).size = pre.length := by simp [ByteArray.size]
  have z2 : (⟨s.toArray⟩ : ByteArray).size = pre.length + 8 := by simp [ByteArray.size, hl]
  have q1 : IntKind.i64.wrap ((pre.length : Int) + 8) = (pre.length : Int) + 8 := by rw [IntKind.wrap_i64]; omega
  have f2 : (((⟨s.toArray⟩ : ByteArray).extract 0 pre.length).toList == pre) = false := by
    rw [extract_pre]
    exact beq_eq_false_iff_ne.2 hp
  generalize pre.length = p at *
  clear hp
  go_enter Tryz.func62, Tryz.ntmps62
  go_wp2_with fail
  go_ret
  exact ⟨rfl, rfl⟩
theorem numV_snoc (t : List UInt8) (d : UInt8) : numV (t ++ [d]) = numV t * 10 + (d.toNat - 48) := by simp [numV]
def dig (d : UInt8) : Bool := decide (48 ≤ d.toNat) && decide (d.toNat ≤ 57)
theorem fold_lt : ∀ (t : List UInt8) (n k : Nat), (∀ d ∈ t, dig d = true) → n < 10 ^ k → t.foldl (fun n d => n * 10 + (d.toNat - 48)) n < 10 ^ (k + t.length)
  | [], n, k, _, hn => by simpa using hn
  | d :: t, n, k, h, hn => by
    have h2 := h d (by simp)
    simp only [dig, Bool.and_eq_true, decide_eq_true_eq] at h2
    have := fold_lt t (n * 10 + (d.toNat - 48)) (k + 1) (fun x hx => h x (by simp [hx])) (by rw [Nat.pow_succ]; omega)
    rw [List.foldl_cons, List.length_cons, show k + (t.length + 1) = k + 1 + t.length by omega]
    exact this
theorem numV_lt (t : List UInt8) (h : ∀ d ∈ t, dig d = true) : numV t < 10 ^ t.length := by
  have := fold_lt t 0 0 h (by simp)
  simpa [numV] using this
def numT (t : List UInt8) : Int := if t.all dig = true then (numV t : Int) else -1
set_option maxHeartbeats 2000000 in
set_option maxRecDepth 100000 in
theorem number_all (pre t : List UInt8) (w : World) (hpl : pre.length ≤ 1000) (hl : t.length = 8) :
    Calls Tryz.prog 62 #[encStr pre, encStr (pre ++ t)] w fun e w' => e = .returned (.int .i64 (numT t)) ∧ w' = w := by
  obtain ⟨s, hs⟩ : ∃ s, pre ++ t = s := ⟨_, rfl⟩
  have hsl : s.length = pre.length + 8 := by rw [← hs]; simp [hl]
  have hp : s.take pre.length = pre := by rw [← hs]; simp
  have hg : ∀ k d, t[k]? = some d → s[pre.length + k]? = some d := fun k d h => by rw [← hs]; simpa [List.getElem?_append] using h
  rw [hs]
  have z1 : (⟨pre.toArray⟩ : ByteArray).size = pre.length := by simp [ByteArray.size]
  have z2 : (⟨s.toArray⟩ : ByteArray).size = pre.length + 8 := by simp [ByteArray.size, hsl]
  have q1 : IntKind.i64.wrap ((pre.length : Int) + 8) = (pre.length : Int) + 8 := by rw [IntKind.wrap_i64]; omega
  have f2 : (((⟨s.toArray⟩ : ByteArray).extract 0 pre.length).toList == pre) = true := by
    rw [extract_pre]
    exact beq_iff_eq.2 hp
  clear hp hs
  have HG := hid_into hg
  have HL := hid_into hsl
  clear hg hsl
  generalize pre.length = p at *
  go_enter Tryz.func62, Tryz.ntmps62
  go_wp2_with fail
  go_loopw [5, 6] (fun a i wr => ∃ k x y : Nat, k ≤ 8 ∧ a = .int .i64 (x : Int) ∧ i = .int .i64 (y : Int) ∧ y = p + k ∧ x = numV (t.take k) ∧ Hid (∀ d ∈ t.take k, dig d = true) ∧ wr = w) (fun _ i _ => p + 8 - (intOf i).toNat)
  case atStart => exact ⟨0, 0, p, by omega, rfl, rfl, rfl, rfl, by show ∀ _ ∈ _, _; simp, rfl⟩
  case round =>
    obtain ⟨k, x, y, hk, rfl, rfl, hy, hx, HD, rfl⟩ := hrel
    have h0 : (0 : Int) ≤ (y : Int) := by omega
    by_cases hk8 : k < 8
    · obtain ⟨d, hd⟩ : ∃ d, t[k]? = some d := ⟨_, List.getElem?_eq_getElem (by omega)⟩
      have hxl : x < 100000000 := by
        have := numV_lt (t.take k) HD.out
        rw [← hx] at this
        refine Nat.lt_of_lt_of_le this ?_
        have h8 : (t.take k).length ≤ 8 := by rw [List.length_take]; omega
        exact Nat.pow_le_pow_right (n := 10) (by omega) h8
      have f3 : (y : Int) < ((p + 8 : Nat) : Int) := by omega
      have hlt : y < (⟨s.toArray⟩ : ByteArray).size := by omega
      have hsd : (⟨s.toArray⟩ : ByteArray)[y]'hlt = d := by
        have := HG.out k d hd
        rw [← hy] at this
        have h2 := (List.getElem?_eq_some_iff.1 this).2
        rw [ByteArray.getElem_eq_getElem_data]
        simpa using h2
      have HT : Hid (t.take (k + 1) = t.take k ++ [d]) := by
        show _ = _
        rw [List.take_add_one, hd]; rfl
      have hmem : d ∈ t := List.mem_of_getElem? hd
      obtain ⟨c, hc⟩ : ∃ c, d.toNat = c := ⟨_, rfl⟩
      have HB : Hid (∀ b, dig d = b → (decide (48 ≤ c) && decide (c ≤ 57)) = b) := fun b hb => by rw [← hb, ← hc]; rfl
      by_cases hb : dig d = true
      · have hcc := HB.out true hb
        rw [Bool.and_eq_true, decide_eq_true_eq, decide_eq_true_eq] at hcc
        obtain ⟨z, hz⟩ : ∃ z : Nat, z = x * 10 + (c - 48) := ⟨_, rfl⟩
        have g1 : ¬ (c : Int) < 48 := by omega
        have g2 : ¬ 57 < (c : Int) := by omega
        have q2 : IntKind.i64.wrap ((x : Int) * 10) = (x : Int) * 10 := by rw [IntKind.wrap_i64]; omega
        have q3 : IntKind.i64.wrap ((c : Int)) = (c : Int) := by rw [IntKind.wrap_i64]; omega
        have q4 : IntKind.i64.wrap ((x : Int) * 10 + (c : Int)) = (x : Int) * 10 + (c : Int) := by rw [IntKind.wrap_i64]; omega
        have q5 : IntKind.i64.wrap ((x : Int) * 10 + (c : Int) - 48) = (z : Int) := by rw [IntKind.wrap_i64]; omega
        have q6 : IntKind.i64.wrap ((y : Int) + 1) = ((y + 1 : Nat) : Int) := by rw [IntKind.wrap_i64]; omega
        have HZ : Hid (z = numV (t.take (k + 1))) := by
          show _ = _
          rw [HT.out, numV_snoc, hc, ← hx, hz]
        have HN : Hid (∀ d ∈ t.take (k + 1), dig d = true) := by
          show ∀ _ ∈ _, _
          rw [HT.out]
          intro e he
          rcases List.mem_append.1 he with h | h
          · exact HD.out e h
          · rw [List.mem_singleton.1 h]; exact hb
        have HY : Hid (y + 1 = p + (k + 1)) := by show _ = _; omega
        have hy8 : y < p + 8 := by omega
        clear hx hy hz hd hcc
        go_wp2_with fail
        go_roundw
        case rel => exact ⟨k + 1, z, y + 1, by omega, rfl, rfl, HY.out, HZ.out, HN, trivial⟩
        case measure =>
          simp [intOf]
          omega
      · have hcc := HB.out false (by simpa using hb)
        have HR : Hid (numT t = -1) := by
          show _ = _
          unfold numT
          rw [if_neg]
          intro h
          exact hb (List.all_eq_true.1 h d hmem)
        by_cases g1 : c < 48
        · have g1' : (c : Int) < 48 := by omega
          clear hx hy hd hcc
          go_wp2_with fail
          go_ret
          exact ⟨by rw [HR.out]; rfl, rfl⟩
        · have g1' : ¬ (c : Int) < 48 := by omega
          have g2' : 57 < (c : Int) := by
            rw [Bool.and_eq_false_iff, decide_eq_false_iff_not, decide_eq_false_iff_not] at hcc
            omega
          clear hx hy hd hcc
          go_wp2_with fail
          go_ret
          exact ⟨by rw [HR.out]; rfl, rfl⟩
    · have hk' : k = 8 := by omega
      subst hk'
      have f3 : ¬ (y : Int) < ((p + 8 : Nat) : Int) := by omega
      have ht : t.take 8 = t := List.take_of_length_le (by omega)
      have HR : Hid (numT t = (x : Int)) := by
        show _ = _
        unfold numT
        have h1 := HD.out
        rw [ht] at h1 hx
        rw [if_pos (List.all_eq_true.2 h1), hx]
      clear hx ht
      go_wp2_with fail
      go_ret
      exact ⟨by rw [HR.out]; rfl, rfl⟩
set_option maxRecDepth 100000 in
theorem dgs_dig (d : UInt8) : dgs.contains d = dig d := by
  have h : ∀ n : Fin 256, dgs.contains (UInt8.ofNat n.val) = dig (UInt8.ofNat n.val) := by decide
  have := h ⟨d.toNat, d.toNat_lt⟩
  simpa using this
theorem seg_all (t : List UInt8) : (t.all (dgs.contains ·)) = t.all dig := by
  congr 1
  funext d
  exact dgs_dig d
theorem hasPre {s pre : List UInt8} (h : Lib.hasPrefix s pre = true) : s.take pre.length = pre := by
  unfold Lib.hasPrefix at h
  obtain ⟨r, rfl⟩ := List.isPrefixOf_iff_prefix.1 h
  simp
theorem number_ref (pre s : List UInt8) (w : World) (hpl : pre.length ≤ 1000) (hsl : s.length ≤ 140737488355328) :
    Calls Tryz.prog 62 #[encStr pre, encStr s] w fun e w' => e = .returned (.int .i64 (numE pre s)) ∧ w' = w := by
  by_cases hl : s.length = pre.length + 8
  · by_cases hp : s.take pre.length = pre
    · obtain ⟨t, ht⟩ : ∃ t, s.drop pre.length = t := ⟨_, rfl⟩
      obtain rfl : s = pre ++ t := by rw [← List.take_append_drop pre.length s, hp, ht]
      have h8 : t.length = 8 := by rw [List.length_append] at hl; omega
      have hE : numE pre (pre ++ t) = numT t := by
        have hh : Lib.hasPrefix (pre ++ t) pre = true := by unfold Lib.hasPrefix; simp
        have ht' : Lib.trimPrefix (pre ++ t) pre = t := by unfold Lib.trimPrefix; rw [if_pos hh]; simp
        unfold numE numT isSeg
        rw [hh, ht', seg_all, h8]
        simp
      rw [hE]
      exact number_all pre t w hpl h8
    · have hE : numE pre s = -1 := by
        unfold numE isSeg
        rw [if_neg]
        intro h
        rw [Bool.and_eq_true] at h
        exact hp (hasPre h.1)
      rw [hE]
      exact number_pre pre s w hpl hl hp
  · have hE : numE pre s = -1 := by
      unfold numE isSeg
      rw [if_neg]
      intro h
      rw [Bool.and_eq_true, Bool.and_eq_true] at h
      have h1 := hasPre h.1
      have h2 := h.2.1
      unfold Lib.trimPrefix at h2
      rw [if_pos h.1, beq_iff_eq, List.length_drop] at h2
      have h3 := congrArg List.length h1
      rw [List.length_take] at h3
      omega
    rw [hE]
    exact number_len pre s w hpl hsl hl
end Go.Proofs.YtnkjhooeklodcaaGreatDoor
end
