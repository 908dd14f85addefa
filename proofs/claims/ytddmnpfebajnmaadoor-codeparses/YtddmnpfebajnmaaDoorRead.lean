/-
  A line as an instruction: the table's read.
-/
import Derived.Test.YtddmnpfebajnmaaDoorFind
import Derived.Laws.ResultCell
namespace Go.Proofs.YtddmnpfebajnmaaDoor
open Go.RowKit
variable {ln : List UInt8}
theorem FindA.uniq {s : List UInt8} {o : Nat} (h : FindA s o) {n : Nat} (h1 : 1 ≤ n) (h2 : n ≤ 22) (hn : nameL n = s) : o = n := by
  rcases h with ⟨a1, a2, a3⟩ | ⟨_, a2⟩
  · have := name_inj ⟨o, by omega⟩ ⟨n, by omega⟩ a1 h1 (a3.trans hn.symm)
    exact congrArg Fin.val this
  · exact absurd hn (a2 n h1 h2)
theorem read_no1 (h : FindA (Lib.cut ln [32]).1 0) : readL ln = none := by
  refine readL_none ?_
  rintro ⟨x, hx⟩
  have hc := (lineL_cut x hx.op).1
  rw [hx.line] at hc
  have ho := hx.op
  have := h.uniq (n := x.1.toNat) (by omega) (by omega) hc.symm
  omega
theorem read_no2 (h : 11 < (Lib.cut ln [32]).2.1.length) : readL ln = none := by
  refine readL_none ?_
  rintro ⟨x, hx⟩
  have hc := (lineL_cut x hx.op).2
  rw [hx.line] at hc
  rw [hc] at h
  cases hh : hasA x.1 with
  | true =>
    rw [hh] at h
    have := hx.few hh
    simp only [if_true] at h
    omega
  | false =>
    rw [hh] at h
    simp at h
theorem read_op {o : Nat} (h : FindA (Lib.cut ln [32]).1 o) {x : Ii} (hx : Ln ln x) : x.1 = o ∧ (Lib.cut ln [32]).2.1 = (if hasA x.1 then Lib.itoa x.2 else []) := by
  have hc := lineL_cut x hx.op
  rw [hx.line] at hc
  have ho := hx.op
  have := h.uniq (n := x.1.toNat) (by omega) (by omega) hc.1.symm
  exact ⟨by omega, hc.2⟩
theorem read_no3 {o : Nat} (h : FindA (Lib.cut ln [32]).1 o) (ha : hasA (o : Int) = true) (hn : Lib.atoi (Lib.cut ln [32]).2.1 = none) : readL ln = none := by
  refine readL_none ?_
  rintro ⟨x, hx⟩
  obtain ⟨e1, e2⟩ := read_op h hx
  rw [e1, ha, if_pos rfl] at e2
  rw [e2, atoi_itoa] at hn
  cases hn
theorem read_fin {o : Nat} {n : Int} (h : FindA (Lib.cut ln [32]).1 o) (h1 : 1 ≤ o) (h2 : o ≤ 22) (hl : (Lib.cut ln [32]).2.1.length ≤ 11) (ha : hasA (o : Int) = true → Lib.atoi (Lib.cut ln [32]).2.1 = some n) (hb : hasA (o : Int) = false → n = 0) :
    readL ln = if lineL ((o : Int), n) = ln then some ((o : Int), n) else none := by
  split
  · rename_i e
    refine readL_some ⟨⟨by simp only; omega, by simp only; omega⟩, e, hb, fun hh => ?_⟩
    have hc := (lineL_cut ((o : Int), n) ⟨by simp only; omega, by simp only; omega⟩).2
    rw [e] at hc
    simp only at hc hh
    rw [hh, if_pos rfl] at hc
    rw [← hc]
    exact hl
  · rename_i e
    refine readL_none ?_
    rintro ⟨x, hx⟩
    obtain ⟨e1, e2⟩ := read_op h hx
    refine e ?_
    have e3 : x.2 = n := by
      cases hh : hasA (o : Int) with
      | true =>
        have := ha hh
        rw [e1, hh, if_pos rfl] at e2
        rw [e2, atoi_itoa] at this
        exact Option.some.inj this
      | false => rw [hb hh, hx.none_ (by rw [e1]; exact hh)]
    rw [← e1, ← e3]
    exact hx.line
/-- What reading a line answers. -/
def ReadP (ln : List UInt8) (o a : Int) (ok : Bool) : Prop := match readL ln with
  | some x => (o, a) = x ∧ ok = true
  | none => ok = false
theorem ReadP.fin2 {o : Nat} {n : Int} {ok : Bool} {la : List UInt8} (hok : ok = (la == ln)) (h : readL ln = if la = ln then some ((o : Int), n) else none) : ReadP ln o n ok := by
  unfold ReadP
  rw [h, hok]
  by_cases e : la = ln
  · rw [if_pos e]
    exact ⟨rfl, by simp [e]⟩
  · rw [if_neg e]
    simp [e]
theorem ReadP.no {o a : Int} (h : readL ln = none) : ReadP ln o a false := by
  unfold ReadP
  rw [h]
theorem find_no (tb : Nat) (s : List UInt8) (h : ¬ ∃ n, 1 ≤ n ∧ n ≤ 22 ∧ nameL n = s) (w : World) (hT : Tb w tb) :
    Calls Tryd.prog 64 #[.pointer (some ⟨tb, 0, none⟩), .string ⟨s.toArray⟩] w fun e w' => e = .returned (.int .i64 0) ∧ w' = w := by
  refine (find_any tb s w hT).mono ?_
  rintro e w' ⟨o, rfl, ⟨a1, a2, a3⟩ | ⟨rfl, _⟩, rfl⟩
  · exact absurd ⟨o, a1, a2, a3⟩ h
  · exact ⟨rfl, rfl⟩
theorem find_yes (tb : Nat) (s : List UInt8) (n : Nat) (h1 : 1 ≤ n) (h2 : n ≤ 22) (hn : nameL n = s) (w : World) (hT : Tb w tb) :
    Calls Tryd.prog 64 #[.pointer (some ⟨tb, 0, none⟩), .string ⟨s.toArray⟩] w fun e w' => e = .returned (.int .i64 (n : Int)) ∧ w' = w := by
  refine (find_any tb s w hT).mono ?_
  rintro e w' ⟨o, rfl, hF, rfl⟩
  rw [hF.uniq h1 h2 hn]
  exact ⟨rfl, rfl⟩
/-- A row that a result variable holds, and a value beside it. -/
theorem ret_row2 {f : Func} {a : Act} {g : Nat} {cs : List Value} {t : TypeId} {w : World} {post : Ending → World → Prop} {r u : Tmp} {ty : TypeId} {d : TypeDesc} (hf : f.results = #[.cell r ty, .tmp u]) (hr : a.tmps.getD r undef = .pointer (some ⟨g, 0, none⟩)) (hdf : a.defers = [])
    (hc : Cw w g cs t) (hu : Tryd.prog.underlying ty = some d) (hd : d.isRow = true) (hi : Hid ((Tryd.prog.info? ty).map (·.size) = some cs.length)) (h : post (.returned (.tuple #[.agg cs.toArray, a.tmps.getD u undef])) w) : bodyPost Tryd.prog f post .ret a w := by
  refine bodyPost_ret ?_ hdf h
  rw [results_cell_tmp hf, hr]
  have e1 := run_loadVar_row w g t ty cs.toArray (0, 0) d hc hu (by cases d <;> first | rfl | cases hd) (by rw [List.size_toArray]; exact hi.out)
  simp only [asAddr, Sem.run_pure, Result.andThen_ok, e1]
theorem Tryd.size60 : (Tryd.prog.info? 60).map (·.size) = some 2 := by kernel_rfl
set_option maxRecDepth 20000 in
set_option maxHeartbeats 4000000 in
theorem read_any (tb : Nat) (ln : List UInt8) (w : World) (hl : ln.length ≤ 1000000) (hT : Tb w tb) (ht : Tt w) :
    Calls Tryd.prog 44 #[.pointer (some ⟨tb, 0, none⟩), .string ⟨ln.toArray⟩] w fun e w' => ∃ o a ok, e = .returned (.tuple #[.agg #[.int .i64 o, .int .i64 a], .bool ok]) ∧ ReadP ln o a ok ∧ Below w.heap.size w w' := by
  have hA : Below w.heap.size w (w.alloc (.cells #[.int .i64 0, .int .i64 0] 60)) := (Below.refl _ _).alloc (Nat.le_refl _) _
  have C43 := cut_any 32 ln hl _ (ht.below hA (Nat.le_refl _))
  have HF1 := hid_into (fun h => read_no1 (ln := ln) h)
  have HF2 := hid_into (fun h => read_no2 (ln := ln) h)
  have HF3 := hid_into (fun (o : Nat) h1 h2 h3 => read_no3 (ln := ln) (o := o) h1 h2 h3)
  have HF4 := hid_into (fun (o : Nat) n h1 h2 h3 h4 h5 h6 => read_fin (ln := ln) (o := o) (n := n) h1 h2 h3 h4 h5 h6)
  generalize (Lib.cut ln [32]).1 = nm at *
  generalize (Lib.cut ln [32]).2.1 = num at *
  generalize (Lib.cut ln [32]).2.2 = fb at *
  have HT := hid_into hT
  have Ht := hid_into ht
  have HA := hid_into hA
  have HR0 : Hid (Cw (w.alloc (.cells #[.int .i64 0, .int .i64 0] 60)) w.heap.size [.int .i64 0, .int .i64 0] 60) := Cw.new w _ _
  clear hT ht hA
  have hnz : (⟨num.toArray⟩ : ByteArray).size = num.length := by simp [ByteArray.size]
  by_cases hex : ∃ n, 1 ≤ n ∧ n ≤ 22 ∧ nameL n = nm
  · obtain ⟨n, n1, n2, hn⟩ := hex
    have CF := find_yes tb nm n n1 n2 hn
    have HFn : Hid (FindA nm n) := Or.inl ⟨n1, n2, hn⟩
    have e22 : (n : Int) < 23 := by omega
    have hn0 : ((n : Int) == 0) = false := by simp; omega
    clear HF1 hn
    by_cases hlong : 11 < num.length
    · have HN : Hid (readL ln = none) := HF2.out hlong
      have hlong' : (11 : Int) < num.length := by omega
      clear HF2 HF3 HF4 HFn
      go_enter Tryd.func44, Tryd.ntmps44
      go_wp2_with (first
        | (go_at_call 43; refine C43.mono ?_; rintro e w1 ⟨rfl, sm1⟩; have HT1 := hid_into ((HT.out.below HA.out).keep (w' := w1) (by rw [sm1.heap])); have HB1 := hid_into (HA.out.trans (sm1.below _)); have HR1 := hid_into (sm1.cw HR0.out); clear sm1)
        | (go_at_call 64; refine (CF _ HT1.out).mono ?_; rintro e w2 ⟨rfl, rfl⟩; have hrb := HR1.out.lt; have hA3 : Below w2.heap.size w2 (w2.alloc (.cells #[.int .i64 (n : Int), .int .i64 0] 60)) := ((Below.refl _ _).alloc (Nat.le_refl _) _); have HR3 := hid_into (HR1.out.below hA3 hrb); have hX3 : Cw (w2.alloc (.cells #[.int .i64 (n : Int), .int .i64 0] 60)) w2.heap.size [.int .i64 (n : Int), .int .i64 0] 60 := (Cw.new w2 _ _); have HX3 := hid_into hX3; have HT3 := hid_into (HT1.out.below hA3); have HB3 := hid_into (HB1.out.trans (hA3.mono HB1.out.size)); clear hX3 hA3)
        | (refine wpList_store_rw rfl 60 (.tmp 4) (.tmp 30) rfl w.heap.size [.int .i64 0, .int .i64 0] [.int .i64 0, .int .i64 0] 60 rfl rfl HR3.out (hid_into Tryd.size60) (hid_into rfl) (by simp [Value.oneCell']) ?_; intro W5 hc5 O5; have HB5 := hid_into (HB3.out.trans (O5.below (Nat.le_refl _)))))
      exact ret_row2 rfl rfl rfl hc5 Tryd.underlying60 rfl (hid_into Tryd.size60) ⟨0, 0, false, rfl, ReadP.no HN.out, HB5.out⟩
    · have hshort : ¬ (11 : Int) < num.length := by omega
      have CA := fun W h' => atoi_any num (by omega) W h'
      have HLn : Hid (num.length ≤ 11) := by show _ ≤ _; omega
      cases hs : hasA (n : Int) with
      | true =>
        cases ha : Lib.atoi num with
        | none =>
          have HN : Hid (readL ln = none) := HF3.out n HFn.out hs ha
          rw [ha] at CA
          clear HF2 HF3 HF4 HFn ha
          go_enter Tryd.func44, Tryd.ntmps44
          go_wp2_with (first
            | (go_at_call 43; refine C43.mono ?_; rintro e w1 ⟨rfl, sm1⟩; have HT1 := hid_into ((HT.out.below HA.out).keep (w' := w1) (by rw [sm1.heap])); have HB1 := hid_into (HA.out.trans (sm1.below _)); have HR1 := hid_into (sm1.cw HR0.out); clear sm1)
            | (go_at_call 64; refine (CF _ HT1.out).mono ?_; rintro e w2 ⟨rfl, rfl⟩; have hrb := HR1.out.lt; have hA3 : Below w2.heap.size w2 (w2.alloc (.cells #[.int .i64 (n : Int), .int .i64 0] 60)) := ((Below.refl _ _).alloc (Nat.le_refl _) _); have HR3 := hid_into (HR1.out.below hA3 hrb); have hX3 : Cw (w2.alloc (.cells #[.int .i64 (n : Int), .int .i64 0] 60)) w2.heap.size [.int .i64 (n : Int), .int .i64 0] 60 := (Cw.new w2 _ _); have HX3 := hid_into hX3; have HT3 := hid_into (HT1.out.below hA3); have HB3 := hid_into (HB1.out.trans (hA3.mono HB1.out.size)); clear hX3 hA3))
          have d3 := (HT3.out.at n n1 n2).2.1
          rw [hs] at d3
          go_quiet (fail)
          generalize hW : (w2.alloc (.cells #[.int .i64 (n : Int), .int .i64 0] 60)).drewN nq = W4
          have sm4 : Sm (w2.alloc (.cells #[.int .i64 (n : Int), .int .i64 0] 60)) W4 := by rw [← hW]; exact Sm.drewN _ _
          have HX4 := hid_into (sm4.cw HX3.out)
          have HR4 := hid_into (sm4.cw HR3.out)
          have HT4 : Hid (Tb W4 tb) := HT3.out.keep (by rw [sm4.heap])
          have HB4 := hid_into (HB3.out.trans (sm4.below _))
          have hxr : w2.heap.size ≠ w.heap.size := by omega
          have HTt4 := hid_into (Ht.out.below HB4.out (Nat.le_refl _))
          clear hW sm4 d3 HT3 HB3 HR3 HX3 hs
          go_wp2_with (first
            | (go_at_call 65; refine (CA _ HTt4.out).mono ?_; rintro e w5 ⟨⟨x5, T5, v5, rfl⟩, B5⟩; have HR5 := hid_into (HR4.out.below B5 HR4.out.lt); have HB5 := hid_into (HB4.out.trans (B5.mono HB4.out.size)))
            | (refine wpList_store_rw rfl 60 (.tmp 4) (.tmp 45) rfl w.heap.size [.int .i64 0, .int .i64 0] [.int .i64 0, .int .i64 0] 60 rfl rfl HR5.out (hid_into Tryd.size60) (hid_into rfl) (by simp [Value.oneCell']) ?_; intro W6 hc6 O6; have HB6 := hid_into (HB5.out.trans (O6.below (Nat.le_refl _)))))
          exact ret_row2 rfl rfl rfl hc6 Tryd.underlying60 rfl (hid_into Tryd.size60) ⟨0, 0, false, rfl, ReadP.no HN.out, HB6.out⟩
        | some m =>
          have HE : Hid (readL ln = if lineL ((n : Int), m) = ln then some ((n : Int), m) else none) := HF4.out n m HFn.out n1 n2 HLn.out (fun _ => ha) (fun h => by rw [hs] at h; cases h)
          have hm : In64 m := by
            have := Lib.atoi_bound ha (by omega)
            unfold In64
            omega
          rw [ha] at CA
          clear HF2 HF3 HF4 HFn ha
          go_enter Tryd.func44, Tryd.ntmps44
          go_wp2_with (first
            | (go_at_call 43; refine C43.mono ?_; rintro e w1 ⟨rfl, sm1⟩; have HT1 := hid_into ((HT.out.below HA.out).keep (w' := w1) (by rw [sm1.heap])); have HB1 := hid_into (HA.out.trans (sm1.below _)); have HR1 := hid_into (sm1.cw HR0.out); clear sm1)
            | (go_at_call 64; refine (CF _ HT1.out).mono ?_; rintro e w2 ⟨rfl, rfl⟩; have hrb := HR1.out.lt; have hA3 : Below w2.heap.size w2 (w2.alloc (.cells #[.int .i64 (n : Int), .int .i64 0] 60)) := ((Below.refl _ _).alloc (Nat.le_refl _) _); have HR3 := hid_into (HR1.out.below hA3 hrb); have hX3 : Cw (w2.alloc (.cells #[.int .i64 (n : Int), .int .i64 0] 60)) w2.heap.size [.int .i64 (n : Int), .int .i64 0] 60 := (Cw.new w2 _ _); have HX3 := hid_into hX3; have HT3 := hid_into (HT1.out.below hA3); have HB3 := hid_into (HB1.out.trans (hA3.mono HB1.out.size)); clear hX3 hA3))
          have d3 := (HT3.out.at n n1 n2).2.1
          rw [hs] at d3
          go_quiet (fail)
          generalize hW : (w2.alloc (.cells #[.int .i64 (n : Int), .int .i64 0] 60)).drewN nq = W4
          have sm4 : Sm (w2.alloc (.cells #[.int .i64 (n : Int), .int .i64 0] 60)) W4 := by rw [← hW]; exact Sm.drewN _ _
          have HX4 := hid_into (sm4.cw HX3.out)
          have HR4 := hid_into (sm4.cw HR3.out)
          have HT4 : Hid (Tb W4 tb) := HT3.out.keep (by rw [sm4.heap])
          have HB4 := hid_into (HB3.out.trans (sm4.below _))
          have hxr : w2.heap.size ≠ w.heap.size := by omega
          have HTt4 := hid_into (Ht.out.below HB4.out (Nat.le_refl _))
          clear hW sm4 d3 HT3 HB3 HR3 HX3 hs
          go_wp2_with (first
            | (go_at_call 65; refine (CA _ HTt4.out).mono ?_; rintro e w5 ⟨rfl, B5⟩; have HR5 := hid_into (HR4.out.below B5 HR4.out.lt); have hX5 := HX4.out.below B5 HX4.out.lt; have HT5 := hid_into (HT4.out.below B5); have HB5 := hid_into (HB4.out.trans (B5.mono HB4.out.size)); have k0 := hX5.cell 0; have k1 := hX5.cell 1; have j1 := hX5.frozen 1; simp only [List.getElem?_cons_succ, List.getElem?_cons_zero] at k0 k1; have HX5 := hid_into hX5; clear hX5 B5))
          generalize hW6 : w5.setCell ⟨w2.heap.size, 1, none⟩ (.int .i64 m) = W6
          have o6 : Only w2.heap.size w5 W6 := by rw [← hW6]; exact Only.set _ _ _ _
          have hX6 : Cw W6 w2.heap.size [.int .i64 (n : Int), .int .i64 m] 60 := by rw [← hW6]; exact HX5.out.set 1 (.int .i64 m)
          have hR6 := o6.cw HR5.out (Ne.symm hxr)
          have hT6 : Tb W6 tb := o6.cw HT5.out (by intro e; have h' := HT5.out; have h'' : w5.heap[tb]? = some (.cells opsR.toArray 57 (0, 0)) := h'; have h3 : w5.heap[tb]? = some (.cells [Value.int .i64 (n : Int), .int .i64 0].toArray 60 (0, 0)) := (by rw [e]; exact HX5.out); rw [h''] at h3; simp at h3)
          have hB6 := HB5.out.trans (o6.below (by omega))
          have x0 := hX6.cell 0
          have x1 := hX6.cell 1
          simp only [List.getElem?_cons_succ, List.getElem?_cons_zero] at x0 x1
          have CL := line_any tb n m W6.drew ((Ht.out.below hB6 (Nat.le_refl _)).tp.sm (Sm.drewN W6 1)) (hT6.keep rfl) n1 n2 hm
          have HX6 := hid_into hX6
          have HR6 := hid_into hR6
          have HB6 := hid_into hB6
          clear hW6 o6 hX6 hR6 hT6 hB6 HX5 HR5 HT5 HB5 k0 k1 j1 HX4 HR4 HT4 HB4 HTt4
          generalize lineL ((n : Int), m) = la at *
          go_region_with (go_at_call 33; refine CL.mono ?_; rintro e w7 ⟨rfl, B7⟩; have B7' := below_undrew B7; have hX7 := HX6.out.below B7' HX6.out.lt; have hR7 := HR6.out.below B7' HR6.out.lt; have y0 := hX7.cell 0; have y1 := hX7.cell 1; have r0 := hR7.cell 0; have r1 := hR7.cell 1; have f0 := hR7.frozen 0; have f1 := hR7.frozen 1; simp only [List.getElem?_cons_succ, List.getElem?_cons_zero] at y0 y1 r0 r1)
          all_goals
            have HR7 : Hid (Cw ((w7.setCell ⟨w.heap.size, 0, none⟩ (.int .i64 (n : Int))).setCell ⟨w.heap.size, 1, none⟩ (.int .i64 m)) w.heap.size [.int .i64 (n : Int), .int .i64 m] 60) := (hR7.set 0 (.int .i64 (n : Int))).set 1 (.int .i64 m)
            have HB7 : Hid (Below w.heap.size w ((w7.setCell ⟨w.heap.size, 0, none⟩ (.int .i64 (n : Int))).setCell ⟨w.heap.size, 1, none⟩ (.int .i64 m))) := ((HB6.out.trans (B7'.mono HB6.out.size)).setCell (p := ⟨w.heap.size, 0, none⟩) (Nat.le_refl _) _).setCell (p := ⟨w.heap.size, 1, none⟩) (Nat.le_refl _) _
            clear hX7 hR7 B7 B7' y0 y1 r0 r1 f0 f1
            go_wp2_with fail
            exact ret_row2 rfl rfl rfl HR7.out Tryd.underlying60 rfl (hid_into Tryd.size60) ⟨(n : Int), m, _, rfl, ReadP.fin2 rfl HE.out, HB7.out⟩
      | false =>
        have HE : Hid (readL ln = if lineL ((n : Int), 0) = ln then some ((n : Int), 0) else none) := HF4.out n 0 HFn.out n1 n2 HLn.out (fun h => by rw [hs] at h; cases h) (fun _ => rfl)
        clear HF2 HF3 HF4 HFn CA
        go_enter Tryd.func44, Tryd.ntmps44
        go_wp2_with (first
          | (go_at_call 43; refine C43.mono ?_; rintro e w1 ⟨rfl, sm1⟩; have HT1 := hid_into ((HT.out.below HA.out).keep (w' := w1) (by rw [sm1.heap])); have HB1 := hid_into (HA.out.trans (sm1.below _)); have HR1 := hid_into (sm1.cw HR0.out); clear sm1)
          | (go_at_call 64; refine (CF _ HT1.out).mono ?_; rintro e w2 ⟨rfl, rfl⟩; have hrb := HR1.out.lt; have hA3 : Below w2.heap.size w2 (w2.alloc (.cells #[.int .i64 (n : Int), .int .i64 0] 60)) := ((Below.refl _ _).alloc (Nat.le_refl _) _); have HR3 := hid_into (HR1.out.below hA3 hrb); have hX3 : Cw (w2.alloc (.cells #[.int .i64 (n : Int), .int .i64 0] 60)) w2.heap.size [.int .i64 (n : Int), .int .i64 0] 60 := (Cw.new w2 _ _); have HX3 := hid_into hX3; have HT3 := hid_into (HT1.out.below hA3); have HB3 := hid_into (HB1.out.trans (hA3.mono HB1.out.size)); clear hX3 hA3))
        have d3 := (HT3.out.at n n1 n2).2.1
        rw [hs] at d3
        go_quiet (fail)
        generalize hW : (w2.alloc (.cells #[.int .i64 (n : Int), .int .i64 0] 60)).drewN nq = W4
        have sm4 : Sm (w2.alloc (.cells #[.int .i64 (n : Int), .int .i64 0] 60)) W4 := by rw [← hW]; exact Sm.drewN _ _
        have hX4 := sm4.cw HX3.out
        have hR4 := sm4.cw HR3.out
        have hT4 : Tb W4 tb := HT3.out.keep (by rw [sm4.heap])
        have hB4 := HB3.out.trans (sm4.below _)
        have x0 := hX4.cell 0
        have x1 := hX4.cell 1
        simp only [List.getElem?_cons_succ, List.getElem?_cons_zero] at x0 x1
        have CL := line_any tb n 0 W4.drew ((Ht.out.below hB4 (Nat.le_refl _)).tp.sm (Sm.drewN W4 1)) (hT4.keep rfl) n1 n2 ⟨by decide, by decide⟩
        have HX4 := hid_into hX4
        have HR4 := hid_into hR4
        have HB4 := hid_into hB4
        clear hW sm4 hX4 hR4 hT4 hB4 d3 HT3 HB3 HR3 HX3 hs
        generalize lineL ((n : Int), 0) = la at *
        go_wp2_with fail
        go_region_with (go_at_call 33; refine CL.mono ?_; rintro e w7 ⟨rfl, B7⟩; have B7' := below_undrew B7; have hX7 := HX4.out.below B7' HX4.out.lt; have hR7 := HR4.out.below B7' HR4.out.lt; have y0 := hX7.cell 0; have y1 := hX7.cell 1; have r0 := hR7.cell 0; have r1 := hR7.cell 1; have f0 := hR7.frozen 0; have f1 := hR7.frozen 1; simp only [List.getElem?_cons_succ, List.getElem?_cons_zero] at y0 y1 r0 r1)
        all_goals
          have HR7 : Hid (Cw ((w7.setCell ⟨w.heap.size, 0, none⟩ (.int .i64 (n : Int))).setCell ⟨w.heap.size, 1, none⟩ (.int .i64 0)) w.heap.size [.int .i64 (n : Int), .int .i64 0] 60) := (hR7.set 0 (.int .i64 (n : Int))).set 1 (.int .i64 0)
          have HB7 : Hid (Below w.heap.size w ((w7.setCell ⟨w.heap.size, 0, none⟩ (.int .i64 (n : Int))).setCell ⟨w.heap.size, 1, none⟩ (.int .i64 0))) := ((HB4.out.trans (B7'.mono HB4.out.size)).setCell (p := ⟨w.heap.size, 0, none⟩) (Nat.le_refl _) _).setCell (p := ⟨w.heap.size, 1, none⟩) (Nat.le_refl _) _
          clear hX7 hR7 B7 B7' y0 y1 r0 r1 f0 f1
          go_wp2_with fail
          exact ret_row2 rfl rfl rfl HR7.out Tryd.underlying60 rfl (hid_into Tryd.size60) ⟨(n : Int), 0, _, rfl, ReadP.fin2 rfl HE.out, HB7.out⟩
  · have HN : Hid (readL ln = none) := HF1.out (Or.inr ⟨rfl, fun j h1 h2 h3 => hex ⟨j, h1, h2, h3⟩⟩)
    have CF := find_no tb nm hex
    clear HF1 HF2 HF3 HF4 hex
    go_enter Tryd.func44, Tryd.ntmps44
    go_wp2_with (first
      | (go_at_call 43; refine C43.mono ?_; rintro e w1 ⟨rfl, sm1⟩; have HT1 := hid_into ((HT.out.below HA.out).keep (w' := w1) (by rw [sm1.heap])); have HB1 := hid_into (HA.out.trans (sm1.below _)); have HR1 := hid_into (sm1.cw HR0.out); clear sm1)
      | (go_at_call 64; refine (CF _ HT1.out).mono ?_; rintro e w2 ⟨rfl, rfl⟩; have hrb := HR1.out.lt; have hA3 : Below w2.heap.size w2 (w2.alloc (.cells #[.int .i64 0, .int .i64 0] 60)) := ((Below.refl _ _).alloc (Nat.le_refl _) _); have HR3 := hid_into (HR1.out.below hA3 hrb); have hX3 : Cw (w2.alloc (.cells #[.int .i64 0, .int .i64 0] 60)) w2.heap.size [.int .i64 0, .int .i64 0] 60 := (Cw.new w2 _ _); have HX3 := hid_into hX3; have HT3 := hid_into (HT1.out.below hA3); have HB3 := hid_into (HB1.out.trans (hA3.mono HB1.out.size)); clear hX3 hA3)
      | (refine wpList_store_rw rfl 60 (.tmp 4) (.tmp 30) rfl w.heap.size [.int .i64 0, .int .i64 0] [.int .i64 0, .int .i64 0] 60 rfl rfl HR3.out (hid_into Tryd.size60) (hid_into rfl) (by simp [Value.oneCell']) ?_; intro W5 hc5 O5; have d0 := hc5.cell 0; have d1 := hc5.cell 1; simp only [List.getElem?_cons_succ, List.getElem?_cons_zero] at d0 d1; have HB5 := hid_into (HB3.out.trans (O5.below (Nat.le_refl _)))))
    exact ret_row2 rfl rfl rfl hc5 Tryd.underlying60 rfl (hid_into Tryd.size60) ⟨0, 0, false, rfl, ReadP.no HN.out, HB5.out⟩
end Go.Proofs.YtddmnpfebajnmaaDoor
