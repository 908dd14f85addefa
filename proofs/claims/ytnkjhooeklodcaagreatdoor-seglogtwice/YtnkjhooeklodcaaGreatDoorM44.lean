/-
  Joined from: SegXp.
-/
import Derived.Test.YtnkjhooeklodcaaGreatDoorM39
import Derived.Deep.DeepCutAuto
import Derived.Deep.CutBlock
section
/-
  The document's log: Open.
-/
namespace Go.Proofs.YtnkjhooeklodcaaGreatDoor
open Go.RowKit Go.Maps Go.Sort
open Fr (Rw2 Osl bytesOf2)

variable {w w' : World} {D F : Nat → Prop} {lb wb : Nat} {u : Ud} {pre : List UInt8}
def OpenP (w : World) (D : Nat → Prop) (wb : Nat) (pre : List UInt8) (r : (Int × Ud) × List (List Int) × List Nat) (e : Ending) (w' : World) : Prop :=
  ∃ w2 lb es, Below w.heap.size w w2 ∧ w.heap.size ≤ lb ∧ lb < w2.heap.size ∧
    ((r.1.1 ≠ 0 ∧ e = .returned (.tuple #[.pointer none, .int .i64 r.1.1]) ∧ ∃ ss, XRes w2 D (fun k => k = lb) lb wb pre r.1.2 es ss 0 false w') ∨
     (r.1.1 = 0 ∧ e = .returned (.tuple #[.pointer (some ⟨lb, 0, none⟩), .int .i64 0]) ∧ es.map (·.2) = r.2.1 ∧ XRes w2 D (fun k => k = lb) lb wb pre r.1.2 es r.2.2 (es.length + 1) false w'))
theorem seg_num_lt {pre x : List UInt8} (h : isSeg x pre = true) : numV (x.drop pre.length) < 100000000 := by
  unfold isSeg at h
  rw [Bool.and_eq_true, Bool.and_eq_true, beq_iff_eq, seg_all] at h
  obtain ⟨h1, h2, h3⟩ := h
  have ht : Lib.trimPrefix x pre = x.drop pre.length := by unfold Lib.trimPrefix; rw [if_pos h1]
  rw [ht] at h2 h3
  have := numV_lt _ (fun d hd => List.all_eq_true.1 h3 d hd)
  rw [h2] at this
  exact this
theorem numE_seg {pre x : List UInt8} (h : isSeg x pre = true) : numE pre x = (numV (x.drop pre.length) : Int) := if_pos h
theorem numE_no {pre x : List UInt8} (h : isSeg x pre = false) : numE pre x = -1 := if_neg (by rw [h]; decide)
set_option maxHeartbeats 8000000 in
set_option maxRecDepth 100000 in
theorem XOpen_any (w : World) (h : Qd w D wb u) (hg : Gd u) (hD : ∀ k, D k → k < w.heap.size) (hp1 : 1 ≤ pre.length) (hp2 : pre.length ≤ 50) (hnl : ∀ x ∈ u.us.map (·.1), x.length ≤ 140737488355328) (hcn : u.us.length ≤ 1000000) (hzs : ∀ x, (at0U u.us x).1.length ≤ 1000000000 ∧ Byt (at0U u.us x).1)
    (hb1 : (opF pre u (segsN (u.us.map (·.1)) pre) 1).2.1.length ≤ 9999999) (hb2 : (opF pre u (segsN (u.us.map (·.1)) pre) 1).2.2.length ≤ 9999999) :
    Calls Tryz.prog 23 #[.pointer (some ⟨wb, 0, none⟩), encStr pre] w (OpenP w D wb pre (openF pre u)) := by
  have hz : (⟨pre.toArray⟩ : ByteArray).size = pre.length := by simp [ByteArray.size]
  have f1 : ¬ (pre.length : Int) < 1 := by omega
  have f2 : ¬ (50 : Int) < (pre.length : Int) := by omega
  have hA : Below w.heap.size w (w.alloc (.cells #[.pointer (some ⟨wb, 0, none⟩), encStr pre, .slice none 0 0, .slice none 0 0, .int .i64 0, .bool false] 32)) := (Below.refl _ _).alloc (Nat.le_refl _) _
  have CNm := qNames (h.to hA)
  obtain ⟨ns, hns⟩ : ∃ ns, ns = u.us.map (·.1) := ⟨_, rfl⟩
  rw [← hns] at CNm hnl hb1 hb2
  have HOF : Hid (openF pre u = if (opF pre u (segsN ns pre) 1).1.1 ≠ 0 then opF pre u (segsN ns pre) 1 else (allU syU (opF pre u (segsN ns pre) 1).1.2 (namesN pre (opF pre u (segsN ns pre) 1).2.2), (opF pre u (segsN ns pre) 1).2)) := by
    show _ = _
    rw [hns]; rfl
  have hlen : ns.length ≤ 1000000 := by rw [hns, List.length_map]; exact hcn
  have hW0 : (w.alloc (.cells #[.pointer (some ⟨wb, 0, none⟩), encStr pre, .slice none 0 0, .slice none 0 0, .int .i64 0, .bool false] 32)).heap.size = w.heap.size + 1 := World.size_alloc _ _
  have hnew := heap_alloc_new w (.cells #[.pointer (some ⟨wb, 0, none⟩), encStr pre, .slice none 0 0, .slice none 0 0, .int .i64 0, .bool false] 32)
  have HNL := hid_into hnl
  have HH := hid_into h
  have HD := hid_into hD
  have HB := hid_into (And.intro hb1 hb2)
  have HA := hid_into hA
  have HW0 := hid_into hW0
  have HNW := hid_into hnew
  clear h hns hnl hcn hb1 hb2 hD hA hW0 hnew
  generalize openF pre u = R at *
  go_enter Tryz.func23, Tryz.ntmps23
  go_wp2_with fail
  refine CNm.mono ?_
  rintro e w1 ⟨v1, rfl, ho1, hB1⟩
  have hB1' := HA.out.trans (hB1.mono (by rw [HW0.out]; omega))
  obtain ⟨ao1, cap1, hv1⟩ := ho1.form
  subst hv1
  have HO := hid_into ho1
  have HB1 := hid_into hB1'
  have HBW := hid_into hB1
  clear CNm ho1 hB1 hB1'
  go_wp2_with fail
  go_loopw [7, 9] (fun o i wr => ∃ (k : Nat) (ao : Option Addr) (cap : Nat), k ≤ ns.length ∧ i = .int .i64 (k : Int) ∧ o = .slice ao (segsN (ns.take k) pre).length cap ∧ Hid (Ot wr w1.heap.size o (segsN (ns.take k) pre)) ∧ Hid (Below w1.heap.size w1 wr)) (fun _ i _ => ns.length - (intOf i).toNat)
  case atStart => exact ⟨0, none, 0, by omega, rfl, rfl, World.ownsRow_nil _ _ _ _, Below.refl _ _⟩
  case round =>
    obtain ⟨k, ao, cap, hk, rfl, rfl, HT, HBr⟩ := hrel
    by_cases hlt : k < ns.length
    · obtain ⟨x, hx⟩ : ∃ x, ns[k]? = some x := ⟨_, List.getElem?_eq_getElem hlt⟩
      have hrow : Ot wr (w.alloc (.cells #[.pointer (some ⟨wb, 0, none⟩), encStr pre, .slice none 0 0, .slice none 0 0, .int .i64 0, .bool false] 32)).heap.size (.slice ao1 ns.length cap1) ns := ownsRow_below HO.out HBr.out
      obtain ⟨g, hg1⟩ : ∃ g, ao1 = some ⟨g, 0, none⟩ := by
        rcases hrow.2 with ⟨_, h2⟩ | ⟨g, cap, cur, h2, _⟩
        · omega
        · simp only [Value.slice.injEq] at h2
          exact ⟨g, h2.1⟩
      subst hg1
      have y1 := hrow.cell hx
      have y1l := World.block_lt_of_cell? wr _ y1
      simp only at y1l
      have hxl := HNL.out x (List.mem_of_getElem? hx)
      have htake : ns.take (k + 1) = ns.take k ++ [x] := by rw [List.take_add_one, hx]; rfl
      have CR := number_ref pre x wr (by omega) hxl
      have HTK := hid_into htake
      have g1 : (k : Int) < (ns.length : Int) := by omega
      have g2 : (0 : Int) ≤ (k : Int) := by omega
      clear hrow hx htake
      cases hseg : isSeg x pre with
      | false =>
        rw [numE_no hseg] at CR
        have HX : Hid (segsN (ns.take (k + 1)) pre = segsN (ns.take k) pre) := by show _ = _; rw [HTK.out]; simp [segsN, hseg]
        clear hseg
        go_wp2_with fail
        refine CR.mono ?_
        rintro e w3 ⟨rfl, hw3⟩
        replace hw3 := hw3.symm
        subst hw3
        go_wp2_with fail
        go_roundw
        case rel => exact ⟨k + 1, ao, cap, by omega, by go_num, by rw [HX.out], by rw [HX.out]; exact HT, HBr⟩
        case measure => simp [intOf]; omega
      | true =>
        rw [numE_seg hseg] at CR
        have HX : Hid (segsN (ns.take (k + 1)) pre = segsN (ns.take k) pre ++ [x]) := by show _ = _; rw [HTK.out]; simp [segsN, hseg]
        have g3 : (0 : Int) ≤ (numV (x.drop pre.length) : Int) := by omega
        have hll : (segsN (ns.take k) pre).length ≤ 1000000000 := by
          have h1 : (segsN (ns.take k) pre).length ≤ (ns.take k).length := List.length_filter_le _ _
          rw [List.length_take] at h1
          omega
        have hA2 : Below wr.heap.size wr (wr.alloc (.cells #[encStr x] 9)) := (Below.refl _ _).alloc (Nat.le_refl _) _
        have hot1 : Ot (wr.alloc (.cells #[encStr x] 9)) w1.heap.size (.slice ao (segsN (ns.take k) pre).length cap) (segsN (ns.take k) pre) := ownsRow_below HT.out hA2
        have hcl : (wr.alloc (.cells #[encStr x] 9)).cell? ⟨wr.heap.size, 0, none⟩ = some (encStr x) := by
          rw [cell_of_row _ _ 0 _ _ _ (heap_alloc_new wr _)]; rfl
        have hBa : Below w1.heap.size w1 (wr.alloc (.cells #[encStr x] 9)) := HBr.out.alloc HBr.out.size _
        have hsz := hBa.size
        have HBA := hid_into hBa
        have hfrom : ∀ q, (Value.slice ao (segsN (ns.take k) pre).length cap).ownBlock = some q → w1.heap.size ≤ q := fun q hq => (World.ownsRow.lt hot1 q hq).1
        have HF := hid_into hfrom
        clear hseg hfrom hBa hA2
        generalize segsN (ns.take k) pre = L at *
        generalize numV (x.drop pre.length) = nv at *
        go_wp2_with fail
        refine CR.mono ?_
        rintro e w3 ⟨rfl, hw3⟩
        replace hw3 := hw3.symm
        subst hw3
        go_wp2_with (first | (refine wpList_made_str _ rfl (.tmp 58) rfl x rfl ?_) | (at_builtin; refine wpList_append_str _ rfl (.tmp 54) (.tmp 59) rfl w1.heap.size (.slice ao L.length cap) L (by rfl) hot1 wr.heap.size x (by rfl) hcl hll hsz ?_))
        intro ao2 cap2 w2 hot2 hg2
        have hB2 : Hid (Below w1.heap.size w1 w2) := HBA.out.trans ⟨hg2.os, hg2.tape, hg2.output, hg2.size, fun q hq => hg2.block q (by have := HBA.out.size; omega) (fun e => by have := HF.out q e.symm; omega)⟩
        have HO2 : Hid (Ot w2 w1.heap.size (.slice ao2 (segsN (ns.take (k + 1)) pre).length cap2) (segsN (ns.take (k + 1)) pre)) := by show Ot _ _ _ _; rw [HX.out, List.length_append]; exact hot2
        have HLn : Hid ((segsN (ns.take (k + 1)) pre).length = L.length + 1) := by show _ = _; rw [HX.out]; simp
        clear hot1 hcl hg2 hot2
        go_wp2_with fail
        go_roundw
        case rel => exact ⟨k + 1, ao2, cap2, by omega, by go_num, by rw [HLn.out], by rw [← HLn.out]; exact HO2, hB2⟩
        case measure => simp [intOf]; omega
    · have hke : ns.take k = ns := List.take_of_length_le (by omega)
      have g1 : ¬ (k : Int) < (ns.length : Int) := by omega
      rw [hke] at HT
      rw [hke]
      have hL1 : ∀ x ∈ segsN ns pre, isSeg x pre = true ∧ x.length ≤ 140737488355328 := fun x hx => by
        have := List.mem_filter.1 hx
        exact ⟨this.2, HNL.out x this.1⟩
      have hL2 : (segsN ns pre).length ≤ 1000000 := Nat.le_trans (List.length_filter_le _ _) hlen
      have hB2 : Below w.heap.size w wr := HB1.out.trans (HBr.out.mono HB1.out.size)
      have hlw1 : w.heap.size < w1.heap.size := by have := HBW.out.size; have := HW0.out; omega
      have hlb : wr.heap[w.heap.size]? = some (.cells #[.pointer (some ⟨wb, 0, none⟩), encStr pre, .slice none 0 0, .slice none 0 0, .int .i64 0, .bool false] 32) := by
        rw [HBr.out.block _ hlw1, HBW.out.block _ (by rw [HW0.out]; omega)]
        exact HNW.out
      have hX0 : Hid (XRes wr D (fun k => k = w.heap.size) w.heap.size wb pre u [] [] 0 false wr) := by
        refine XRes.refl ⟨HH.out.to hB2, ⟨.slice none 0 0, .slice none 0 0, ⟨hlb, rfl, World.ownsRow_nil _ _ _ _, (fun r hr => by cases hr), World.ownsRow_nil _ _ _ _, ⟨(fun k hk => by cases hk), (fun k hk => by cases hk)⟩, ⟨by decide, by decide, by decide, by omega, (fun n hn => by cases hn)⟩⟩⟩, fun k hk => Nat.lt_of_lt_of_le (HD.out k hk) hB2.size, fun k hk => by subst hk; have := HBr.out.size; omega, fun k hk e => by have := HD.out k hk; omega⟩ (Below.refl _ _)
      have hNB : Hid (∀ k, (Value.slice ao (segsN ns pre).length cap).ownBlock = some k → ¬ (D k ∨ k = w.heap.size) ∧ k < wr.heap.size) := by
        intro k hk
        have := World.ownsRow.lt HT.out k hk
        exact ⟨fun e => e.elim (fun e => by have := HD.out k e; omega) fun e => by omega, this.2⟩
      have HBx := hid_into hB2
      have HL1 := hid_into hL1
      have HLw : Hid (w.heap.size < wr.heap.size) := by show _ < _; have := HBr.out.size; omega
      clear hL1 hB2 hlb HO HB1 HBW HA HW0 HNW HNL hke HBr hlw1 HH HD
      generalize segsN ns pre = L at *
      generalize hR0 : opF pre u L 1 = R0 at *
      have HR0 := hid_into hR0
      clear hR0
      generalize hlbn : w.heap.size = lb at *
      generalize wr = W2 at *
      go_upto_block 2 with fail
      go_cut [] (fun wx => ∃ (es : List En) (ss : List Nat) (u' : Ud), Hid (R0 = ((0, u'), es.map (·.2), ss)) ∧ Hid (Gd u') ∧ Hid (XRes W2 D (fun k => k = lb) lb wb pre u' es ss 0 false wx))
      case first =>
        go_wp2_with fail
        go_loopw [10, 11] (fun nx i wr2 => ∃ (i0 next : Nat) (es : List En) (ss : List Nat), i0 ≤ L.length ∧ nx = .int .i64 (next : Int) ∧ i = .int .i64 (i0 : Int) ∧ next = es.length + 1 ∧ Hid (R0 = ((opF pre u (L.drop i0) next).1, es.map (·.2) ++ (opF pre u (L.drop i0) next).2.1, ss ++ (opF pre u (L.drop i0) next).2.2)) ∧ Hid (XRes W2 D (fun k => k = lb) lb wb pre u es ss 0 false wr2)) (fun _ i _ => L.length - (intOf i).toNat)
        case atStart => exact ⟨0, 1, [], [], by omega, rfl, rfl, rfl, by show R0 = _; rw [List.drop_zero, HR0.out]; simp, hX0⟩
        case round =>
          obtain ⟨i0, next, es, ss, hi0, rfl, rfl, hnx, HE, HX⟩ := hrel
          have HNX := hid_into hnx
          clear hnx
          by_cases hlt2 : i0 < L.length
          · obtain ⟨x, hx⟩ : ∃ x, L[i0]? = some x := ⟨_, List.getElem?_eq_getElem hlt2⟩
            have hdrop : L.drop i0 = x :: L.drop (i0 + 1) := by
              obtain ⟨hi, e⟩ := List.getElem?_eq_some_iff.1 hx
              rw [List.drop_eq_getElem_cons hi, e]
            obtain ⟨D1, F1, h1, h2, h3, h4⟩ := HX.out
            obtain ⟨ev, sv, hl⟩ := h1.l
            have hrow : Ot wr w1.heap.size (.slice ao L.length cap) L := Fr.ownsRow_keep HT.out fun k hk hlt => h4.block k hlt (hNB.out k hk).1
            obtain ⟨g, hg1⟩ : ∃ g, ao = some ⟨g, 0, none⟩ := by
              rcases hrow.2 with ⟨_, h2⟩ | ⟨g, cap, cur, h2, _⟩
              · omega
              · simp only [Value.slice.injEq] at h2
                exact ⟨g, h2.1⟩
            subst hg1
            have y1 := hrow.cell hx
            have y1l := World.block_lt_of_cell? wr _ y1
            simp only at y1l
            obtain ⟨hseg, hxl⟩ := HL1.out x (List.mem_of_getElem? hx)
            have CR := number_ref pre x wr (by omega) hxl
            rw [numE_seg hseg] at CR
            have hn8 := seg_num_lt hseg
            have CD := qRead h1.d hg x
            obtain ⟨hz1, hz2⟩ := hzs x
            have CF : Hid (∀ w4 a4 p4, Ow w4 wr.heap.size (.slice a4 (at0U u.us x).1.length p4) (at0U u.us x).1 → Calls Tryz.prog 63 #[.slice a4 (at0U u.us x).1.length p4, .int .i64 (numV (x.drop pre.length) : Int)] w4 (ReadP w4 (numV (x.drop pre.length)) (at0U u.us x).1)) := fun w4 a4 p4 ho => read_any _ _ _ w4 ho.bs hz2 hz1 hn8
            have HOP : Hid (opF pre u (L.drop i0) next = if numV (x.drop pre.length) = next ∧ (rdF (next - 1) (at0U u.us x).1).2 = (at0U u.us x).1.length then
      ((opF pre u (L.drop (i0 + 1)) (next + (rdF (next - 1) (at0U u.us x).1).1.length)).1, (rdF (next - 1) (at0U u.us x).1).1 ++ (opF pre u (L.drop (i0 + 1)) (next + (rdF (next - 1) (at0U u.us x).1).1.length)).2.1, next :: (opF pre u (L.drop (i0 + 1)) (next + (rdF (next - 1) (at0U u.us x).1).1.length)).2.2)
    else if (allU rmU u (L.drop (i0 + 1)).reverse).1 ≠ 0 then (allU rmU u (L.drop (i0 + 1)).reverse, [], [])
    else if numV (x.drop pre.length) ≠ next ∨ (rdF (next - 1) (at0U u.us x).1).2 = 0 then ((allU rmU u (L.drop (i0 + 1)).reverse).2.five [x] (rmU x), [], [])
    else ((allU rmU u (L.drop (i0 + 1)).reverse).2.five [x] (cuU x ((rdF (next - 1) (at0U u.us x).1).2 : Int)), (rdF (next - 1) (at0U u.us x).1).1, [next])) := by
              show _ = _
              rw [hdrop]; rfl
            have a1 : (i0 : Int) < (L.length : Int) := by omega
            have a2 : (0 : Int) ≤ (i0 : Int) := by omega
            have HZL : Hid (∀ ps m, Tk (next - 1) (at0U u.us x).1 ps m → ∀ p ∈ ps, p.length ≤ 65536) := fun ps m h => h.len
            generalize numV (x.drop pre.length) = nn at *
            have HRF := hid_into (rdF_spec (next - 1) (at0U u.us x).1)
            have H1 := hid_into h1
            have H2 := hid_into h2
            have H3 := hid_into h3
            have H4 := hid_into h4
            have HL := hid_into hl
            have HXX := hid_into hx
            clear hrow hseg hx hdrop h2 h3 h4
            generalize (at0U u.us x).1 = zs at *
            have hsvf := hl.svform
            have hevf := hl.evform
            obtain ⟨as6, ps6, rfl⟩ := hsvf
            obtain ⟨ae6, pe6, rfl⟩ := hevf
            have e2 : wr.cell? ⟨lb, 2, none⟩ = some (.slice ae6 es.length pe6) := hl.blk.cell 2
            have e3 : wr.cell? ⟨lb, 3, none⟩ = some (.slice as6 ss.length ps6) := hl.blk.cell 3
            have hlbl := hl.blk.lt
            clear hl h1
            go_wp2_with fail
            refine CR.mono ?_
            rintro e w3 ⟨rfl, hw3⟩
            replace hw3 := hw3.symm
            subst hw3
            go_wp2_with fail
            refine CD.mono ?_
            rintro e w4 ⟨a4, p4, rfl, ho4, hB4⟩
            have y4 := cell_below hB4 y1 y1l
            go_wp2_with fail
            refine (CF.out w4 a4 p4 ho4).mono ?_
            intro e w5 hRP
            clear CR CD CF ho4
            by_cases hnn : nn = next
            · obtain ⟨ar, cr, rs, rfl, hos, hbt, hB5⟩ := hRP.plain (by have := HNX.out; omega)
              have hB45 : Below wr.heap.size wr w5 := hB4.trans (hB5.mono hB4.size)
              by_cases hwh : (rdF (nn - 1) zs).2 = zs.length
              · subst hnn
                have hrl : rs.length = (rdF (nn - 1) zs).1.length := by rw [← hbt, Fr.bytesOf2_len]
                have HE2 : Hid (R0 = ((opF pre u (L.drop (i0 + 1)) (nn + rs.length)).1, (es ++ rs).map (·.2) ++ (opF pre u (L.drop (i0 + 1)) (nn + rs.length)).2.1, (ss ++ [nn]) ++ (opF pre u (L.drop (i0 + 1)) (nn + rs.length)).2.2)) := by
                  show _ = _
                  rw [HE.out, HOP.out, if_pos ⟨rfl, hwh⟩, ← hrl, ← hbt]
                  simp [Fr.bytesOf2]
                have hlens : es.length + rs.length ≤ 9999999 ∧ ss.length + 1 ≤ 9999999 := by
                  have h1 := HB.out
                  rw [HE2.out] at h1
                  simp only [List.length_append, List.length_map, List.length_cons, List.length_nil] at h1
                  omega
                have hwt : decide ((rdF (nn - 1) zs).2 = zs.length) = true := decide_eq_true hwh
                have hrs : ∀ r ∈ rs, Bs w5 r.1 r.2 ∧ Byt r.2 ∧ r.2.length ≤ 65536 ∧ ∀ k, r.1.ownBlock = some k → wr.heap.size ≤ k ∧ k < w5.heap.size := by
                  intro r hr
                  obtain ⟨b1, b2, b3, b4⟩ := hos.each r hr
                  refine ⟨b1.bs, b2, HZL.out _ _ HRF.out.1 r.2 ?_, fun k hk => ?_⟩
                  · rw [← hbt]; exact List.mem_map_of_mem hr
                  · have := World.ownsRow.lt b1 k hk
                    have := hB4.size
                    omega
                rw [hwt]
                generalize (rdF (nn - 1) zs).2 = mm at *
                have b1 : ((nn : Int) == (nn : Int)) = true := by simp
                have hA6 : Below w5.heap.size w5 (w5.alloc (.cells #[.int .i64 (nn : Int)] 3)) := (Below.refl _ _).alloc (Nat.le_refl _) _
                have hseg6 : (w5.alloc (.cells #[.int .i64 (nn : Int)] 3)).ownsRow 0 3 1 (.slice as6 ss.length ps6) ss.length (numsOf ss) := ((HL.out.below hB45).below hA6).seg
                have hcl6 : (w5.alloc (.cells #[.int .i64 (nn : Int)] 3)).cell? ⟨w5.heap.size, 0, none⟩ = some (.int .i64 (nn : Int)) := by
                  rw [cell_of_row _ _ 0 _ _ _ (heap_alloc_new w5 _)]; rfl
                have hn9 : ss.length ≤ 1000000000 := by omega
                have e35 := cell_below hB45 e3 hlbl
                have e25 := cell_below hB45 e2 hlbl
                have hWs : (w5.alloc (.cells #[.int .i64 (nn : Int)] 3)).heap.size = w5.heap.size + 1 := World.size_alloc _ _
                have HWS := hid_into hWs
                have HOS := hid_into hos
                have HRS := hid_into hrs
                clear hWs hos hrs hRP hbt hwt hwh HOP HE HRF HZL hA6 hrl
                go_wp2_with (at_builtin; refine wpList_append_num _ rfl (.tmp 99) (.tmp 101) rfl (.slice as6 ss.length ps6) ss.length (numsOf ss) (by rfl) hseg6 w5.heap.size (.int .i64 (nn : Int)) rfl (by rfl) hcl6 hn9 ?_)
                intro a8 p8 w8 hrow8 hg8 hat8
                obtain ⟨c8, z8, hl7, hk7, hs7, hsv7, ho7⟩ := HL.out.segStep hB45 nn hn8 (by omega) (.slice a8 (ss.length + 1) p8) hrow8 hg8 (by first | exact hat8 | (rw [HWS.out] at hat8; exact hat8))
                have e27 := hl7.blk.cell 2
                have hsvl : ∀ k, (Value.slice as6 ss.length ps6).ownBlock = some k → k < wr.heap.size := fun k hk => (World.ownsRow.lt HL.out.seg k hk).2
                have hrow7 : (w8.setCell ⟨lb, 3, none⟩ (.slice a8 (ss.length + 1) p8)).ownsRow w4.heap.size 38 1 (.slice ar rs.length cr) (Fr.slOf rs).length (Fr.slOf rs) := by
                  have e1 : (Fr.slOf rs).length = rs.length := by simp [Fr.slOf]
                  rw [e1]
                  refine Fr.ownsRow_keep HOS.out.row fun k hk hlt => ?_
                  have h1 := (World.ownsRow.lt HOS.out.row k hk).1
                  have h2 := hB4.size
                  exact hk7 k hlt (by omega) fun e => by have := hsvl k e; omega
                have hone : ∀ y ∈ Fr.slOf rs, y.oneCell' = true := by
                  intro y hy
                  obtain ⟨r, hr, rfl⟩ := List.mem_map.1 hy
                  obtain ⟨ar', cr', e, _⟩ := (HRS.out r hr).1.len
                  rw [e]; rfl
                have hys : (Fr.slOf rs).length = rs.length := by simp [Fr.slOf]
                have HYS := hid_into hys
                have h63 : es.length + (Fr.slOf rs).length ≤ 1000000000 := by omega
                have hent7 := hl7.ent
                have HL7 := hid_into hl7
                have HK7 := hid_into hk7
                have HS7 := hid_into hs7
                have HV7 := hid_into hsv7
                have HO7 := hid_into ho7
                have HYN : Hid (Fr.slOf rs = enOf rs) := rfl
                clear hl7 hk7 hs7 hsv7 ho7 hrow8 hg8 hat8 hseg6 hcl6 hys hsvl
                generalize hysn : Fr.slOf rs = ys at *
                clear hysn
                go_wp2_with (at_builtin; refine wpList_append_rows _ rfl (.tmp 109) (.tmp 110) rfl (.slice ae6 es.length pe6) es.length (enOf es) (by rfl) hent7 w4.heap.size (.slice ar rs.length cr) ys (by rfl) hrow7 hone h63 ?_)
                intro a9 p9 w9 hrow9 hg9 hat9
                have hy1 := HYN.out
                subst hy1
                have hy2 := HYS.out
                clear HYS HYN
                rw [hy2] at hrow9 hat9
                rw [hy2]
                obtain ⟨c9, z9, hX⟩ := XRes.segment H1.out HL.out hB45 nn _ HL7.out HK7.out HS7.out HV7.out HO7.out rs HRS.out (.slice a9 (es.length + rs.length) p9) hrow9 hg9 (by first | exact hat9 | (rw [set_size]; exact hat9)) (by omega)
                have HXN : Hid (XRes W2 D (fun k => k = lb) lb wb pre u (es ++ rs) (ss ++ [nn]) 0 false (w9.setCell ⟨lb, 2, none⟩ (.slice a9 (es.length + rs.length) p9))) := XRes.then H2.out H3.out H4.out hX
                have q2 : IntKind.i64.wrap ((nn : Int) + (rs.length : Int)) = ((nn + rs.length : Nat) : Int) := by rw [IntKind.wrap_i64]; omega
                have q3 : IntKind.i64.wrap ((i0 : Int) + 1) = ((i0 + 1 : Nat) : Int) := by rw [IntKind.wrap_i64]; omega
                clear hX hrow9 hg9 hat9 HL7 HK7 HS7 HV7 HO7 HRS HOS HWS hent7 hrow7 hone h63 H1 H2 H3 H4 HL
                go_wp2_with fail
                go_roundw
                case rel => exact ⟨i0 + 1, nn + rs.length, es ++ rs, ss ++ [nn], by omega, by go_num, by go_num, by have := HNX.out; rw [List.length_append]; omega, HE2, HXN⟩
                case measure => simp [intOf]; omega
              · subst hnn
                generalize wr = wrO at *
                have hwt : decide ((rdF (nn - 1) zs).2 = zs.length) = false := decide_eq_false hwh
                have b1 : ((nn : Int) == (nn : Int)) = true := by simp
                have hHOP : Hid (opF pre u (L.drop i0) nn = if (allU rmU u (L.drop (i0 + 1)).reverse).1 ≠ 0 then (allU rmU u (L.drop (i0 + 1)).reverse, [], []) else if (rdF (nn - 1) zs).2 = 0 then ((allU rmU u (L.drop (i0 + 1)).reverse).2.five [x] (rmU x), [], []) else ((allU rmU u (L.drop (i0 + 1)).reverse).2.five [x] (cuU x ((rdF (nn - 1) zs).2 : Int)), bytesOf2 rs, [nn])) := by
                  show _ = _
                  rw [HOP.out, if_neg fun h => hwh h.2]
                  by_cases h0 : (allU rmU u (L.drop (i0 + 1)).reverse).1 ≠ 0
                  · rw [if_pos h0, if_pos h0]
                  · rw [if_neg h0, if_neg h0]
                    by_cases hm : (rdF (nn - 1) zs).2 = 0
                    · rw [if_pos (Or.inr hm), if_pos hm]
                    · rw [if_neg (fun e => e.elim (fun e => e rfl) hm), if_neg hm, hbt]
                have hrs : ∀ r ∈ rs, Bs w5 r.1 r.2 ∧ Byt r.2 ∧ r.2.length ≤ 65536 ∧ ∀ k, r.1.ownBlock = some k → wrO.heap.size ≤ k ∧ k < w5.heap.size := by
                  intro r hr
                  obtain ⟨b1, b2, b3, b4⟩ := hos.each r hr
                  refine ⟨b1.bs, b2, HZL.out _ _ HRF.out.1 r.2 ?_, fun k hk => ?_⟩
                  · rw [← hbt]; exact List.mem_map_of_mem hr
                  · have := World.ownsRow.lt b1 k hk
                    have := hB4.size
                    omega
                have HRS := hid_into hrs
                have HOS := hid_into hos
                rw [hwt]
                clear HOP HRF HZL hrs hos hRP hbt hwt hwh
                generalize (rdF (nn - 1) zs).2 = mm at *
                have HXB : Hid (XRes w5 D1 F1 lb wb pre u es ss 0 false w5) := XRes.refl (H1.out.below hB45) (Below.refl _ _)
                have HN5 : Hid (∀ wr3, Grows (fun k => D1 k ∨ F1 k) w5 wr3 → ∀ j y, L[j]? = some y → wr3.cell? ⟨g, j, none⟩ = some (encStr y)) := by
                  intro wr3 hG j y hy
                  have h0 : Ot wr3 w1.heap.size (.slice (some ⟨g, 0, none⟩) L.length cap) L := Fr.ownsRow_keep HT.out fun k hk hlt => by
                    have hh := hNB.out k hk
                    have hs1 := H4.out.size
                    have hs2 := hB45.size
                    rw [hG.block k (by omega) fun e => ?_, hB45.block k (by omega), H4.out.block k hlt hh.1]
                    rcases e with e | e
                    · rcases H2.out k e with e | e
                      · exact hh.1 (Or.inl e)
                      · omega
                    · rcases H3.out k e with e | e
                      · exact hh.1 (Or.inr e)
                      · omega
                  exact h0.cell hy
                have q7 : IntKind.i64.wrap ((L.length : Int) - 1) = ((L.length - 1 : Nat) : Int) := by rw [IntKind.wrap_i64]; omega
                have HG5 : Hid (Grows (fun k => D k ∨ k = lb) W2 w5) := ⟨hB45.os.trans H4.out.os, hB45.tape.trans H4.out.tape, hB45.output.trans H4.out.output, Nat.le_trans H4.out.size hB45.size, fun k hk hn => (hB45.block k (Nat.lt_of_lt_of_le hk H4.out.size)).trans (H4.out.block k hk hn)⟩
                have HRET : Hid (∀ w6 u6 (e6 : Int), opF pre u (L.drop i0) nn = ((e6, u6), [], []) → e6 ≠ 0 → XRes w5 D1 F1 lb wb pre u6 es ss 0 false w6 → OpenP w D wb pre R (.returned (.tuple #[.pointer none, .int .i64 e6])) w6) := by
                  intro w6 u6 e6 he h0 hX
                  have hR0 : R0 = ((e6, u6), es.map (·.2), ss) := by rw [HE.out, he]; simp
                  have hR : R = R0 := by rw [HOF.out, if_pos (by rw [hR0]; exact h0)]
                  rw [hR, hR0]
                  exact ⟨W2, lb, es, by rw [hlbn]; exact HBx.out, by rw [hlbn]; exact Nat.le_refl _, HLw.out, Or.inl ⟨h0, rfl, ss, XRes.then H2.out H3.out HG5.out hX⟩⟩
                go_wp2_with fail
                go_loopw [18] (fun kv wr3 => ∃ (j : Nat) (u' : Ud), i0 ≤ j ∧ j < L.length ∧ kv = .int .i64 (j : Int) ∧ Hid (allU rmU u (L.drop (i0 + 1)).reverse = allU rmU u' ((L.take (j + 1)).drop (i0 + 1)).reverse) ∧ Hid (Gd u') ∧ Hid (XRes w5 D1 F1 lb wb pre u' es ss 0 false wr3)) (fun kv _ => (intOf kv).toNat)
                case atStart => exact ⟨L.length - 1, u, by omega, by omega, rfl, by show _ = _; rw [show L.length - 1 + 1 = L.length by omega, List.take_length], hg, HXB⟩
                case round =>
                  obtain ⟨j, u', hj1, hj2, rfl, HA3, HG3, HX3⟩ := hrel
                  by_cases hj : i0 < j
                  · obtain ⟨y, hy⟩ : ∃ y, L[j]? = some y := ⟨_, List.getElem?_eq_getElem hj2⟩
                    obtain ⟨hsy, hyl⟩ := HL1.out y (List.mem_of_getElem? hy)
                    obtain ⟨D3, F3, t1, t2, t3, t4⟩ := HX3.out
                    have cy := HN5.out wr t4 _ y hy
                    have CQ := qRemove t1.d HG3.out y hyl
                    have hrev : ((L.take (j + 1)).drop (i0 + 1)).reverse = y :: ((L.take j).drop (i0 + 1)).reverse := by
                      have e1 : L.take (j + 1) = L.take j ++ [y] := by rw [List.take_add_one, hy]; rfl
                      rw [e1, List.drop_append_of_le_length (by rw [List.length_take]; omega), List.reverse_append]
                      rfl
                    have HRV := hid_into hrev
                    have c1 : (i0 : Int) < (j : Int) := by omega
                    have c2 : (0 : Int) ≤ (j : Int) := by omega
                    have c3 : (j : Int) < (L.length : Int) := by omega
                    have q8 : IntKind.i64.wrap ((j : Int) - 1) = ((j - 1 : Nat) : Int) := by rw [IntKind.wrap_i64]; omega
                    have HGN : Hid (Gd (u'.five [y] (rmU y)).2) := HG3.out.remove y
                    have HAL : Hid (allU rmU u (L.drop (i0 + 1)).reverse = if (u'.five [y] (rmU y)).1 = 0 then allU rmU (u'.five [y] (rmU y)).2 ((L.take j).drop (i0 + 1)).reverse else u'.five [y] (rmU y)) := by
                      show _ = _
                      rw [HA3.out, HRV.out]; rfl
                    have HDK : Hid (∀ w6, QRes D3 wb (u'.five [y] (rmU y)).2 wr w6 → XRes w5 D1 F1 lb wb pre (u'.five [y] (rmU y)).2 es ss 0 false w6) := fun w6 hp => XRes.then t2 t3 t4 (XRes.disk t1 (Below.refl _ _) hp)
                    generalize u'.five [y] (rmU y) = r at *
                    obtain ⟨r1, r2⟩ := r
                    simp only at CQ HGN HAL HDK
                    clear t1 t2 t3 t4 hrev hsy hy
                    go_wp2_with fail
                    refine CQ.mono ?_
                    rintro e w6 ⟨rfl, hp⟩
                    have HX6 := hid_into (HDK.out w6 hp)
                    clear CQ HDK hp
                    by_cases h0 : r1 = 0
                    · subst h0
                      have HA4 : Hid (allU rmU u (L.drop (i0 + 1)).reverse = allU rmU r2 ((L.take (j - 1 + 1)).drop (i0 + 1)).reverse) := by
                        show _ = _
                        rw [HAL.out, if_pos rfl, show j - 1 + 1 = j by omega]
                      clear HAL
                      go_wp2_with fail
                      go_roundw
                      case rel => exact ⟨j - 1, r2, by omega, by omega, rfl, HA4, HGN, HX6⟩
                      case measure => simp [intOf]; omega
                    · have h7 : (r1 == 0) = false := beq_eq_false_iff_ne.2 h0
                      have HR6 : Hid (OpenP w D wb pre R (.returned (.tuple #[.pointer none, .int .i64 r1])) w6) := by
                        refine HRET.out w6 r2 r1 ?_ h0 HX6.out
                        rw [hHOP.out, HAL.out, if_neg h0, if_pos h0]
                      clear HAL
                      go_wp2_with fail
                      go_ret2
                      exact HR6.out
                  · obtain rfl : j = i0 := by omega
                    have HAE : Hid (allU rmU u (L.drop (j + 1)).reverse = (0, u')) := by
                      show _ = _
                      rw [HA3.out, List.drop_eq_nil_of_le (by rw [List.length_take]; omega)]; rfl
                    obtain ⟨D3, F3, t1, t2, t3, t4⟩ := HX3.out
                    have cx' := HN5.out wr t4 _ x HXX.out
                    by_cases hm0 : mm = 0
                    · have CQ := qRemove t1.d HG3.out x hxl
                      have HGN : Hid (Gd (u'.five [x] (rmU x)).2) := HG3.out.remove x
                      have HOE : Hid (opF pre u (L.drop j) nn = (u'.five [x] (rmU x), [], [])) := by
                        show _ = _
                        rw [hHOP.out, HAE.out, if_neg (by simp), if_pos hm0]
                      have HDK : Hid (∀ w6, QRes D3 wb (u'.five [x] (rmU x)).2 wr w6 → XRes w5 D1 F1 lb wb pre (u'.five [x] (rmU x)).2 es ss 0 false w6) := fun w6 hp => XRes.then t2 t3 t4 (XRes.disk t1 (Below.refl _ _) hp)
                      generalize u'.five [x] (rmU x) = r at *
                      obtain ⟨r1, r2⟩ := r
                      simp only at CQ HGN HOE HDK
                      have c1 : ¬ (j : Int) < (j : Int) := by omega
                      clear t1 t2 t3 t4 HA3 HAE hHOP hj hj1 HRS HOS
                      go_wp2_with fail
                      refine CQ.mono ?_
                      rintro e w6 ⟨rfl, hp⟩
                      have HX6 := hid_into (HDK.out w6 hp)
                      clear CQ HDK hp
                      by_cases h0 : r1 = 0
                      · subst h0
                        have HM : Hid (R0 = ((0, r2), es.map (·.2), ss)) := by show _ = _; rw [HE.out, HOE.out]; simp
                        have HXW : Hid (XRes W2 D (fun k => k = lb) lb wb pre r2 es ss 0 false w6) := XRes.then H2.out H3.out HG5.out HX6.out
                        clear HX6 HOE HE
                        go_wp2_with fail
                        go_meet
                        exact ⟨es, ss, r2, HM, HGN, HXW⟩
                      · have h7 : (r1 == 0) = false := beq_eq_false_iff_ne.2 h0
                        have HR6 : Hid (OpenP w D wb pre R (.returned (.tuple #[.pointer none, .int .i64 r1])) w6) := HRET.out w6 r2 r1 HOE.out h0 HX6.out
                        clear HOE
                        go_wp2_with fail
                        go_ret2
                        exact HR6.out
                    · have CQ := qCut t1.d HG3.out x hxl (mm : Int)
                      have HGN : Hid (Gd (u'.five [x] (cuU x (mm : Int))).2) := HG3.out.cut x _
                      have HOE : Hid (opF pre u (L.drop j) nn = (u'.five [x] (cuU x (mm : Int)), bytesOf2 rs, [nn])) := by
                        show _ = _
                        rw [hHOP.out, HAE.out, if_neg (by simp), if_neg hm0]
                      have HDK : Hid (∀ w6, QRes D3 wb (u'.five [x] (cuU x (mm : Int))).2 wr w6 → XRes w5 D1 F1 lb wb pre (u'.five [x] (cuU x (mm : Int))).2 es ss 0 false w6) := fun w6 hp => XRes.then t2 t3 t4 (XRes.disk t1 (Below.refl _ _) hp)
                      generalize u'.five [x] (cuU x (mm : Int)) = r at *
                      obtain ⟨r1, r2⟩ := r
                      simp only at CQ HGN HOE HDK
                      have c1 : ¬ (j : Int) < (j : Int) := by omega
                      have c9 : ((mm : Int) == 0) = false := beq_eq_false_iff_ne.2 (by omega)
                      clear t1 t2 t3 t4 HA3 HAE hHOP hj hj1
                      go_wp2_with fail
                      refine CQ.mono ?_
                      rintro e w6 ⟨rfl, hp⟩
                      obtain ⟨D6, F6, h6, j2, j3, j4⟩ := HDK.out w6 hp
                      obtain ⟨ev6, sv6, hl6⟩ := h6.l
                      obtain ⟨as7, ps7, rfl⟩ := hl6.svform
                      obtain ⟨ae7, pe7, rfl⟩ := hl6.evform
                      clear CQ HDK hp
                      have hk6 : ∀ k, wrO.heap.size ≤ k → k < w5.heap.size → w6.heap[k]? = w5.heap[k]? := fun k h1 h2 => j4.block k h2 fun e => e.elim (fun e => by have := H1.out.dl k e; omega) fun e => by have := H1.out.fl k e; omega
                      have hrs6 : ∀ r ∈ rs, Bs w6 r.1 r.2 ∧ Byt r.2 ∧ r.2.length ≤ 65536 ∧ ∀ k, r.1.ownBlock = some k → wrO.heap.size ≤ k ∧ ¬ F6 k ∧ ¬ D6 k ∧ k < w6.heap.size := by
                        intro r hr
                        obtain ⟨b1, b2, b3, b4⟩ := HRS.out r hr
                        refine ⟨b1.keep fun k hk _ => hk6 k (b4 k hk).1 (b4 k hk).2, b2, b3, fun k hk => ?_⟩
                        obtain ⟨k1, k2⟩ := b4 k hk
                        refine ⟨k1, fun e => ?_, fun e => ?_, Nat.lt_of_lt_of_le k2 j4.size⟩
                        · rcases j3 k e with e | e
                          · have := H1.out.fl k e; omega
                          · omega
                        · rcases j2 k e with e | e
                          · have := H1.out.dl k e; omega
                          · omega
                      have HE2 : Hid (R0 = ((r1, r2), (es ++ rs).map (·.2), ss ++ [nn])) := by
                        show _ = _
                        rw [HE.out, HOE.out]
                        simp [Fr.bytesOf2]
                      have hlens : es.length + rs.length ≤ 9999999 ∧ ss.length + 1 ≤ 9999999 := by
                        have h1 := HB.out
                        rw [HE2.out] at h1
                        simp only [List.length_append, List.length_map, List.length_cons, List.length_nil] at h1
                        omega
                      have HBL : Hid (∀ k, (Value.slice ar rs.length cr).ownBlock = some k → ¬ F6 k ∧ k < w6.heap.size) := fun k hk => by
                        have q := World.ownsRow.lt HOS.out.row k hk
                        have q2 := hB4.size
                        refine ⟨fun e => ?_, Nat.lt_of_lt_of_le q.2 j4.size⟩
                        rcases j3 k e with e | e
                        · have := H1.out.fl k e; omega
                        · omega
                      have hrow6 : w6.ownsRow w4.heap.size 38 1 (.slice ar rs.length cr) rs.length (Fr.slOf rs) := Fr.ownsRow_keep HOS.out.row fun k hk hlt => hk6 k (by have := (World.ownsRow.lt HOS.out.row k hk).1; have := hB4.size; omega) hlt
                      have jj2 : ∀ k, D6 k → D1 k ∨ wrO.heap.size ≤ k := fun k e => (j2 k e).imp id fun e => Nat.le_trans hB45.size e
                      have jj3 : ∀ k, F6 k → F1 k ∨ wrO.heap.size ≤ k := fun k e => (j3 k e).imp id fun e => Nat.le_trans hB45.size e
                      have jj4 : Grows (fun k => D1 k ∨ F1 k) wrO w6 := ⟨j4.os.trans hB45.os, j4.tape.trans hB45.tape, j4.output.trans hB45.output, Nat.le_trans hB45.size j4.size, fun k hk hn => (j4.block k (Nat.lt_of_lt_of_le hk hB45.size) hn).trans (hB45.block k hk)⟩
                      have hA7 : Below w6.heap.size w6 (w6.alloc (.cells #[.int .i64 (nn : Int)] 3)) := (Below.refl _ _).alloc (Nat.le_refl _) _
                      have hseg7 : (w6.alloc (.cells #[.int .i64 (nn : Int)] 3)).ownsRow 0 3 1 (.slice as7 ss.length ps7) ss.length (numsOf ss) := (hl6.below hA7).seg
                      have hcl7 : (w6.alloc (.cells #[.int .i64 (nn : Int)] 3)).cell? ⟨w6.heap.size, 0, none⟩ = some (.int .i64 (nn : Int)) := by
                        rw [cell_of_row _ _ 0 _ _ _ (heap_alloc_new w6 _)]; rfl
                      have hn9 : ss.length ≤ 1000000000 := by omega
                      have e36 : w6.cell? ⟨lb, 3, none⟩ = some (.slice as7 ss.length ps7) := hl6.blk.cell 3
                      have HWS : Hid ((w6.alloc (.cells #[.int .i64 (nn : Int)] 3)).heap.size = w6.heap.size + 1) := World.size_alloc _ _
                      have HH6 := hid_into h6
                      have HL6 := hid_into hl6
                      have HJ2 := hid_into jj2
                      have HJ3 := hid_into jj3
                      have HJ4 := hid_into jj4
                      have HRS6 := hid_into hrs6
                      have HRW6 := hid_into hrow6
                      clear h6 hl6 j2 j3 j4 jj2 jj3 jj4 hrs6 hrow6 hk6 hA7 HE HOE HRS HOS
                      go_wp2_with (at_builtin; refine wpList_append_num _ rfl (.tmp 159) (.tmp 161) rfl (.slice as7 ss.length ps7) ss.length (numsOf ss) (by rfl) hseg7 w6.heap.size (.int .i64 (nn : Int)) rfl (by rfl) hcl7 hn9 ?_)
                      intro a8 p8 w8 hrow8 hg8 hat8
                      obtain ⟨c8, z8, hl7, hk7, hs7, hsv7, ho7⟩ := HL6.out.segStep (Below.refl _ _) nn hn8 (by omega) (.slice a8 (ss.length + 1) p8) hrow8 hg8 (by first | exact hat8 | (rw [HWS.out] at hat8; exact hat8))
                      have e27 := hl7.blk.cell 2
                      have hrow7 : (w8.setCell ⟨lb, 3, none⟩ (.slice a8 (ss.length + 1) p8)).ownsRow w4.heap.size 38 1 (.slice ar rs.length cr) (Fr.slOf rs).length (Fr.slOf rs) := by
                        have e1 : (Fr.slOf rs).length = rs.length := by simp [Fr.slOf]
                        rw [e1]
                        refine Fr.ownsRow_keep HRW6.out fun k hk hlt => ?_
                        have hb := HBL.out k hk
                        exact hk7 k hlt (fun e => hb.1 (by rw [e]; exact HL6.out.lF)) fun e => hb.1 (HL6.out.sep.2 k e).1
                      have hone : ∀ y ∈ Fr.slOf rs, y.oneCell' = true := by
                        intro y hy
                        obtain ⟨r, hr, rfl⟩ := List.mem_map.1 hy
                        obtain ⟨ar', cr', e, _⟩ := (HRS6.out r hr).1.len
                        rw [e]; rfl
                      have hys : (Fr.slOf rs).length = rs.length := by simp [Fr.slOf]
                      have HYS := hid_into hys
                      have h63 : es.length + (Fr.slOf rs).length ≤ 1000000000 := by omega
                      have hent7 := hl7.ent
                      have HL7 := hid_into hl7
                      have HK7 := hid_into hk7
                      have HS7 := hid_into hs7
                      have HV7 := hid_into hsv7
                      have HO7 := hid_into ho7
                      have HYN : Hid (Fr.slOf rs = enOf rs) := rfl
                      clear hl7 hk7 hs7 hsv7 ho7 hrow8 hg8 hat8 hseg7 hcl7 hys
                      generalize hysn : Fr.slOf rs = ys at *
                      clear hysn
                      go_wp2_with (at_builtin; refine wpList_append_rows _ rfl (.tmp 169) (.tmp 170) rfl (.slice ae7 es.length pe7) es.length (enOf es) (by rfl) hent7 w4.heap.size (.slice ar rs.length cr) ys (by rfl) hrow7 hone h63 ?_)
                      intro a9 p9 w9 hrow9 hg9 hat9
                      have hy1 := HYN.out
                      subst hy1
                      have hy2 := HYS.out
                      clear HYS HYN
                      rw [hy2] at hrow9 hat9
                      rw [hy2]
                      obtain ⟨c9, z9, hX⟩ := XRes.segment2 HH6.out HJ2.out HJ3.out HJ4.out HL6.out nn _ HL7.out HK7.out HS7.out HV7.out HO7.out rs HRS6.out (.slice a9 (es.length + rs.length) p9) hrow9 hg9 (by first | exact hat9 | (rw [set_size]; exact hat9)) (by omega)
                      have HXW : Hid (XRes W2 D (fun k => k = lb) lb wb pre r2 (es ++ rs) (ss ++ [nn]) 0 false (w9.setCell ⟨lb, 2, none⟩ (.slice a9 (es.length + rs.length) p9))) := XRes.then H2.out H3.out H4.out hX
                      clear hX hrow9 hg9 hat9 HL7 HK7 HS7 HV7 HO7 HRS6 HWS hent7 hrow7 hone h63 HH6 HJ2 HJ3 HJ4 HL6 HRW6
                      by_cases h0 : r1 = 0
                      · subst h0
                        go_wp2_with fail
                        go_meet
                        exact ⟨es ++ rs, ss ++ [nn], r2, HE2, HGN, HXW⟩
                      · have h7 : (r1 == 0) = false := beq_eq_false_iff_ne.2 h0
                        have HR6 : Hid (OpenP w D wb pre R (.returned (.tuple #[.pointer none, .int .i64 r1])) (w9.setCell ⟨lb, 2, none⟩ (.slice a9 (es.length + rs.length) p9))) := by
                          have hR : R = R0 := by rw [HOF.out, if_pos (by rw [HE2.out]; exact h0)]
                          rw [hR, HE2.out]
                          exact ⟨W2, lb, es ++ rs, by rw [hlbn]; exact HBx.out, by rw [hlbn]; exact Nat.le_refl _, HLw.out, Or.inl ⟨h0, rfl, ss ++ [nn], HXW.out⟩⟩
                        clear HXW
                        go_wp2_with fail
                        go_ret2
                        exact HR6.out
            · obtain ⟨ar, cr, rs, m5, b5, rfl, hos5, hpl5, hB5⟩ := hRP
              have hB45 : Below wr.heap.size wr w5 := hB4.trans (hB5.mono hB4.size)
              have b2 : ((nn : Int) == (next : Int)) = false := beq_eq_false_iff_ne.2 (by omega)
              have hHOP : Hid (opF pre u (L.drop i0) next = if (allU rmU u (L.drop (i0 + 1)).reverse).1 ≠ 0 then (allU rmU u (L.drop (i0 + 1)).reverse, [], []) else ((allU rmU u (L.drop (i0 + 1)).reverse).2.five [x] (rmU x), [], [])) := by
                show _ = _
                rw [HOP.out, if_neg fun h => hnn h.1]
                by_cases h0 : (allU rmU u (L.drop (i0 + 1)).reverse).1 ≠ 0
                · rw [if_pos h0, if_pos h0]
                · rw [if_neg h0, if_neg h0, if_pos (Or.inl hnn)]
              clear HOP hpl5 hos5 HRF HZL
              have HXB : Hid (XRes w5 D1 F1 lb wb pre u es ss 0 false w5) := XRes.refl (H1.out.below hB45) (Below.refl _ _)
              have HN5 : Hid (∀ wr3, Grows (fun k => D1 k ∨ F1 k) w5 wr3 → ∀ j y, L[j]? = some y → wr3.cell? ⟨g, j, none⟩ = some (encStr y)) := by
                intro wr3 hG j y hy
                have h0 : Ot wr3 w1.heap.size (.slice (some ⟨g, 0, none⟩) L.length cap) L := Fr.ownsRow_keep HT.out fun k hk hlt => by
                  have hh := hNB.out k hk
                  have hs1 := H4.out.size
                  have hs2 := hB45.size
                  rw [hG.block k (by omega) fun e => ?_, hB45.block k (by omega), H4.out.block k hlt hh.1]
                  rcases e with e | e
                  · rcases H2.out k e with e | e
                    · exact hh.1 (Or.inl e)
                    · omega
                  · rcases H3.out k e with e | e
                    · exact hh.1 (Or.inr e)
                    · omega
                exact h0.cell hy
              have q7 : IntKind.i64.wrap ((L.length : Int) - 1) = ((L.length - 1 : Nat) : Int) := by rw [IntKind.wrap_i64]; omega
              have HG5 : Hid (Grows (fun k => D k ∨ k = lb) W2 w5) := ⟨hB45.os.trans H4.out.os, hB45.tape.trans H4.out.tape, hB45.output.trans H4.out.output, Nat.le_trans H4.out.size hB45.size, fun k hk hn => (hB45.block k (Nat.lt_of_lt_of_le hk H4.out.size)).trans (H4.out.block k hk hn)⟩
              have HRET : Hid (∀ w6 u6 (e6 : Int), opF pre u (L.drop i0) next = ((e6, u6), [], []) → e6 ≠ 0 → XRes w5 D1 F1 lb wb pre u6 es ss 0 false w6 → OpenP w D wb pre R (.returned (.tuple #[.pointer none, .int .i64 e6])) w6) := by
                intro w6 u6 e6 he h0 hX
                have hR0 : R0 = ((e6, u6), es.map (·.2), ss) := by rw [HE.out, he]; simp
                have hR : R = R0 := by rw [HOF.out, if_pos (by rw [hR0]; exact h0)]
                rw [hR, hR0]
                exact ⟨W2, lb, es, by rw [hlbn]; exact HBx.out, by rw [hlbn]; exact Nat.le_refl _, HLw.out, Or.inl ⟨h0, rfl, ss, XRes.then H2.out H3.out HG5.out hX⟩⟩
              go_wp2_with fail
              go_loopw [18] (fun kv wr3 => ∃ (j : Nat) (u' : Ud), i0 ≤ j ∧ j < L.length ∧ kv = .int .i64 (j : Int) ∧ Hid (allU rmU u (L.drop (i0 + 1)).reverse = allU rmU u' ((L.take (j + 1)).drop (i0 + 1)).reverse) ∧ Hid (Gd u') ∧ Hid (XRes w5 D1 F1 lb wb pre u' es ss 0 false wr3)) (fun kv _ => (intOf kv).toNat)
              case atStart => exact ⟨L.length - 1, u, by omega, by omega, rfl, by show _ = _; rw [show L.length - 1 + 1 = L.length by omega, List.take_length], hg, HXB⟩
              case round =>
                obtain ⟨j, u', hj1, hj2, rfl, HA3, HG3, HX3⟩ := hrel
                by_cases hj : i0 < j
                · obtain ⟨y, hy⟩ : ∃ y, L[j]? = some y := ⟨_, List.getElem?_eq_getElem hj2⟩
                  obtain ⟨hsy, hyl⟩ := HL1.out y (List.mem_of_getElem? hy)
                  obtain ⟨D3, F3, t1, t2, t3, t4⟩ := HX3.out
                  have cy := HN5.out wr t4 _ y hy
                  have CQ := qRemove t1.d HG3.out y hyl
                  have hrev : ((L.take (j + 1)).drop (i0 + 1)).reverse = y :: ((L.take j).drop (i0 + 1)).reverse := by
                    have e1 : L.take (j + 1) = L.take j ++ [y] := by rw [List.take_add_one, hy]; rfl
                    rw [e1, List.drop_append_of_le_length (by rw [List.length_take]; omega), List.reverse_append]
                    rfl
                  have HRV := hid_into hrev
                  have c1 : (i0 : Int) < (j : Int) := by omega
                  have c2 : (0 : Int) ≤ (j : Int) := by omega
                  have c3 : (j : Int) < (L.length : Int) := by omega
                  have q8 : IntKind.i64.wrap ((j : Int) - 1) = ((j - 1 : Nat) : Int) := by rw [IntKind.wrap_i64]; omega
                  have HGN : Hid (Gd (u'.five [y] (rmU y)).2) := HG3.out.remove y
                  have HAL : Hid (allU rmU u (L.drop (i0 + 1)).reverse = if (u'.five [y] (rmU y)).1 = 0 then allU rmU (u'.five [y] (rmU y)).2 ((L.take j).drop (i0 + 1)).reverse else u'.five [y] (rmU y)) := by
                    show _ = _
                    rw [HA3.out, HRV.out]; rfl
                  have HDK : Hid (∀ w6, QRes D3 wb (u'.five [y] (rmU y)).2 wr w6 → XRes w5 D1 F1 lb wb pre (u'.five [y] (rmU y)).2 es ss 0 false w6) := fun w6 hp => XRes.then t2 t3 t4 (XRes.disk t1 (Below.refl _ _) hp)
                  generalize u'.five [y] (rmU y) = r at *
                  obtain ⟨r1, r2⟩ := r
                  simp only at CQ HGN HAL HDK
                  clear t1 t2 t3 t4 hrev hsy hy
                  go_wp2_with fail
                  refine CQ.mono ?_
                  rintro e w6 ⟨rfl, hp⟩
                  have HX6 := hid_into (HDK.out w6 hp)
                  clear CQ HDK hp
                  by_cases h0 : r1 = 0
                  · subst h0
                    have HA4 : Hid (allU rmU u (L.drop (i0 + 1)).reverse = allU rmU r2 ((L.take (j - 1 + 1)).drop (i0 + 1)).reverse) := by
                      show _ = _
                      rw [HAL.out, if_pos rfl, show j - 1 + 1 = j by omega]
                    clear HAL
                    go_wp2_with fail
                    go_roundw
                    case rel => exact ⟨j - 1, r2, by omega, by omega, rfl, HA4, HGN, HX6⟩
                    case measure => simp [intOf]; omega
                  · have h7 : (r1 == 0) = false := beq_eq_false_iff_ne.2 h0
                    have HR6 : Hid (OpenP w D wb pre R (.returned (.tuple #[.pointer none, .int .i64 r1])) w6) := by
                      refine HRET.out w6 r2 r1 ?_ h0 HX6.out
                      rw [hHOP.out, HAL.out, if_neg h0, if_pos h0]
                    clear HAL
                    go_wp2_with fail
                    go_ret2
                    exact HR6.out
                · obtain rfl : j = i0 := by omega
                  have HAE : Hid (allU rmU u (L.drop (j + 1)).reverse = (0, u')) := by
                    show _ = _
                    rw [HA3.out, List.drop_eq_nil_of_le (by rw [List.length_take]; omega)]; rfl
                  obtain ⟨D3, F3, t1, t2, t3, t4⟩ := HX3.out
                  have cx' := HN5.out wr t4 _ x HXX.out
                  have CQ := qRemove t1.d HG3.out x hxl
                  have HGN : Hid (Gd (u'.five [x] (rmU x)).2) := HG3.out.remove x
                  have HOE : Hid (opF pre u (L.drop j) next = (u'.five [x] (rmU x), [], [])) := by
                    show _ = _
                    rw [hHOP.out, HAE.out, if_neg (by simp)]
                  have HDK : Hid (∀ w6, QRes D3 wb (u'.five [x] (rmU x)).2 wr w6 → XRes w5 D1 F1 lb wb pre (u'.five [x] (rmU x)).2 es ss 0 false w6) := fun w6 hp => XRes.then t2 t3 t4 (XRes.disk t1 (Below.refl _ _) hp)
                  generalize u'.five [x] (rmU x) = r at *
                  obtain ⟨r1, r2⟩ := r
                  simp only at CQ HGN HOE HDK
                  have c1 : ¬ (j : Int) < (j : Int) := by omega
                  clear t1 t2 t3 t4 HA3 HAE hHOP hj hj1
                  go_wp2_with fail
                  refine CQ.mono ?_
                  rintro e w6 ⟨rfl, hp⟩
                  have HX6 := hid_into (HDK.out w6 hp)
                  clear CQ HDK hp
                  by_cases h0 : r1 = 0
                  · subst h0
                    have HM : Hid (R0 = ((0, r2), es.map (·.2), ss)) := by show _ = _; rw [HE.out, HOE.out]; simp
                    have HXW : Hid (XRes W2 D (fun k => k = lb) lb wb pre r2 es ss 0 false w6) := XRes.then H2.out H3.out HG5.out HX6.out
                    clear HX6 HOE HE
                    go_wp2_with fail
                    go_meet
                    exact ⟨es, ss, r2, HM, HGN, HXW⟩
                  · have h7 : (r1 == 0) = false := beq_eq_false_iff_ne.2 h0
                    have HR6 : Hid (OpenP w D wb pre R (.returned (.tuple #[.pointer none, .int .i64 r1])) w6) := HRET.out w6 r2 r1 HOE.out h0 HX6.out
                    clear HOE
                    go_wp2_with fail
                    go_ret2
                    exact HR6.out
          · have hdr : L.drop i0 = [] := List.drop_eq_nil_of_le (by omega)
            have HM : Hid (R0 = ((0, u), es.map (·.2), ss)) := by
              show _ = _
              rw [HE.out, hdr]
              simp [opF]
            have a1 : ¬ (i0 : Int) < (L.length : Int) := by omega
            clear HE hdr
            go_wp2_with fail
            go_meet
            exact ⟨es, ss, u, HM, hg, HX⟩
      case rest =>
        rename World => W3
        obtain ⟨es, ss, u', HM, HG, HX⟩ := hcut
        have HRR : Hid (R = (allU syU u' (namesN pre ss), (es.map (·.2), ss))) := by
          show _ = _
          rw [HOF.out, HM.out, if_neg (by simp)]
        have hlens : es.length ≤ 9999999 ∧ ss.length ≤ 9999999 := by
          have h1 := HB.out
          rw [HM.out] at h1
          simp only [List.length_map] at h1
          exact h1
        clear HOF HM HR0 HL1 hNB HT hX0 HB
        go_wp2_with fail
        go_loopw [21] (fun i wr4 => ∃ (j : Nat) (u4 : Ud), j ≤ ss.length ∧ i = .int .i64 (j : Int) ∧ Hid (allU syU u' (namesN pre ss) = allU syU u4 ((namesN pre ss).drop j)) ∧ Hid (Gd u4) ∧ Hid (XRes W2 D (fun k => k = lb) lb wb pre u4 es ss 0 false wr4)) (fun i _ => ss.length - (intOf i).toNat)
        case atStart => exact ⟨0, u', Nat.zero_le _, rfl, by show _ = _; rw [List.drop_zero], HG, HX⟩
        case round =>
          obtain ⟨j, u4, hj, rfl, HA4, HG4, HX4⟩ := hrel
          obtain ⟨D3, F3, t1, t2, t3, t4⟩ := HX4.out
          obtain ⟨ev, sv, hl⟩ := t1.l
          have hlbl := hl.blk.lt
          by_cases hlt4 : j < ss.length
          · obtain ⟨n, hn⟩ : ∃ n, ss[j]? = some n := ⟨_, List.getElem?_eq_getElem hlt4⟩
            obtain ⟨gs, cg, rfl⟩ := hl.segSome (fun e => by rw [e] at hlt4; simp at hlt4)
            have e3 : wr.cell? ⟨lb, 3, none⟩ = some (.slice (some ⟨gs, 0, none⟩) ss.length cg) := hl.blk.cell 3
            have en : wr.cell? ⟨gs, j, none⟩ = some (.int .i64 (n : Int)) := hl.segCell rfl hn
            have hn8 := hl.few.2.2.2.2 n (List.mem_of_getElem? hn)
            have CN := name_ref pre n hn8 (by omega) wr
            have hnl := nameN_len pre n hn8
            have CS : Hid (∀ w5, Below wr.heap.size wr w5 → Calls Tryz.prog 58 #[.pointer (some ⟨wb, 0, none⟩), encStr (nameN pre n)] w5 fun e w' => e = .returned (.int .i64 (u4.five [nameN pre n] (syU (nameN pre n))).1) ∧ XRes W2 D (fun k => k = lb) lb wb pre (u4.five [nameN pre n] (syU (nameN pre n))).2 es ss 0 false w') := by
              intro w5 hb
              refine (qSync (t1.d.to hb) HG4.out _ (by omega)).mono ?_
              rintro e w6 ⟨rfl, hp⟩
              exact ⟨rfl, XRes.then t2 t3 t4 (XRes.disk t1 hb hp)⟩
            have HGN : Hid (Gd (u4.five [nameN pre n] (syU (nameN pre n))).2) := HG4.out.sync _
            have hdr : (namesN pre ss).drop j = nameN pre n :: (namesN pre ss).drop (j + 1) := by
              have e : (namesN pre ss)[j]? = some (nameN pre n) := by simp [namesN, hn]
              obtain ⟨hi, e2⟩ := List.getElem?_eq_some_iff.1 e
              rw [List.drop_eq_getElem_cons hi, e2]
            have HAL : Hid (allU syU u' (namesN pre ss) = if (u4.five [nameN pre n] (syU (nameN pre n))).1 = 0 then allU syU (u4.five [nameN pre n] (syU (nameN pre n))).2 ((namesN pre ss).drop (j + 1)) else u4.five [nameN pre n] (syU (nameN pre n))) := by
              show _ = _
              rw [HA4.out, hdr]; rfl
            have c1 : (j : Int) < (ss.length : Int) := by omega
            have c2 : (0 : Int) ≤ (j : Int) := by omega
            have q8 : IntKind.i64.wrap ((j : Int) + 1) = ((j + 1 : Nat) : Int) := by rw [IntKind.wrap_i64]; omega
            generalize u4.five [nameN pre n] (syU (nameN pre n)) = r at *
            generalize nameN pre n = nm at *
            obtain ⟨r1, r2⟩ := r
            simp only at CS HGN HAL
            clear t1 t2 t3 t4 hl hdr hn
            go_wp2_with fail
            refine CN.mono ?_
            rintro e w5 ⟨rfl, hB5⟩
            go_wp2_with fail
            refine (CS.out w5 hB5).mono ?_
            rintro e w6 ⟨rfl, hX6⟩
            have HX6 := hid_into hX6
            clear CN CS hX6
            by_cases h0 : r1 = 0
            · subst h0
              have HA5 : Hid (allU syU u' (namesN pre ss) = allU syU r2 ((namesN pre ss).drop (j + 1))) := by
                show _ = _
                rw [HAL.out, if_pos rfl]
              clear HAL
              go_wp2_with fail
              go_roundw
              case rel => exact ⟨j + 1, r2, by omega, by go_num, HA5, HGN, HX6⟩
              case measure => simp [intOf]; omega
            · have h7 : (r1 == 0) = false := beq_eq_false_iff_ne.2 h0
              have HR6 : Hid (OpenP w D wb pre R (.returned (.tuple #[.pointer none, .int .i64 r1])) w6) := by
                have e1 : R = ((r1, r2), (es.map (·.2), ss)) := by rw [HRR.out, HAL.out, if_neg h0]
                rw [e1]
                exact ⟨W2, lb, es, by rw [hlbn]; exact HBx.out, by rw [hlbn]; exact Nat.le_refl _, HLw.out, Or.inl ⟨h0, rfl, ss, HX6.out⟩⟩
              clear HAL HRR
              go_wp2_with fail
              go_ret2
              exact HR6.out
          · obtain ⟨as6, ps6, rfl⟩ := hl.svform
            obtain ⟨ae6, pe6, rfl⟩ := hl.evform
            have e2 : wr.cell? ⟨lb, 2, none⟩ = some (.slice ae6 es.length pe6) := hl.blk.cell 2
            have e3 : wr.cell? ⟨lb, 3, none⟩ = some (.slice as6 ss.length ps6) := hl.blk.cell 3
            have e4 : wr.cell? ⟨lb, 4, none⟩ = some (.int .i64 0) := hl.blk.cell 4
            have z4 : wr.frozen? ⟨lb, 4, none⟩ = false := hl.blk.frozen 4
            have c1 : ¬ (j : Int) < (ss.length : Int) := by omega
            have q8 : IntKind.i64.wrap ((es.length : Int) + 1) = (es.length : Int) + 1 := by rw [IntKind.wrap_i64]; omega
            have HXF : Hid (XRes W2 D (fun k => k = lb) lb wb pre u4 es ss (es.length + 1) false (wr.setCell ⟨lb, 4, none⟩ (.int .i64 ((es.length : Int) + 1)))) := HX4.out.cell 4 _ fun _ _ _ hh => hh.setSure (es.length + 1) (by omega)
            have HRF : Hid (R = ((0, u4), (es.map (·.2), ss))) := by
              show _ = _
              rw [HRR.out, HA4.out, List.drop_eq_nil_of_le (by unfold namesN; rw [List.length_map]; omega)]; rfl
            clear t1 t2 t3 t4 hl HA4 HRR HX4
            go_wp2_with fail
            go_ret2
            rw [HRF.out]
            exact ⟨W2, lb, es, by rw [hlbn]; exact HBx.out, by rw [hlbn]; exact Nat.le_refl _, HLw.out, Or.inr ⟨rfl, rfl, rfl, HXF.out⟩⟩
end Go.Proofs.YtnkjhooeklodcaaGreatDoor
end
