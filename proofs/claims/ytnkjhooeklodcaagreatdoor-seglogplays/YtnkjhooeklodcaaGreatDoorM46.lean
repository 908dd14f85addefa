/-
  Joined from: SegStood, SegDo5, SegHu, SegDo4.
-/
import Derived.Test.YtnkjhooeklodcaaGreatDoorM44
import Derived.Test.YtnkjhooeklodcaaGreatDoorM28
import Derived.Test.YtnkjhooeklodcaaGreatDoorM45
section
/-
  stood: all entries, and all files, in both.
-/
namespace Go.Proofs.YtnkjhooeklodcaaGreatDoor
open Go.RowKit Go.Maps Go.Sort

variable {w w' w1 w2 : World} {B N pb sb wb lb xb : Nat} {Z D F G H : Nat → Prop} {u u' : Ud} {es fs : List En} {las : Nat} {sz k : Nat} {dead : Bool} {ss : List Nat} {ps : List (List Int)}
theorem lkU_at {us : Us} {i : Nat} {x : Nm} (h : (us.map (·.1))[i]? = some x) : rdE us x = 0 := by
  rw [List.getElem?_map] at h
  obtain ⟨p, hp, rfl⟩ := Option.map_eq_some_iff.1 h
  unfold rdE
  cases hl : lkU us p.1 with
  | some g => rfl
  | none => exact absurd rfl (lkU_none' hl p (List.mem_of_getElem? hp))
/-- What stood reads of the pair and of the document's log. -/
def Sd (pb sb wb lb xb : Nat) (ev : Value) (las : Nat) (x : World) : Prop :=
  x.cell? ⟨pb, 0, none⟩ = some (.pointer (some ⟨sb, 0, none⟩)) ∧ x.cell? ⟨pb, 1, none⟩ = some (.pointer (some ⟨wb, 0, none⟩)) ∧ x.cell? ⟨pb, 2, none⟩ = some (.pointer (some ⟨lb, 0, none⟩)) ∧ x.cell? ⟨pb, 3, none⟩ = some (.pointer (some ⟨xb, 0, none⟩)) ∧ x.cell? ⟨xb, 2, none⟩ = some ev ∧ x.cell? ⟨xb, 4, none⟩ = some (.int .i64 ((las : Int) + 1))
set_option maxHeartbeats 8000000 in
set_option maxRecDepth 100000 in
theorem stood_any (h : Hs w B Z pb sb wb lb xb u ps las ss sz dead k) :
    Calls Tryz.prog 13 #[.pointer (some ⟨pb, 0, none⟩)] w fun e w' => e = .returned (.bool true) ∧ Below w.heap.size w w' := by
  obtain ⟨D, F, G, H, es, fs, hT, he, hf, hS, _⟩ := h
  have hg := hT.l.d.good
  obtain ⟨evl, nvl, hl⟩ := hT.l.l
  obtain ⟨ev, sv, hx⟩ := hT.x.l
  have hel : es.length = fs.length := by
    have h1 := congrArg List.length he
    have h2 := congrArg List.length hf
    simp at h1 h2
    omega
  have hfew := hx.few
  have hcnt : (u.us.map (·.1)).length ≤ 4096 := by simpa using hg.cnt
  have hssl : (namesN [97] ss).length ≤ 100000000 := by simp [namesN]; omega
  have HA : Hid (∀ (i : Nat) (x : Nm), (u.us.map (·.1))[i]? = some x → rdE u.us x = 0) := fun i x => lkU_at (i := i) (x := x)
  have HL : Hid (∀ (i : Nat) (x : Nm), (u.us.map (·.1))[i]? = some x → x.length ≤ maxLen) := fun i x hx => by
    rw [List.getElem?_map] at hx
    obtain ⟨p, hp, rfl⟩ := Option.map_eq_some_iff.1 hx
    exact (hg.each p (List.mem_of_getElem? hp)).2.2
  have hee : ∀ zs : List Int, eqB zs zs = true := fun zs => by simp [eqB]
  have CN := LNext_any w hl
  rw [hel] at CN
  have HCL : Hid (∀ W, Below w.heap.size w W → Calls Tryz.prog 33 #[.pointer (some ⟨lb, 0, none⟩)] W fun e w' => ∃ v', e = .returned v' ∧ Ot w' W.heap.size v' (namesN [97] ss) ∧ Below W.heap.size W w') := fun W hb => LNames_any W (hl.below hb)
  have HCX : Hid (∀ W, Below w.heap.size w W → Calls Tryz.prog 40 #[.pointer (some ⟨xb, 0, none⟩)] W fun e w' => ∃ v', e = .returned v' ∧ Ot w' W.heap.size v' (namesN [97] ss) ∧ Below W.heap.size W w') := fun W hb => XNames_any W (hx.below hb)
  have HCP : Hid (∀ W, Below w.heap.size w W → Calls Tryz.prog 44 #[.pointer (some ⟨sb, 0, none⟩)] W fun e w' => ∃ v', e = .returned v' ∧ Ot w' W.heap.size v' (u.us.map (·.1)) ∧ Below W.heap.size W w') := fun W hb => pNames (hT.l.d.to hb)
  have HCQ : Hid (∀ W, Below w.heap.size w W → Calls Tryz.prog 45 #[.pointer (some ⟨wb, 0, none⟩)] W fun e w' => ∃ v', e = .returned v' ∧ Ot w' W.heap.size v' (u.us.map (·.1)) ∧ Below W.heap.size W w') := fun W hb => qNames (hT.x.d.to hb)
  have HRP : Hid (∀ W, Below w.heap.size w W → ∀ x : Nm, x.length ≤ maxLen → Calls Tryz.prog 34 #[.pointer (some ⟨sb, 0, none⟩), encStr x] W fun e w' => ∃ ao cap, e = .returned (.tuple #[.slice ao (at0U u.us x).1.length cap, .int .i64 (rdE u.us x)]) ∧ Ow w' W.heap.size (.slice ao (at0U u.us x).1.length cap) (at0U u.us x).1 ∧ Below W.heap.size W w') := fun W hb x hxl => pRead (hT.l.d.to hb) x hxl
  have HRQ : Hid (∀ W, Below w.heap.size w W → ∀ x : Nm, Calls Tryz.prog 46 #[.pointer (some ⟨wb, 0, none⟩), encStr x] W fun e w' => ∃ ao cap, e = .returned (.tuple #[.slice ao (at0U u.us x).1.length cap, .int .i64 (rdE u.us x)]) ∧ Ow w' W.heap.size (.slice ao (at0U u.us x).1.length cap) (at0U u.us x).1 ∧ Below W.heap.size W w') := fun W hb x => qRead (hT.x.d.to hb) hg x
  have HLE : Hid (∀ (i : Nat) (z : En), fs[i]? = some z → ∀ W, Below w.heap.size w W → Calls Tryz.prog 25 #[.pointer (some ⟨lb, 0, none⟩), .int .i64 ((i : Int) + 1)] W fun e w' => ∃ ao cap, e = .returned (.tuple #[.slice ao z.2.length cap, .int .i64 0]) ∧ Ow w' W.heap.size (.slice ao z.2.length cap) z.2 ∧ Below W.heap.size W w') := fun i z hz W hb => by
    have h1 : (es.map (·.2))[i]? = some z.2 := by rw [he, ← hf, List.getElem?_map, hz]; rfl
    rw [List.getElem?_map] at h1
    obtain ⟨r, hr, hr2⟩ := Option.map_eq_some_iff.1 h1
    have := LEntry_any i r W (hl.below hb) hr
    rw [hr2] at this
    exact this
  have HXE : Hid (∀ W, Below w.heap.size w W → ∀ (i : Nat) (z : En), fs[i]? = some z → Bs W z.1 z.2 ∧ ∃ g cap, ev = .slice (some ⟨g, 0, none⟩) fs.length cap ∧ W.cell? ⟨g, i, none⟩ = some z.1) := fun W hb i z hz => by
    have hx' := hx.below hb
    refine ⟨(hx'.each z (List.mem_of_getElem? hz)).1, ?_⟩
    have hil := (List.getElem?_eq_some_iff.1 hz).1
    rcases hx'.ent.2 with ⟨_, h0⟩ | ⟨g, cap, cur, hv, _⟩
    · omega
    · refine ⟨g, cap, hv, ?_⟩
      have := World.ownsRow.cells hx'.ent (g := g) (by rw [hv]; rfl) i z.1 (by unfold enOf; rw [List.getElem?_map, hz]; rfl)
      simpa [Addr.add_lit] using this
  have HSD : Hid (∀ W, Below w.heap.size w W → Sd pb sb wb lb xb ev las W) := fun W hb => by
    have hx' := hx.below hb
    have hp' := hT.p.below hb hT.p.lt
    exact ⟨hp'.cell 0, hp'.cell 1, hp'.cell 2, hp'.cell 3, hx'.blk.cell 2, by have := hx'.blk.cell 4; simpa using this⟩
  have HEV : Hid (∃ ao cap, ev = .slice ao fs.length cap) := hx.evform
  have HZL : Hid (∀ x, (at0U u.us x).1.length ≤ 1073741824) := fun x => by
    unfold at0U
    cases hl : lkU u.us x with
    | none => simp
    | some g => exact hg.len hl
  have hfl := hfew.1
  have hlas := hl.few.2.2.1
  have hSd0 := HSD.out w (Below.refl _ _)
  obtain ⟨aev, cev, rfl⟩ := HEV.out
  generalize u.us.map (·.1) = ns at *
  generalize namesN [97] ss = nn at *
  clear hT hl hx hg hfew HEV he hf hS hel
  have q1 : IntKind.i64.wrap ((fs.length : Int) + 1) = (fs.length : Int) + 1 := by rw [IntKind.wrap_i64]; omega
  have c2 := hSd0.2.2.1
  go_enter Tryz.func13, Tryz.ntmps13
  go_wp2_with fail
  refine CN.mono ?_
  rintro e w1 ⟨rfl, hs1⟩
  have hB1 : Below w.heap.size w w1 := hs1.below _
  have hSd1 := HSD.out w1 hB1
  clear CN hSd0 c2
  have hB1d : Below w.heap.size w w1.drew := hB1.drew
  have hSd1d := HSD.out w1.drew hB1d
  unfold Sd at hSd1d
  have HB1 := hid_into hB1d
  have HTX : Hid (∀ (va vb : Value) (xs : List Nm) (W : World), St W va xs → St W vb xs → xs.length ≤ 100000000 → Calls Tryz.prog 35 #[va, vb] W fun e w' => e = .returned (.bool true) ∧ Sm W w') := texts_same
  clear hSd1
  go_wp2_with fail
  go_region_held3 (fun x => x.cell? ⟨pb, 0, none⟩ = some (.pointer (some ⟨sb, 0, none⟩)) ∧ x.cell? ⟨pb, 1, none⟩ = some (.pointer (some ⟨wb, 0, none⟩)) ∧ x.cell? ⟨pb, 2, none⟩ = some (.pointer (some ⟨lb, 0, none⟩)) ∧ x.cell? ⟨pb, 3, none⟩ = some (.pointer (some ⟨xb, 0, none⟩)) ∧ x.cell? ⟨xb, 2, none⟩ = some (.slice aev fs.length cev) ∧ x.cell? ⟨xb, 4, none⟩ = some (.int .i64 ((las : Int) + 1))) (assumption)
    (first
      | (go_at_call 33; refine (HCL.out _ HB1.out).mono ?_; rintro e w2 ⟨v2, rfl, ho2, hb2⟩; have hB2 := HB1.out.trans (hb2.mono HB1.out.size); have hS2 := HSD.out w2 hB2; unfold Sd at hS2; clear HCL)
      | (go_at_call 40; refine (HCX.out _ hB2).mono ?_; rintro e w3 ⟨v3, rfl, ho3, hb3⟩; have hB3 := hB2.trans (hb3.mono hB2.size); have hS3 := HSD.out w3 hB3; unfold Sd at hS3; clear HCX)
      | (go_at_call 35; have hB6' := hB6; refine (HTX.out v5 v6 ns w6 ((St_row ho5).below hb6) (St_row ho6) (by omega)).mono ?_; rintro e w7 ⟨rfl, hs7⟩; have hB7 := hB6.trans (hs7.below _); have hS7 := HSD.out w7 hB7; unfold Sd at hS7)
      | (go_at_call 35; refine (HTX.out v2 v3 nn w3 ((St_row ho2).below hb3) (St_row ho3) hssl).mono ?_; rintro e w4 ⟨rfl, hs4⟩; have hB4 := hB3.trans (hs4.below _); have hS4 := HSD.out w4 hB4; unfold Sd at hS4)
      | (go_at_call 44; refine (HCP.out _ hB4).mono ?_; rintro e w5 ⟨v5, rfl, ho5, hb5⟩; have hB5 := hB4.trans (hb5.mono hB4.size); have hS5 := HSD.out w5 hB5; unfold Sd at hS5; clear HCP)
      | (go_at_call 45; refine (HCQ.out _ hB5).mono ?_; rintro e w6 ⟨v6, rfl, ho6, hb6⟩; have hB6 := hB5.trans (hb6.mono hB5.size); have hS6 := HSD.out w6 hB6; unfold Sd at hS6))
  have HB7 := hid_into hB7
  clear hB7 hS7 hs7 ho2 ho3 ho5 ho6 hb2 hb3 hb5 hb6 hB2 hB3 hB4 hB5 hB6 hs4 HB1 hSd1d HTX hB1d hB1 hs1
  go_wp2_with fail
  go_loopw [5, 6, 7] (fun iv _ _ wr => ∃ i : Nat, i ≤ fs.length ∧ iv = .int .i64 (i : Int) ∧ Below w.heap.size w wr) (fun iv _ _ _ => fs.length - (intOf iv).toNat)
  case atStart => exact ⟨0, Nat.zero_le _, rfl, HB7.out⟩
  case round =>
    obtain ⟨i, hi, rfl, hBr⟩ := hrel
    obtain ⟨d0, d1, d2, d3, d4, d5⟩ := HSD.out wr hBr
    by_cases hlt : i < fs.length
    · obtain ⟨z, hz⟩ : ∃ z, fs[i]? = some z := ⟨_, List.getElem?_eq_getElem hlt⟩
      obtain ⟨hbz, g, cap, hev, hcz⟩ := HXE.out wr hBr i z hz
      obtain ⟨ao, cp, hv, _⟩ := hbz.len
      injection hev with hev1 hev2 hev3
      subst hev1
      subst hev3
      clear hev2
      have C1 := HLE.out i z hz wr hBr
      have HXI : Hid (∀ W, Below w.heap.size w W → Bs W (.slice ao z.2.length cp) z.2 ∧ W.cell? ⟨g, i, none⟩ = some (.slice ao z.2.length cp)) := fun W hb => by
        obtain ⟨h1, g', cap', he', hc'⟩ := HXE.out W hb i z hz
        injection he' with e1 e2 e3
        injection e1 with e1
        injection e1 with e1
        subst e1
        rw [hv] at h1 hc'
        exact ⟨h1, hc'⟩
      have f1 : (0 : Int) ≤ (i : Int) := by omega
      have f2 : (i : Int) < (fs.length : Int) := by omega
      have q2 : IntKind.i64.wrap ((i : Int) + 1) = (i : Int) + 1 := by rw [IntKind.wrap_i64]; omega
      clear hbz hcz hv hz
      generalize z.2 = zs at *
      have hzz := hee zs
      go_wp2_with (first
        | (go_at_call 25; refine C1.mono ?_; rintro e w8 ⟨ao8, cap8, rfl, ho8, hb8⟩; have hB8 := hBr.trans (hb8.mono hBr.size); obtain ⟨k0, k1, k2, k3, k4, k5⟩ := HSD.out w8 hB8; obtain ⟨hbz8, hcz8⟩ := HXI.out w8 hB8)
        | (go_at_call 26; refine (same_any _ _ zs zs _ (by exact Ow.bs ho8) hbz8).mono ?_; rw [hzz]; rintro e w9 ⟨rfl, hs9⟩))
      have hB9 : Below w.heap.size w w9 := hB8.trans (hs9.below _)
      go_roundw
      case rel => exact ⟨i + 1, by omega, by go_num, hB9⟩
      case measure => simp [intOf]; omega
    · have f2 : ¬ ((i : Int) < (fs.length : Int)) := by omega
      have CQ := HCQ.out wr hBr
      have HBr := hid_into hBr
      clear HLE HXE
      go_wp2_with (go_at_call 45; refine CQ.mono ?_; rintro e w8 ⟨v8, rfl, ho8, hb8⟩)
      have hB8 : Below w.heap.size w w8 := HBr.out.trans (hb8.mono HBr.out.size)
      have HB8 := hid_into hB8
      obtain ⟨ao1, cap1, rfl, hc1⟩ := St_row ho8
      have HC := hid_into hc1
      have HLT : Hid (∀ b off, ao1 = some ⟨b, off, none⟩ → ns ≠ [] → b < w8.heap.size) := fun b off e hne => by
        obtain ⟨b', off', e1, hc⟩ := hc1 hne
        rw [e] at e1
        cases e1
        obtain ⟨x, hx⟩ : ∃ x, ns[0]? = some x := ⟨_, List.getElem?_eq_getElem (List.length_pos_iff.2 hne)⟩
        exact World.block_lt_of_cell? w8 _ (hc 0 x hx)
      clear hB8 hc1 ho8 hb8 CQ hBr d0 d1 d2 d3 d4 d5 HCQ f2 hlt
      go_wp2_with fail
      go_loopw [9, 10, 11, 12, 13] (fun jv _ _ _ _ wq => ∃ j : Nat, j ≤ ns.length ∧ jv = .int .i64 (j : Int) ∧ Below w8.heap.size w8 wq) (fun jv _ _ _ _ _ => ns.length - (intOf jv).toNat)
      case atStart => exact ⟨0, Nat.zero_le _, rfl, Below.refl _ _⟩
      case round =>
        obtain ⟨j, hj, rfl, hBq⟩ := hrel
        by_cases hlt : j < ns.length
        · obtain ⟨x, hx⟩ : ∃ x, ns[j]? = some x := ⟨_, List.getElem?_eq_getElem hlt⟩
          have hne : ns ≠ [] := fun e => by rw [e] at hlt; simp at hlt
          obtain ⟨b, off, rfl, hcell⟩ := HC.out hne
          have hbl := HLT.out b off rfl hne
          have hBw := HB8.out.trans (hBq.mono HB8.out.size)
          have HS : Hid (∀ W, Below wr.heap.size wr W → (W.cell? ⟨pb, 0, none⟩ = some (.pointer (some ⟨sb, 0, none⟩)) ∧ W.cell? ⟨pb, 1, none⟩ = some (.pointer (some ⟨wb, 0, none⟩)) ∧ W.cell? ⟨b, off + j, none⟩ = some (encStr x))) := fun W hb => by
            obtain ⟨d0, d1, _⟩ := HSD.out W (hBw.trans (hb.mono hBw.size))
            refine ⟨d0, d1, ?_⟩
            exact cell_below hb (cell_below hBq (hcell j x hx) hbl) (by have := hBq.size; omega)
          have hS0 := HS.out wr.drew (Below.refl _ _).drew
          have hr0 := HA.out j x hx
          have hxl := HL.out j x hx
          have C1 := HRP.out wr.drew hBw.drew x hxl
          have HC2 : Hid (∀ W, Below wr.heap.size wr W → _) := fun W hb => HRQ.out W (hBw.trans (hb.mono hBw.size)) x
          rw [hr0] at C1
          have hzl := HZL.out x
          have f1 : (0 : Int) ≤ (j : Int) := by omega
          have f2 : (j : Int) < (ns.length : Int) := by omega
          generalize (at0U u.us x).1 = zs at *
          generalize rdE u.us x = er at *
          have hzz := hee zs
          clear hcell hx
          go_wp2_with fail
          go_region_held3 (fun y => y.cell? ⟨pb, 0, none⟩ = some (.pointer (some ⟨sb, 0, none⟩)) ∧ y.cell? ⟨pb, 1, none⟩ = some (.pointer (some ⟨wb, 0, none⟩)) ∧ y.cell? ⟨b, off + j, none⟩ = some (encStr x)) (assumption)
            (first | (go_at_call 34; refine C1.mono ?_; rintro e w10 ⟨ao10, cap10, rfl, ho10, hb10⟩; have hB10 := ((Below.refl wr.heap.size wr).drew).trans hb10; have hS10 := HS.out w10 hB10))
          have hB10d : Below wr.heap.size wr w10.drew := hB10.drew
          have hS10d := HS.out w10.drew hB10d
          have C2 := HC2.out w10.drew hB10d
          clear C1 hS0 hS10
          go_wp2_with fail
          go_region_held3 (fun y => y.cell? ⟨pb, 0, none⟩ = some (.pointer (some ⟨sb, 0, none⟩)) ∧ y.cell? ⟨pb, 1, none⟩ = some (.pointer (some ⟨wb, 0, none⟩)) ∧ y.cell? ⟨b, off + j, none⟩ = some (encStr x)) (assumption)
            (first | (go_at_call 46; refine C2.mono ?_; rintro e w11 ⟨ao11, cap11, rfl, ho11, hb11⟩; have hB11 := hB10d.trans (hb11.mono hB10d.size); have hS11 := HS.out w11 hB11))
          have ho10' : Bs w11 (.slice ao10 zs.length cap10) zs := ho10.bs.below ((Below.refl w10.heap.size w10).drew.trans hb11) (Nat.le_refl _)
          have C3 := same_any _ _ zs zs w11 ho10' ho11.bs
          rw [hzz] at C3
          clear C2 hS10d hS11
          go_wp2_with (go_at_call 26; refine C3.mono ?_; rintro e w12 ⟨rfl, hs12⟩)
          have hB12 : Below w8.heap.size w8 w12 := (hBq.trans (hB11.mono hBq.size)).trans (hs12.below _)
          go_roundw
          case rel => exact ⟨j + 1, by omega, by go_num, hB12⟩
          case measure => simp [intOf]; omega
        · have f3 : ¬ ((j : Int) < (ns.length : Int)) := by omega
          have hB9 := HB8.out.trans (hBq.mono HB8.out.size)
          go_wp2_with fail
          go_ret
          exact ⟨rfl, hB9⟩
end Go.Proofs.YtnkjhooeklodcaaGreatDoor
end

section
/-
  does: an Entry, in both.
-/
namespace Go.Proofs.YtnkjhooeklodcaaGreatDoor
open Go.RowKit Go.Maps Go.Sort

variable {w w' w1 w2 : World} {B N pb sb wb lb xb : Nat} {Z D F G H : Nat → Prop} {u u' v : Ud} {es fs : List En} {las : Nat} {sz k : Nat} {dead : Bool} {ss : List Nat} {ps : List (List Int)} {l x : Value}
/-- What Entry answers. -/
def enA (ps : List (List Int)) (n : Int) : List Int × Int := if 1 ≤ n ∧ n ≤ (ps.length : Int) then (ps.getD (n - 1).toNat [], 0) else ([], 7)
theorem enA_at {es : List En} (he : es.map (·.2) = ps) {n : Int} (hn : 1 ≤ n ∧ n ≤ (ps.length : Int)) : ∃ (i : Nat) (r : En), n = (i : Int) + 1 ∧ es[i]? = some r ∧ enA ps n = (r.2, 0) := by
  have hl : es.length = ps.length := by rw [← he]; simp
  obtain ⟨r, hr⟩ : ∃ r, es[(n - 1).toNat]? = some r := ⟨_, List.getElem?_eq_getElem (by omega)⟩
  refine ⟨(n - 1).toNat, r, by omega, hr, ?_⟩
  have h1 : ps[(n - 1).toNat]? = some r.2 := by rw [← he, List.getElem?_map, hr]; rfl
  unfold enA
  rw [if_pos hn, List.getD_eq_getElem?_getD, h1]
  rfl
theorem enA_no {n : Int} (hn : ¬ (1 ≤ n ∧ n ≤ (ps.length : Int))) : enA ps n = ([], 7) := by unfold enA; rw [if_neg hn]
theorem LEn2 (h : Hs w B Z pb sb wb lb xb u ps las ss sz dead k) (n : Int) :
    Calls Tryz.prog 25 #[.pointer (some ⟨lb, 0, none⟩), .int .i64 n] w fun e w' => ∃ ao cap, e = .returned (.tuple #[.slice ao (enA ps n).1.length cap, .int .i64 (enA ps n).2]) ∧ Ow w' w.heap.size (.slice ao (enA ps n).1.length cap) (enA ps n).1 ∧ Below w.heap.size w w' := by
  obtain ⟨D, F, G, H, es, fs, hT, he, hf, hS, _⟩ := h
  obtain ⟨ev, nv, hl⟩ := hT.l.l
  by_cases hn : 1 ≤ n ∧ n ≤ (ps.length : Int)
  · obtain ⟨i, r, rfl, hr, hA⟩ := enA_at he hn
    rw [hA]
    exact LEntry_any i r w hl hr
  · rw [enA_no hn]
    refine (LEntry_no n w hl (by have hl : es.length = ps.length := by { rw [← he]; simp }; omega)).mono ?_
    rintro e w' ⟨rfl, rfl⟩
    exact ⟨none, 0, rfl, World.ownsRow_nil _ _ _ _, Below.refl _ _⟩
theorem XEn2 (h : Hs w B Z pb sb wb lb xb u ps las ss sz dead k) (n : Int) :
    Calls Tryz.prog 43 #[.pointer (some ⟨xb, 0, none⟩), .int .i64 n] w fun e w' => ∃ ao cap, e = .returned (.tuple #[.slice ao (enA ps n).1.length cap, .int .i64 (enA ps n).2]) ∧ Ow w' w.heap.size (.slice ao (enA ps n).1.length cap) (enA ps n).1 ∧ Below w.heap.size w w' := by
  obtain ⟨D, F, G, H, es, fs, hT, he, hf, hS, _⟩ := h
  obtain ⟨ev, nv, hl⟩ := hT.x.l
  by_cases hn : 1 ≤ n ∧ n ≤ (ps.length : Int)
  · obtain ⟨i, r, rfl, hr, hA⟩ := enA_at hf hn
    rw [hA]
    exact XEntry_any i r w hl hr
  · rw [enA_no hn]
    refine (XEntry_no n w hl (by have hl : fs.length = ps.length := by { rw [← hf]; simp }; omega)).mono ?_
    rintro e w' ⟨rfl, rfl⟩
    exact ⟨none, 0, rfl, World.ownsRow_nil _ _ _ _, Below.refl _ _⟩
theorem enA_len (h : Hs w B Z pb sb wb lb xb u ps las ss sz dead k) (n : Int) : (enA ps n).1.length ≤ 65536 := by
  obtain ⟨D, F, G, H, es, fs, hT, he, hf, hS, _⟩ := h
  obtain ⟨ev, nv, hl⟩ := hT.l.l
  by_cases hn : 1 ≤ n ∧ n ≤ (ps.length : Int)
  · obtain ⟨i, r, rfl, hr, hA⟩ := enA_at he hn
    rw [hA]
    exact (hl.each r (List.mem_of_getElem? hr)).2.2.1
  · rw [enA_no hn]
    exact Nat.zero_le _
/-- What a step leaves that laid nothing. -/
def DoQ (w : World) (B pb sb wb lb xb : Nat) (u : Ud) (ps : List (List Int)) (las : Nat) (ss : List Nat) (sz : Nat) (dead : Bool) (k : Nat) (e : Ending) (w' : World) : Prop :=
  e = .returned (.bool true) ∧ Grows (fun j => B ≤ j) w w' ∧ Hs w' B (fun j => j < w'.heap.size) pb sb wb lb xb u ps las ss sz dead k
set_option maxHeartbeats 8000000 in
set_option maxRecDepth 100000 in
theorem does5 (h : Hs w B Z pb sb wb lb xb u ps las ss sz dead k) (hc : Cx w B) (c x1 : Int) (k1 : c ≠ 1) (k2 : c ≠ 2) (k3 : c ≠ 3) (k4 : c ≠ 4) (k6 : c ≠ 6) (sv : Value) (hsv : ∃ ao m cap, sv = .slice ao m cap) (t : Int) :
    Calls Tryz.prog 12 #[.pointer (some ⟨pb, 0, none⟩), .agg #[.int .i64 c, .int .i64 x1, sv, .int .u8 t]] w (DoQ w B pb sb wb lb xb u ps las ss sz dead k) := by
  obtain ⟨ao, m, cap, rfl⟩ := hsv
  have hB1 : Below w.heap.size w (w.alloc (.cells #[.int .i64 c, .int .i64 x1, .slice ao m cap, .int .u8 t] 40)) := (Below.refl _ _).alloc (Nat.le_refl _) _
  have hw1 : Cw (w.alloc (.cells #[.int .i64 c, .int .i64 x1, .slice ao m cap, .int .u8 t] 40)) w.heap.size [.int .i64 c, .int .i64 x1, .slice ao m cap, .int .u8 t] 40 := Cw.new w [.int .i64 c, .int .i64 x1, .slice ao m cap, .int .u8 t] 40
  have hs1 : (w.alloc (.cells #[.int .i64 c, .int .i64 x1, .slice ao m cap, .int .u8 t] 40)).heap.size = w.heap.size + 1 := World.size_alloc _ _
  have c0 := hw1.cell 0
  simp only [List.getElem?_cons_zero] at c0
  have e1 : (c == 1) = false := beq_eq_false_iff_ne.2 k1
  have e2 : (c == 2) = false := beq_eq_false_iff_ne.2 k2
  have e3 : (c == 3) = false := beq_eq_false_iff_ne.2 k3
  have e4 : (c == 4) = false := beq_eq_false_iff_ne.2 k4
  have e6 : (c == 6) = false := beq_eq_false_iff_ne.2 k6
  have hbw := hc.bw
  obtain ⟨W1, hW1⟩ : ∃ W1, w.alloc (.cells #[.int .i64 c, .int .i64 x1, .slice ao m cap, .int .u8 t] 40) = W1 := ⟨_, rfl⟩
  rw [hW1] at hB1 hw1 hs1 c0
  have HH : Hid (∀ W, Below W1.heap.size W1 W → Hs W B Z pb sb wb lb xb u ps las ss sz dead k) := fun W hb => (h.below hB1).below hb
  have HS : Hid (∀ W, Below W1.heap.size W1 W → (W.cell? ⟨pb, 2, none⟩ = some (.pointer (some ⟨lb, 0, none⟩)) ∧ W.cell? ⟨pb, 3, none⟩ = some (.pointer (some ⟨xb, 0, none⟩)) ∧ W.cell? ⟨w.heap.size, 1, none⟩ = some (.int .i64 x1))) := fun W hb => by
    have hp := (HH.out W hb).pair
    exact ⟨hp.cell 2, hp.cell 3, (hw1.below hb hw1.lt).cell 1⟩
  have hd1 : Below W1.heap.size W1 W1.drew := (Below.refl _ _).drew
  have CA := LEn2 (HH.out W1.drew hd1) x1
  have HX : Hid (∀ W, Below W1.heap.size W1 W → _) := fun W hb => XEn2 (HH.out W hb) x1
  have hel := enA_len h x1
  have hSt := HS.out W1.drew hd1
  generalize enA ps x1 = ea at *
  obtain ⟨zs, er⟩ := ea
  have hzz : eqB zs zs = true := by simp [eqB]
  clear h hc
  go_enter Tryz.func12, Tryz.ntmps12
  go_wp2_with fail
  go_region_held3 (fun y => y.cell? ⟨pb, 2, none⟩ = some (.pointer (some ⟨lb, 0, none⟩)) ∧ y.cell? ⟨pb, 3, none⟩ = some (.pointer (some ⟨xb, 0, none⟩)) ∧ y.cell? ⟨w.heap.size, 1, none⟩ = some (.int .i64 x1)) (assumption)
    (first | (go_at_call 25; refine CA.mono ?_; rintro e w2 ⟨ao2, cap2, rfl, ho2, hb2⟩; have hB2 : Below W1.heap.size W1 w2 := hd1.trans hb2; have hS2 := HS.out w2 hB2))
  have hB2d : Below W1.heap.size W1 w2.drew := hB2.drew
  have hS2d := HS.out w2.drew hB2d
  have CX := HX.out w2.drew hB2d
  clear CA hS2 hSt
  go_wp2_with fail
  go_region_held3 (fun y => y.cell? ⟨pb, 2, none⟩ = some (.pointer (some ⟨lb, 0, none⟩)) ∧ y.cell? ⟨pb, 3, none⟩ = some (.pointer (some ⟨xb, 0, none⟩)) ∧ y.cell? ⟨w.heap.size, 1, none⟩ = some (.int .i64 x1)) (assumption)
    (first | (go_at_call 43; refine CX.mono ?_; rintro e w3 ⟨ao3, cap3, rfl, ho3, hb3⟩; have hB3 : Below W1.heap.size W1 w3 := hB2d.trans (hb3.mono hB2d.size); have hS3 := HS.out w3 hB3))
  have ho2' : Ow w3 W1.heap.size (.slice ao2 zs.length cap2) zs := ownsRow_below ho2 ((Below.refl w2.heap.size w2).drew.trans hb3)
  have C3 := same_any _ _ zs zs w3 (Ow.bs ho2') (Ow.bs ho3)
  rw [hzz] at C3
  clear CX hS2d hS3
  go_wp2_with fail
  refine C3.mono ?_
  rintro e w4 ⟨rfl, hs4⟩
  have hB4 : Below W1.heap.size W1 w4 := hB3.trans (hs4.below _)
  have ho4 : Ow w4 W1.heap.size (.slice ao2 zs.length cap2) zs := ownsRow_below ho2' (hs4.below _)
  have C4 := spoil_any W1.heap.size _ zs w4 ho4 hB4.size (by omega)
  have HOWN : Hid (∀ q, (Value.slice ao2 zs.length cap2).ownBlock = some q → W1.heap.size ≤ q) := fun q hq => (World.ownsRow.lt ho4 q hq).1
  clear C3
  go_wp2_with fail
  refine C4.mono ?_
  rintro e w5 ⟨rfl, hg5⟩
  have HF : Hid (DoQ w B pb sb wb lb xb u ps las ss sz dead k (.returned (.bool true)) w5) := by
    have hB5 : Below W1.heap.size W1 w5 := hB4.trans ⟨hg5.os, hg5.tape, hg5.output, hg5.size, fun q hq => hg5.block q (by have := hB4.size; omega) (fun e => by have := HOWN.out q e.symm; omega)⟩
    have hB : Below w.heap.size w w5 := hB1.trans (hB5.mono hB1.size)
    refine ⟨rfl, ⟨hB.os, hB.tape, hB.output, hB.size, fun j hj hn => hB.block j hj⟩, (HH.out w5 hB5).tight⟩
  clear C4 hg5 hB4 hs4
  go_wp2_with fail
  go_ret
  exact HF.out
end Go.Proofs.YtnkjhooeklodcaaGreatDoor
end

section
/-
  Both logs, the disks perhaps not alike (Hu); Fuse and Cut of the disks below them.
-/
namespace Go.Proofs.YtnkjhooeklodcaaGreatDoor
open Go.RowKit Go.Maps Go.Sort

variable {w w' w1 w2 : World} {B N pb sb wb lb xb : Nat} {Z D F G H : Nat → Prop} {u u' v : Ud} {es fs : List En} {las : Nat} {sz k : Nat} {dead : Bool} {ss : List Nat} {ps : List (List Int)} {l x : Value}
/-- Both logs, the disks perhaps not alike. -/
def Hu (w : World) (B : Nat) (Z : Nat → Prop) (pb sb wb lb xb : Nat) (u v : Ud) (ps : List (List Int)) (las : Nat) (ss : List Nat) (sz : Nat) (dead : Bool) : Prop :=
  ∃ D F G H es fs, Tq w B pb sb wb lb xb D F G H [97] u es las (namesN [97] ss) sz dead v fs ss (las + 1) dead ∧ es.map (·.2) = ps ∧ fs.map (·.2) = ps ∧ (∀ j, (D j ∨ F j) ∨ (G j ∨ H j) → Z j)
theorem Hs.hu (h : Hs w B Z pb sb wb lb xb u ps las ss sz dead k) : Hu w B Z pb sb wb lb xb u u ps las ss sz dead := by
  obtain ⟨D, F, G, H, es, fs, h1, h2, h3, h4, h5⟩ := h
  exact ⟨D, F, G, H, es, fs, h1, h2, h3, h5⟩
theorem Hs.sl (h : Hs w B Z pb sb wb lb xb u ps las ss sz dead k) : Sl [97] u ps las ss sz k := by
  obtain ⟨D, F, G, H, es, fs, h1, h2, h3, h4, h5⟩ := h
  exact h4
theorem Hu.hs (h : Hu w B Z pb sb wb lb xb u u ps las ss sz dead) (hs : Sl [97] u ps las ss sz k) : Hs w B Z pb sb wb lb xb u ps las ss sz dead k := by
  obtain ⟨D, F, G, H, es, fs, h1, h2, h3, h5⟩ := h
  exact ⟨D, F, G, H, es, fs, h1, h2, h3, hs, h5⟩
theorem Hu.below (h : Hu w B Z pb sb wb lb xb u v ps las ss sz dead) (hb : Below w.heap.size w w') : Hu w' B Z pb sb wb lb xb u v ps las ss sz dead := by
  obtain ⟨D, F, G, H, es, fs, h1, h2⟩ := h
  exact ⟨D, F, G, H, es, fs, h1.below hb, h2⟩
theorem Hu.pair (h : Hu w B Z pb sb wb lb xb u v ps las ss sz dead) : Cw w pb [.pointer (some ⟨sb, 0, none⟩), .pointer (some ⟨wb, 0, none⟩), .pointer (some ⟨lb, 0, none⟩), .pointer (some ⟨xb, 0, none⟩)] 37 := by
  obtain ⟨D, F, G, H, es, fs, h1, _⟩ := h
  exact h1.p
theorem Sl.fuse {pre : List UInt8} (h : Sl pre u ps las ss sz k) (n : Int) : Sl pre (u.fuse n) ps las ss sz k := ⟨h.szq, h.nil, h.num, h.few, h.nl, h.rm, h.seg, h.top⟩
/-- The program's disk was called. -/
theorem tq_pcall (h1 : Tq w B pb sb wb lb xb D F G H [97] u es las (namesN [97] ss) sz dead v fs ss (las + 1) dead) (h2 : es.map (·.2) = ps) (h3 : fs.map (·.2) = ps) (h5 : ∀ j, (D j ∨ F j) ∨ (G j ∨ H j) → Z j) (hbw : B ≤ w.heap.size) (hr : PRes D sb u' w w') : Hu w' B (fun j => Z j ∨ w.heap.size ≤ j) pb sb wb lb xb u' v ps las ss sz dead ∧ Grows (Zn B Z pb) w w' := by
  have hL : LRes w D F lb sb [97] u' es las (namesN [97] ss) sz dead w' := ⟨_, F, h1.l.disk hr, fun j e => e.1, fun j e => Or.inl e, hr.2.mono fun j e => Or.inl e⟩
  obtain ⟨⟨D', F', hT, hnew⟩, _, hg⟩ := h1.lcall2 hbw hL
  refine ⟨⟨D', F', G, H, es, fs, hT, h2, h3, fun j hj => ?_⟩, hg.mono fun j hj => ⟨⟨(h1.lo j (Or.inl hj)).1, h5 j (Or.inl hj)⟩, (h1.lo j (Or.inl hj)).2⟩⟩
  rcases hj with e | e
  · exact (hnew j e).imp (fun e => h5 j (Or.inl e)) id
  · exact Or.inl (h5 j (Or.inr e))
/-- The document's disk was called. -/
theorem tq_qcall {v' : Ud} (h1 : Tq w B pb sb wb lb xb D F G H [97] u es las (namesN [97] ss) sz dead v fs ss (las + 1) dead) (h2 : es.map (·.2) = ps) (h3 : fs.map (·.2) = ps) (h5 : ∀ j, (D j ∨ F j) ∨ (G j ∨ H j) → Z j) (hbw : B ≤ w.heap.size) (hr : QRes G wb v' w w') : Hu w' B (fun j => Z j ∨ w.heap.size ≤ j) pb sb wb lb xb u v' ps las ss sz dead ∧ Grows (Zn B Z pb) w w' := by
  have hL : XRes w G H xb wb [97] v' fs ss (las + 1) dead w' := XRes.disk h1.x (Below.refl _ _) hr
  obtain ⟨⟨G', H', hT, hnew⟩, _, hg⟩ := h1.xcall2 hbw hL
  refine ⟨⟨D, F, G', H', es, fs, hT, h2, h3, fun j hj => ?_⟩, hg.mono fun j hj => ⟨⟨(h1.lo j (Or.inr hj)).1, h5 j (Or.inr hj)⟩, (h1.lo j (Or.inr hj)).2⟩⟩
  rcases hj with e | e
  · exact Or.inl (h5 j (Or.inl e))
  · exact (hnew j e).imp (fun e => h5 j (Or.inr e)) id
theorem LFu2 (h : Hu w B Z pb sb wb lb xb u v ps las ss sz dead) (hbw : B ≤ w.heap.size) (n : Int) (hn : (Lit.int .i64 n).wf = true) : Calls Tryz.prog 14 #[.pointer (some ⟨sb, 0, none⟩), .int .i64 n] w fun e w' => e = .returned (.tuple #[]) ∧ Hu w' B (fun j => Z j ∨ w.heap.size ≤ j) pb sb wb lb xb (u.fuse n) v ps las ss sz dead ∧ Grows (Zn B Z pb) w w' := by
  obtain ⟨D, F, G, H, es, fs, h1, h2, h3, h5⟩ := h
  refine (pFuse h1.l.d n hn).mono ?_
  rintro e w' ⟨rfl, hp, hg⟩
  exact ⟨rfl, tq_pcall h1 h2 h3 h5 hbw ⟨hp.more fun k hk _ => Or.inl hk, hg⟩⟩
theorem XFu2 (h : Hu w B Z pb sb wb lb xb u v ps las ss sz dead) (hbw : B ≤ w.heap.size) (n : Int) : Calls Tryz.prog 15 #[.pointer (some ⟨wb, 0, none⟩), .int .i64 n] w fun e w' => e = .returned (.tuple #[]) ∧ Hu w' B (fun j => Z j ∨ w.heap.size ≤ j) pb sb wb lb xb u (v.fuse n) ps las ss sz dead ∧ Grows (Zn B Z pb) w w' := by
  obtain ⟨D, F, G, H, es, fs, h1, h2, h3, h5⟩ := h
  refine (qFuse h1.x.d n).mono ?_
  rintro e w' ⟨rfl, hp, hg⟩
  exact ⟨rfl, tq_qcall h1 h2 h3 h5 hbw ⟨hp.more fun k hk _ => Or.inl hk, hg⟩⟩
theorem LCu2 (h : Hu w B Z pb sb wb lb xb u v ps las ss sz dead) (hbw : B ≤ w.heap.size) (x : Nm) (hx : x.length ≤ maxLen) (n : Int) (hn : (Lit.int .i64 n).wf = true) : Calls Tryz.prog 41 #[.pointer (some ⟨sb, 0, none⟩), encStr x, .int .i64 n] w fun e w' => e = .returned (.int .i64 (u.five [x] (cuU x n)).1) ∧ Hu w' B (fun j => Z j ∨ w.heap.size ≤ j) pb sb wb lb xb (u.five [x] (cuU x n)).2 v ps las ss sz dead ∧ Grows (Zn B Z pb) w w' := by
  obtain ⟨D, F, G, H, es, fs, h1, h2, h3, h5⟩ := h
  refine (pCut h1.l.d x hx n hn).mono ?_
  rintro e w' ⟨rfl, hp⟩
  exact ⟨rfl, tq_pcall h1 h2 h3 h5 hbw hp⟩
theorem XCu2 (h : Hu w B Z pb sb wb lb xb u v ps las ss sz dead) (hg : Gd v) (hbw : B ≤ w.heap.size) (x : Nm) (hx : x.length ≤ 140737488355328) (n : Int) : Calls Tryz.prog 42 #[.pointer (some ⟨wb, 0, none⟩), encStr x, .int .i64 n] w fun e w' => e = .returned (.int .i64 (v.five [x] (cuU x n)).1) ∧ Hu w' B (fun j => Z j ∨ w.heap.size ≤ j) pb sb wb lb xb u (v.five [x] (cuU x n)).2 ps las ss sz dead ∧ Grows (Zn B Z pb) w w' := by
  obtain ⟨D, F, G, H, es, fs, h1, h2, h3, h5⟩ := h
  refine (qCut h1.x.d hg x hx n).mono ?_
  rintro e w' ⟨rfl, hp⟩
  exact ⟨rfl, tq_qcall h1 h2 h3 h5 hbw hp⟩
theorem Hu.good (h : Hu w B Z pb sb wb lb xb u v ps las ss sz dead) : Gd u := by
  obtain ⟨D, F, G, H, es, fs, h1, _⟩ := h
  exact h1.l.d.good
theorem Hu.pa (h : Hu w B Z pb sb wb lb xb u v ps las ss sz dead) : ∃ D G, Pa w B pb sb wb (.pointer (some ⟨lb, 0, none⟩)) (.pointer (some ⟨xb, 0, none⟩)) D G u v := by
  obtain ⟨D, F, G, H, es, fs, h1, _⟩ := h
  exact ⟨D, G, h1.pa⟩
end Go.Proofs.YtnkjhooeklodcaaGreatDoor
end

section
/-
  does: a Fuse and an Entry, in both.
-/
namespace Go.Proofs.YtnkjhooeklodcaaGreatDoor
open Go.RowKit Go.Maps Go.Sort

variable {w w' w1 w2 : World} {B N pb sb wb lb xb : Nat} {Z D F G H : Nat → Prop} {u u' v : Ud} {es fs : List En} {las : Nat} {sz k : Nat} {dead : Bool} {ss : List Nat} {ps : List (List Int)} {l x : Value}
set_option maxHeartbeats 8000000 in
set_option maxRecDepth 100000 in
theorem does4 (h : Hs w B Z pb sb wb lb xb u ps las ss sz dead k) (hc : Cx w B) (hZ : ∀ j, Z j → j < w.heap.size) (x1 : Int) (hx1 : (Lit.int .i64 x1).wf = true) (sv : Value) (hsv : ∃ ao m cap, sv = .slice ao m cap) (t : Int) :
    Calls Tryz.prog 12 #[.pointer (some ⟨pb, 0, none⟩), .agg #[.int .i64 4, .int .i64 x1, sv, .int .u8 t]] w (DoQ w B pb sb wb lb xb (u.fuse x1) ps las ss sz dead k) := by
  obtain ⟨ao, m, cap, rfl⟩ := hsv
  have hB1 : Below w.heap.size w (w.alloc (.cells #[.int .i64 4, .int .i64 x1, .slice ao m cap, .int .u8 t] 40)) := (Below.refl _ _).alloc (Nat.le_refl _) _
  have hw1 : Cw (w.alloc (.cells #[.int .i64 4, .int .i64 x1, .slice ao m cap, .int .u8 t] 40)) w.heap.size [.int .i64 4, .int .i64 x1, .slice ao m cap, .int .u8 t] 40 := Cw.new w [.int .i64 4, .int .i64 x1, .slice ao m cap, .int .u8 t] 40
  have hs1 : (w.alloc (.cells #[.int .i64 4, .int .i64 x1, .slice ao m cap, .int .u8 t] 40)).heap.size = w.heap.size + 1 := World.size_alloc _ _
  have c0 := hw1.cell 0
  simp only [List.getElem?_cons_zero] at c0
  have hbw := hc.bw
  have hpB : B ≤ pb := by obtain ⟨D, G, hP, _⟩ := h.pa; exact hP.pB
  obtain ⟨W1, hW1⟩ : ∃ W1, w.alloc (.cells #[.int .i64 4, .int .i64 x1, .slice ao m cap, .int .u8 t] 40) = W1 := ⟨_, rfl⟩
  rw [hW1] at hB1 hw1 hs1 c0
  have hsl := h.sl.fuse x1
  have hd1 : Below W1.heap.size W1 W1.drew := (Below.refl _ _).drew
  have hU1 : Hu W1.drew B Z pb sb wb lb xb u u ps las ss sz dead := ((h.below hB1).below hd1).hu
  have hP1 := hU1.pair
  have hS1 : W1.drew.cell? ⟨pb, 0, none⟩ = some (.pointer (some ⟨sb, 0, none⟩)) ∧ W1.drew.cell? ⟨pb, 1, none⟩ = some (.pointer (some ⟨wb, 0, none⟩)) ∧ W1.drew.cell? ⟨w.heap.size, 1, none⟩ = some (.int .i64 x1) := ⟨hP1.cell 0, hP1.cell 1, hw1.cell 1⟩
  have C1 := LFu2 hU1 (by show B ≤ W1.heap.size; omega) x1 hx1
  have HZX : Hid (¬ Zn B Z pb w.heap.size) := fun e => by have := hZ _ e.1.2; omega
  have HZX2 : Hid (¬ Zn B (fun j => Z j ∨ W1.drew.heap.size ≤ j) pb w.heap.size) := fun e => by
    rcases e.1.2 with e | e
    · have := hZ _ e; omega
    · have : W1.drew.heap.size = W1.heap.size := rfl; omega
  have hel0 := enA_len h x1
  clear h hc hP1 hU1
  go_enter Tryz.func12, Tryz.ntmps12
  go_wp2_with fail
  go_region_held3 (fun y => y.cell? ⟨pb, 0, none⟩ = some (.pointer (some ⟨sb, 0, none⟩)) ∧ y.cell? ⟨pb, 1, none⟩ = some (.pointer (some ⟨wb, 0, none⟩)) ∧ y.cell? ⟨w.heap.size, 1, none⟩ = some (.int .i64 x1)) (assumption)
    (first | (go_at_call 14; refine C1.mono ?_; rintro e w2 ⟨rfl, hU2, hg2⟩; have hS2 : w2.cell? ⟨pb, 0, none⟩ = some (.pointer (some ⟨sb, 0, none⟩)) ∧ w2.cell? ⟨pb, 1, none⟩ = some (.pointer (some ⟨wb, 0, none⟩)) ∧ w2.cell? ⟨w.heap.size, 1, none⟩ = some (.int .i64 x1) := ⟨hU2.pair.cell 0, hU2.pair.cell 1, cell_grows hg2 hS1.2.2 HZX.out⟩))
  have hsz2 : W1.heap.size ≤ w2.heap.size := hg2.size
  have hS2d : w2.drew.cell? ⟨pb, 0, none⟩ = some (.pointer (some ⟨sb, 0, none⟩)) ∧ w2.drew.cell? ⟨pb, 1, none⟩ = some (.pointer (some ⟨wb, 0, none⟩)) ∧ w2.drew.cell? ⟨w.heap.size, 1, none⟩ = some (.int .i64 x1) := hS2
  have hU2d := hU2.below (Below.refl w2.heap.size w2).drew
  have C2 := XFu2 hU2d (by show B ≤ w2.heap.size; omega) x1
  clear C1 hS1 hS2 hU2 hU2d
  go_wp2_with fail
  go_region_held3 (fun y => y.cell? ⟨pb, 0, none⟩ = some (.pointer (some ⟨sb, 0, none⟩)) ∧ y.cell? ⟨pb, 1, none⟩ = some (.pointer (some ⟨wb, 0, none⟩)) ∧ y.cell? ⟨w.heap.size, 1, none⟩ = some (.int .i64 x1)) (assumption)
    (first | (go_at_call 15; refine C2.mono ?_; rintro e w3 ⟨rfl, hU3, hg3⟩; have hS3 : w3.cell? ⟨pb, 0, none⟩ = some (.pointer (some ⟨sb, 0, none⟩)) ∧ w3.cell? ⟨pb, 1, none⟩ = some (.pointer (some ⟨wb, 0, none⟩)) ∧ w3.cell? ⟨w.heap.size, 1, none⟩ = some (.int .i64 x1) := ⟨hU3.pair.cell 0, hU3.pair.cell 1, cell_grows hg3 hS2d.2.2 HZX2.out⟩))
  have hsz3 : w2.heap.size ≤ w3.heap.size := hg3.size
  have hH3 := hU3.hs hsl
  have hx3 := hS3.2.2
  have HG3 : Hid (Grows (fun j => B ≤ j) w w3) := by
    refine ⟨hg3.os.trans (hg2.os.trans hB1.os), hg3.tape.trans (hg2.tape.trans hB1.tape), hg3.output.trans (hg2.output.trans hB1.output), by omega, fun j hj hnj => ?_⟩
    rw [hg3.block j (by show j < w2.heap.size; omega) fun e => hnj e.1.1]
    show w2.heap[j]? = _
    rw [hg2.block j (by show j < W1.heap.size; omega) fun e => hnj e.1.1]
    exact hB1.block j hj
  clear C2 hS2d hS3 hU3 hg3 hg2
  generalize hV : w3 = V at *
  clear hV
  have HH : Hid (∀ W, Below V.heap.size V W → Hs W B _ pb sb wb lb xb (u.fuse x1) ps las ss sz dead k) := fun W hb => hH3.below hb
  have HS : Hid (∀ W, Below V.heap.size V W → (W.cell? ⟨pb, 2, none⟩ = some (.pointer (some ⟨lb, 0, none⟩)) ∧ W.cell? ⟨pb, 3, none⟩ = some (.pointer (some ⟨xb, 0, none⟩)) ∧ W.cell? ⟨w.heap.size, 1, none⟩ = some (.int .i64 x1))) := fun W hb => by
    have hp := (HH.out W hb).pair
    exact ⟨hp.cell 2, hp.cell 3, cell_below hb hx3 (by omega)⟩
  have hdV : Below V.heap.size V V.drew := (Below.refl _ _).drew
  have CA := LEn2 (HH.out V.drew hdV) x1
  have HX : Hid (∀ W, Below V.heap.size V W → _) := fun W hb => XEn2 (HH.out W hb) x1
  have hSt := HS.out V.drew hdV
  have hel := hel0
  clear hel0
  generalize enA ps x1 = ea at *
  obtain ⟨zs, er⟩ := ea
  have hzz : eqB zs zs = true := by simp [eqB]
  clear hH3 hx3 HZX HZX2
  go_wp2_with fail
  go_region_held3 (fun y => y.cell? ⟨pb, 2, none⟩ = some (.pointer (some ⟨lb, 0, none⟩)) ∧ y.cell? ⟨pb, 3, none⟩ = some (.pointer (some ⟨xb, 0, none⟩)) ∧ y.cell? ⟨w.heap.size, 1, none⟩ = some (.int .i64 x1)) (assumption)
    (first | (go_at_call 25; refine CA.mono ?_; rintro e w2 ⟨ao2, cap2, rfl, ho2, hb2⟩; have hB2 : Below V.heap.size V w2 := hdV.trans hb2; have hS2 := HS.out w2 hB2))
  have hB2d : Below V.heap.size V w2.drew := hB2.drew
  have hS2d := HS.out w2.drew hB2d
  have CX := HX.out w2.drew hB2d
  clear CA hS2 hSt
  go_wp2_with fail
  go_region_held3 (fun y => y.cell? ⟨pb, 2, none⟩ = some (.pointer (some ⟨lb, 0, none⟩)) ∧ y.cell? ⟨pb, 3, none⟩ = some (.pointer (some ⟨xb, 0, none⟩)) ∧ y.cell? ⟨w.heap.size, 1, none⟩ = some (.int .i64 x1)) (assumption)
    (first | (go_at_call 43; refine CX.mono ?_; rintro e w3 ⟨ao3, cap3, rfl, ho3, hb3⟩; have hB3 : Below V.heap.size V w3 := hB2d.trans (hb3.mono hB2d.size); have hS3 := HS.out w3 hB3))
  have ho2' : Ow w3 V.heap.size (.slice ao2 zs.length cap2) zs := ownsRow_below ho2 ((Below.refl w2.heap.size w2).drew.trans hb3)
  have C3 := same_any _ _ zs zs w3 (Ow.bs ho2') (Ow.bs ho3)
  rw [hzz] at C3
  clear CX hS2d hS3
  go_wp2_with fail
  refine C3.mono ?_
  rintro e w4 ⟨rfl, hs4⟩
  have hB4 : Below V.heap.size V w4 := hB3.trans (hs4.below _)
  have ho4 : Ow w4 V.heap.size (.slice ao2 zs.length cap2) zs := ownsRow_below ho2' (hs4.below _)
  have C4 := spoil_any V.heap.size _ zs w4 ho4 hB4.size (by omega)
  have HOWN : Hid (∀ q, (Value.slice ao2 zs.length cap2).ownBlock = some q → V.heap.size ≤ q) := fun q hq => (World.ownsRow.lt ho4 q hq).1
  clear C3
  go_wp2_with fail
  refine C4.mono ?_
  rintro e w5 ⟨rfl, hg5⟩
  have HF : Hid (DoQ w B pb sb wb lb xb (u.fuse x1) ps las ss sz dead k (.returned (.bool true)) w5) := by
    have hB5 : Below V.heap.size V w5 := hB4.trans ⟨hg5.os, hg5.tape, hg5.output, hg5.size, fun q hq => hg5.block q (by have := hB4.size; omega) (fun e => by have := HOWN.out q e.symm; omega)⟩
    have hs5 := hB5.size
    refine ⟨rfl, ⟨hB5.os.trans HG3.out.os, hB5.tape.trans HG3.out.tape, hB5.output.trans HG3.out.output, by omega, fun j hj hn => ?_⟩, (HH.out w5 hB5).tight⟩
    rw [hB5.block j (by omega)]
    exact HG3.out.block j hj hn
  clear C4 hg5 hB4 hs4
  go_wp2_with fail
  go_ret
  exact HF.out
end Go.Proofs.YtnkjhooeklodcaaGreatDoor
end
