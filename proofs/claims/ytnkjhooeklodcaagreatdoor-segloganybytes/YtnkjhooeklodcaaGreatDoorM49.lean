/-
  Joined from: SegAnyB.
-/
import Derived.Test.YtnkjhooeklodcaaGreatDoorM48
import Derived.Test.YtnkjhooeklodcaaGreatDoorM28
section
/-
  The law SeglogAnyBytes, walked.
-/
namespace Go.Proofs.YtnkjhooeklodcaaGreatDoor
open Go.RowKit Go.Maps Go.Sort

variable {w w' : World}
theorem and8 (a : Int) : ∃ A : Nat, bits .and .i64 a 255 = (A : Int) ∧ A < 256 := by
  have e : bits .and .i64 a 255 = IntKind.i64.wrap (((BitVec.ofInt 64 a &&& BitVec.ofInt 64 255).toNat : Nat) : Int) := rfl
  have h : (BitVec.ofInt 64 a &&& BitVec.ofInt 64 255).toNat ≤ 255 := by
    rw [BitVec.toNat_and]
    exact Nat.and_le_right
  refine ⟨_, e.trans ?_, Nat.lt_of_le_of_lt h (by decide)⟩
  rw [IntKind.wrap_i64]
  omega
/-- A file of a segment's name is written, with no fuse: what stays. -/
structure Wq (u : Ud) : Prop where
  left : u.left = -1
  room : u.room = 1048576
  nl : ∀ x, (lkU u.us x).isSome = true → x.length ≤ 64
theorem Wq.write {u : Ud} (h : Wq u) (n : Nat) (hn : n < 256) (ps : List Int) : Wq (u.five [nameN [97] n] (wrU (nameN [97] n) ps u.room)).2 := by
  have hlen : (nameN [97] n).length = 9 := nameN_len [97] n (by omega)
  have hb : badN (nameN [97] n) = false := badN_seg (isSeg_name [97] (by omega)) (by omega)
  rw [five_free h.left hb]
  refine ⟨rfl, h.room, fun y hy => ?_⟩
  unfold wrU at hy
  split at hy
  · exact h.nl y hy
  · simp only [lkU_pt] at hy
    split at hy
    · rename_i e
      rw [e]
      omega
    · exact h.nl y hy
/-- The pair's disks, behind so many writes. -/
def Wr (W : World) (pb sb wb : Nat) (l x : Value) (u : Ud) (wx : World) : Prop := Wq u ∧ Below W.heap.size W wx ∧ ∃ D G, Pa wx W.heap.size pb sb wb l x D G u u
theorem Below.of_grows {B : Nat} {X : Nat → Prop} {w w' : World} (hg : Grows X w w') (hx : ∀ j, X j → B ≤ j) (hB : B ≤ w.heap.size) : Below B w w' := ⟨hg.os, hg.tape, hg.output, hg.size, fun j hj => hg.block j (by omega) fun e => by have := hx j e; omega⟩
theorem Cx.tight {B : Nat} {w w' : World} (h : Cx w B) (hb : Below B w w') : Cx w' w'.heap.size := by
  have h1 := h.below hb
  exact ⟨h1.tab, h1.pw, Nat.le_trans h1.b8 h1.bw, Nat.le_refl _⟩
set_option maxHeartbeats 8000000 in
set_option maxRecDepth 100000 in
theorem anyb_walk (nv rv : Value) (ns : List Int) (rs : List Rw) (W : World) (hns : Is W nv ns) (hrs : Rs W rv rs) (hc : Cx W W.heap.size) :
    Calls Tryz.prog 6 #[nv, rv] W fun e w' => e = .returned (.bool true) ∧ Below W.heap.size W w' := by
  obtain ⟨ao, cap, rfl, hl47, _⟩ := hrs.form
  obtain ⟨an, cn, rfl, hnl, hnw, hnc⟩ := hns
  have CK := known_any W hc
  have CS := start_any 1048576 (by decide) W hc
  have HC := hid_into hc
  clear hc
  go_enter Tryz.func6, Tryz.ntmps6
  go_wp2_with fail
  go_loopw [5, 6] (fun kv iv wx => ∃ (i k : Nat), i ≤ rs.length ∧ iv = .int .i64 (i : Int) ∧ kv = .int .i64 (k : Int) ∧ k ≤ 140737488400000 ∧ wx = W) (fun _ iv _ => rs.length - (intOf iv).toNat)
  case atStart => exact ⟨0, 0, Nat.zero_le _, rfl, rfl, Nat.zero_le _, rfl⟩
  case round =>
    obtain ⟨i, k, hi, rfl, rfl, hk47, hwx⟩ := hrel
    replace hwx := hwx.symm
    subst hwx
    by_cases hk8 : k ≤ 12000
    · by_cases hlt : i < rs.length
      · obtain ⟨b, off, ap, cp, zs, rfl, hget, hcell, _, _, hz⟩ := hrs.get hlt
        clear hget CK CS hnc hnw
        go_wp2_with fail
        go_roundw
        case rel => exact ⟨i + 1, k + 5 + zs.length, by omega, by go_num, by go_num, by omega, by trivial⟩
        case measure => simp [intOf]; omega
      · by_cases h30 : rs.length ≤ 30
        · by_cases hnn : rs.length ≤ ns.length
          · clear CK
            go_wp2_with fail
            refine CS.mono ?_
            rintro e w1 ⟨pb, rfl, hb1, sb, wb, lb, xb, sz, hH1⟩
            clear CS
            have hW1 : Wr W pb sb wb (.pointer (some ⟨lb, 0, none⟩)) (.pointer (some ⟨xb, 0, none⟩)) ⟨1048576, [], -1⟩ w1 := by
              obtain ⟨D, G, hPa, _, _⟩ := hH1.pa
              exact ⟨⟨rfl, rfl, fun x hx => by cases hx⟩, hb1, D, G, hPa⟩
            generalize Value.pointer (some ⟨lb, 0, none⟩) = lv at hW1
            generalize Value.pointer (some ⟨xb, 0, none⟩) = xv at hW1
            clear hH1
            go_wp2_with fail
            have HW1 := hid_into hW1
            clear hW1 hb1 hk8 hlt hi hk47
            go_loopw [9, 10] (fun iv _ wx => ∃ (i : Nat) (u : Ud), i ≤ rs.length ∧ iv = .int .i64 (i : Int) ∧ Wr W pb sb wb lv xv u wx) (fun iv _ _ => rs.length - (intOf iv).toNat)
            case atStart => exact ⟨0, _, Nat.zero_le _, rfl, HW1.out⟩
            case round =>
              obtain ⟨j, u, hj, rfl, hq, hB, D, G, hPa⟩ := hrel
              by_cases hlt : j < rs.length
              · have hrs' : Rs wr (.slice ao rs.length cap) rs := hrs.below hB
                obtain ⟨b, off, ap, cp, zs, rfl, hget, hcell, hbz, hbyz, hz⟩ := hrs.get hlt
                obtain ⟨n, hn⟩ : ∃ n, ns[j]? = some n := ⟨_, List.getElem?_eq_getElem (by omega)⟩
                obtain ⟨bn, on, rfl, hcn⟩ := hnc (fun e => by rw [e] at hnn; simp at hnn; rw [hnn] at hlt; simp at hlt)
                have cN := hcn j n hn
                have hlN := World.block_lt_of_cell? W _ cN
                have cN' : wr.cell? ⟨bn, on + j, none⟩ = some (.int .i64 n) := cell_below hB cN hlN
                obtain ⟨A, hA, hA8⟩ := and8 n
                have CN := name_ref [97] A (by omega) (by decide) wr
                have f1 : (0 : Int) ≤ (j : Int) := by omega
                have f2 : (j : Int) < (rs.length : Int) := by omega
                have f3 : (j : Int) < (ns.length : Int) := by omega
                clear hget hcn hrs' hnc
                go_wp2_with fail
                refine CN.mono ?_
                rintro e w2 ⟨rfl, hb2⟩
                have hlen : (nameN [97] A).length = 9 := nameN_len [97] A (by omega)
                have hq2 := hq.write A hA8 zs
                have hg := hPa.d.good
                have hB2 : Below W.heap.size W w2 := hB.trans (hb2.mono hB.size)
                have hP2 : Pa w2.drew W.heap.size pb sb wb lv xv D G u u := (hPa.below hb2).below (Below.refl _ _).drew
                have hbl := World.block_lt_of_cell? W _ hcell
                have HR : Hid (∀ W', Below W.heap.size W W' → W'.cell? ⟨b, off + j, none⟩ = some (.slice ap zs.length cp) ∧ Bs W' (.slice ap zs.length cp) zs) := fun W' hb => ⟨cell_below hb hcell hbl, hbz.below hb (Nat.le_refl _)⟩
                have hapb : zs ≠ [] → ∀ k, (Value.slice ap zs.length cp).ownBlock = some k → k < W.heap.size := fun hne k hk => by
                  rcases hbz with ⟨e, _⟩ | ⟨_, b', off', cap', e, _, _, hcc⟩
                  · exact absurd e hne
                  · injection e with e1 e2 e3
                    subst e1
                    have hk' : b' = k := by simpa [Value.ownBlock] using hk
                    subst hk'
                    exact World.block_lt_of_cell? W _ (hcc 0 (List.length_pos_iff.2 hne))
                have HAP := hid_into hapb
                generalize nameN [97] A = nm at *
                obtain ⟨hr2, hbs2⟩ := HR.out w2.drew hB2.drew
                have C1 := pWrite hP2.d nm (by simp [maxLen]; omega) ap cp zs hbs2 hbyz
                have hS2 : w2.drew.cell? ⟨pb, 0, none⟩ = some (.pointer (some ⟨sb, 0, none⟩)) ∧ w2.drew.cell? ⟨pb, 1, none⟩ = some (.pointer (some ⟨wb, 0, none⟩)) ∧ w2.drew.cell? ⟨b, off + j, none⟩ = some (.slice ap zs.length cp) := ⟨hP2.p.cell 0, hP2.p.cell 1, hr2⟩
                have HP2 := hid_into hP2
                have HB2 := hid_into hB2
                clear CN hP2 hr2 hbs2 hPa hB2 hB hb2 cN cN' hcell hapb hbz hn
                go_wp2_with fail
                go_region_held3 (fun y => y.cell? ⟨pb, 0, none⟩ = some (.pointer (some ⟨sb, 0, none⟩)) ∧ y.cell? ⟨pb, 1, none⟩ = some (.pointer (some ⟨wb, 0, none⟩)) ∧ y.cell? ⟨b, off + j, none⟩ = some (.slice ap zs.length cp)) (assumption)
                  (first | (go_at_call 29; refine C1.mono ?_; rintro e w3 ⟨rfl, hr3⟩; obtain ⟨⟨D3, hP3⟩, hg3⟩ := HP2.out.pcall (B := W.heap.size) HB2.out.size hr3; have hB3 : Below W.heap.size W w3 := HB2.out.drew.trans (Below.of_grows hg3 (fun j e => e.1) HB2.out.size); have hS3 : w3.cell? ⟨pb, 0, none⟩ = some (.pointer (some ⟨sb, 0, none⟩)) ∧ w3.cell? ⟨pb, 1, none⟩ = some (.pointer (some ⟨wb, 0, none⟩)) ∧ w3.cell? ⟨b, off + j, none⟩ = some (.slice ap zs.length cp) := ⟨hP3.p.cell 0, hP3.p.cell 1, (HR.out w3 hB3).1⟩))
                have hP3' : Pa w3.drew W.heap.size pb sb wb lv xv D3 G (u.five [nm] (wrU nm zs u.room)).2 u := hP3.below (Below.refl _ _).drew
                have C2 := qWrite hP3'.q hg nm (by omega) ap cp zs (HR.out w3.drew hB3.drew).2 hbyz (fun hne k hk hG => by have h1 := HAP.out hne k hk; have h2 := (hP3'.lo k (Or.inr hG)).1; omega) (by omega)
                have hS3d : w3.drew.cell? ⟨pb, 0, none⟩ = some (.pointer (some ⟨sb, 0, none⟩)) ∧ w3.drew.cell? ⟨pb, 1, none⟩ = some (.pointer (some ⟨wb, 0, none⟩)) ∧ w3.drew.cell? ⟨b, off + j, none⟩ = some (.slice ap zs.length cp) := ⟨hP3'.p.cell 0, hP3'.p.cell 1, (HR.out w3.drew hB3.drew).1⟩
                have HP3 := hid_into hP3'
                have HB3 := hid_into hB3
                clear C1 hS2 hS3 hP3 hP3' hr3 hg3 hB3
                go_wp2_with fail
                go_region_held3 (fun y => y.cell? ⟨pb, 0, none⟩ = some (.pointer (some ⟨sb, 0, none⟩)) ∧ y.cell? ⟨pb, 1, none⟩ = some (.pointer (some ⟨wb, 0, none⟩)) ∧ y.cell? ⟨b, off + j, none⟩ = some (.slice ap zs.length cp)) (assumption)
                  (first | (go_at_call 30; refine C2.mono ?_; rintro e w4 ⟨rfl, hr4⟩; obtain ⟨⟨G4, hP4⟩, hg4⟩ := HP3.out.qcall (B := W.heap.size) HB3.out.size hr4; have hB4 : Below W.heap.size W w4 := HB3.out.drew.trans (Below.of_grows hg4 (fun j e => e.1) HB3.out.size); have hS4 : w4.cell? ⟨pb, 0, none⟩ = some (.pointer (some ⟨sb, 0, none⟩)) ∧ w4.cell? ⟨pb, 1, none⟩ = some (.pointer (some ⟨wb, 0, none⟩)) ∧ w4.cell? ⟨b, off + j, none⟩ = some (.slice ap zs.length cp) := ⟨hP4.p.cell 0, hP4.p.cell 1, (HR.out w4 hB4).1⟩))
                have HW4 : Hid (Wr W pb sb wb lv xv (u.five [nm] (wrU nm zs u.room)).2 w4) := ⟨hq2, hB4, _, _, hP4⟩
                clear C2 hS3d hS4 hP4 hr4 hg4 hB4 HP2 HP3 HB2 HB3
                go_wp2_with fail
                go_roundw
                case rel => exact ⟨j + 1, _, by omega, by go_num, HW4.out⟩
                case measure => simp [intOf]; omega
              · have f3 : ¬ ((j : Int) < (rs.length : Int)) := by omega
                have C1 := open_two hPa hq.nl (by rw [hq.room]; decide) hq.left (HC.out.below hB)
                have HB := hid_into hB
                clear hPa hB hq HW1 hnc hrs
                go_wp2_with fail
                refine C1.mono ?_
                rintro e w2 ⟨rfl, hb2, hl2, lb2, xb2, sz2, hH2⟩
                have hB2 := HB.out.trans hb2
                have C2 := stood_any hH2
                have HH2 := hid_into hH2
                clear C1 hH2 hb2
                go_wp2_with fail
                refine C2.mono ?_
                rintro e w3 ⟨rfl, hb3⟩
                have hB3 := hB2.trans (hb3.mono hB2.size)
                obtain ⟨D3, G3, hP3, hn3, hr3⟩ := (HH2.out.below hb3).pa
                have C3 := open_two hP3 hn3 hr3 hl2 (HC.out.below hB3)
                clear C2 HH2 hb3 hP3 hB2
                go_wp2_with fail
                refine C3.mono ?_
                rintro e w4 ⟨rfl, hb4, _, lb4, xb4, sz4, hH4⟩
                have hB4 := hB3.trans hb4
                have C4 := stood_any hH4
                clear C3 hH4 hb4 hB3
                go_wp2_with fail
                refine C4.mono ?_
                rintro e w5 ⟨rfl, hb5⟩
                have hB5 := hB4.trans (hb5.mono hB4.size)
                have C5 := known_any w5 (HC.out.tight hB5)
                clear C4 hb5 hB4
                go_wp2_with fail
                refine C5.mono ?_
                rintro e w6 ⟨rfl, hb6⟩
                have hB6 := hB5.trans (hb6.mono hB5.size)
                clear C5
                go_wp2_with fail
                go_ret
                exact ⟨rfl, hB6⟩
          · clear CS
            go_wp2_with fail
            refine CK.mono ?_
            rintro e w1 ⟨rfl, hb1⟩
            go_wp2_with fail
            go_ret
            exact ⟨rfl, hb1⟩
        · clear CS
          go_wp2_with fail
          refine CK.mono ?_
          rintro e w1 ⟨rfl, hb1⟩
          go_wp2_with fail
          go_ret
          exact ⟨rfl, hb1⟩
    · clear CS
      by_cases hlt : i < rs.length
      · go_wp2_with fail
        refine CK.mono ?_
        rintro e w1 ⟨rfl, hb1⟩
        go_wp2_with fail
        go_ret
        exact ⟨rfl, hb1⟩
      · go_wp2_with fail
        refine CK.mono ?_
        rintro e w1 ⟨rfl, hb1⟩
        go_wp2_with fail
        go_ret
        exact ⟨rfl, hb1⟩
end Go.Proofs.YtnkjhooeklodcaaGreatDoor
end
