/-
  DiskPlays: stood, by contract.
-/
import Derived.Test.YthkgmnmdojmfgaaPlayDc
namespace Go.Proofs.Ythkgmnmdojmfgaa
open Go.RowKit Go.Maps Go.Sort
variable {w w' : World} {F G : Nat → Prop} {sb wb : Nat} {u v : Ud}

theorem lkU_at {us : Us} {i : Nat} {x : Nm} (h : (us.map (·.1))[i]? = some x) : rdE us x = 0 := by
  rw [List.getElem?_map] at h
  obtain ⟨p, hp, rfl⟩ := Option.map_eq_some_iff.1 h
  unfold rdE
  cases hl : lkU us p.1 with
  | some g => rfl
  | none => exact absurd rfl (lkU_none' hl p (List.mem_of_getElem? hp))
set_option maxHeartbeats 3200000 in
set_option maxRecDepth 20000 in
theorem stood_any (h : T2 w F G sb wb u u) :
    Calls Try.prog 18 #[.pointer (some ⟨sb, 0, none⟩), .pointer (some ⟨wb, 0, none⟩)] w fun e w' => e = .returned (.bool true) ∧ Below w.heap.size w w' := by
  have hg := h.p.good
  have hcnt : (u.us.map (·.1)).length ≤ 4096 := by simpa using hg.cnt
  have hat : ∀ (i : Nat) (x : Nm), (u.us.map (·.1))[i]? = some x → rdE u.us x = 0 := fun i x => lkU_at (i := i) (x := x)
  have hnl : ∀ (i : Nat) (x : Nm), (u.us.map (·.1))[i]? = some x → x.length ≤ maxLen := fun i x hx => by
    rw [List.getElem?_map] at hx
    obtain ⟨p, hp, rfl⟩ := Option.map_eq_some_iff.1 hx
    exact (hg.each p (List.mem_of_getElem? hp)).2.2
  have CN := qNames h.q
  have CM := fun (W : World) (hW : Pd W F sb u) => pNames hW
  have CU := fun (W : World) (hW : Pd W F sb u) => pUsed hW
  have CV := fun (W : World) (hW : Qd W G wb u) => qUsed hW hg
  have CP := fun (W : World) (hW : Pd W F sb u) (x : Nm) (hx : x.length ≤ maxLen) => pRead hW x hx
  have CQ := fun (W : World) (hW : Qd W G wb u) (x : Nm) => qRead hW hg x
  have hee : ∀ zs : List Int, eqB zs zs = true := fun zs => by simp [eqB]
  generalize u.us.map (·.1) = ns at *
  generalize totU u.us = tt at *
  have HA : Hid (∀ (i : Nat) (x : Nm), ns[i]? = some x → rdE u.us x = 0) := hat
  have HL := hid_into hnl
  have HH := hid_into h
  clear hat hnl
  go_enter Try.func18, Try.ntmps18
  go_wp2_with (first
    | (go_at_call 45; refine CN.mono ?_; rintro e w1 ⟨v1, rfl, ho1, hB1⟩; have hT1 := h.to hB1)
    | (go_at_call 25; refine (CM _ hT1.p).mono ?_; rintro e w2 ⟨v2, rfl, ho2, hB2⟩; have hT2 := hT1.to hB2; have hs1 : St w2 v1 ns := (St_row ho1).below hB2; have hs2 : St w2 v2 ns := St_row ho2)
    | (go_at_call 28; refine (texts_same v2 v1 ns w2 hs2 hs1 (by omega)).mono ?_; rintro e w3 ⟨rfl, hs3⟩; have hT3 := hT2.sm hs3)
    | (go_at_call 26; refine (CU _ hT3.p).mono ?_; rintro e w4 ⟨rfl, hw4⟩; replace hw4 := hw4.symm; subst hw4)
    | (go_at_call 46; refine (CV _ hT3.q).mono ?_; rintro e w5 ⟨rfl, hw5⟩; replace hw5 := hw5.symm; subst hw5))
  have hs4 := hs1.sm hs3
  have hB4 : Below w.heap.size w w3 := (hB1.trans (hB2.mono hB1.size)).trans (hs3.below _)
  obtain ⟨ao1, cap1, rfl, hc1⟩ := hs4
  have HB4 := hid_into hB4
  have HC := hid_into hc1
  have HLT : Hid (∀ b off, ao1 = some ⟨b, off, none⟩ → ns ≠ [] → b < w3.heap.size) := fun b off e hne => by
    obtain ⟨b', off', e1, hc⟩ := hc1 hne
    rw [e] at e1
    cases e1
    obtain ⟨x, hx⟩ : ∃ x, ns[0]? = some x := ⟨_, List.getElem?_eq_getElem (List.length_pos_iff.2 hne)⟩
    exact World.block_lt_of_cell? w3 _ (hc 0 x hx)
  clear hB4 hc1 hs1 hs2 ho1 ho2 hT1 hT2 hT3 CN CM CU CV
  go_wp2_with fail
  go_loopw [6, 7, 8, 9, 10] (fun iv _ _ _ _ wr => ∃ i : Nat, i ≤ ns.length ∧ iv = .int .i64 (i : Int) ∧ Below w3.heap.size w3 wr) (fun iv _ _ _ _ _ => ns.length - (intOf iv).toNat)
  case atStart => exact ⟨0, Nat.zero_le _, rfl, Below.refl _ _⟩
  case round =>
    obtain ⟨i, hi, rfl, hBr⟩ := hrel
    by_cases hlt : i < ns.length
    · obtain ⟨x, hx⟩ : ∃ x, ns[i]? = some x := ⟨_, List.getElem?_eq_getElem hlt⟩
      have hne : ns ≠ [] := fun e => by rw [e] at hlt; simp at hlt
      obtain ⟨b, off, rfl, hcell⟩ := HC.out hne
      have hbl := HLT.out b off rfl hne
      have hcx := cell_below hBr (hcell i x hx) hbl
      have hT := h.to (HB4.out.trans (hBr.mono HB4.out.size))
      have hr0 := HA.out i x hx
      have hxl := HL.out i x hx
      have C1 := CP _ hT.p x hxl
      have C2 := fun (W : World) (hW : Qd W G wb u) => CQ W hW x
      rw [hr0] at C1
      have hzl : (at0U u.us x).1.length ≤ 1073741824 := by
        unfold at0U
        cases hl : lkU u.us x with
        | none => simp
        | some g => exact hg.len hl
      generalize (at0U u.us x).1 = zs at *
      generalize rdE u.us x = er at *
      have hzz := hee zs
      have f1 : (0 : Int) ≤ (i : Int) := by omega
      have f2 : (i : Int) < (ns.length : Int) := by omega
      clear hcell hx CP CQ
      go_wp2_with (first
        | (go_at_call 20; refine C1.mono ?_; rintro e w6 ⟨ao6, cap6, rfl, ho6, hB6⟩; have hT6 := hT.to hB6; have hcx6 := cell_below hB6 hcx (by have := hBr.size; omega))
        | (go_at_call 44; refine (C2 _ hT6.q).mono ?_; rintro e w7 ⟨ao7, cap7, rfl, ho7, hB7⟩; have ho6' := ownsRow_below ho6 hB7)
        | (go_at_call 27; refine (same_any _ _ zs zs _ (by exact Ow.bs ho6') ho7.bs).mono ?_; rw [hzz]; rintro e w8 ⟨rfl, hs8⟩))
      have hB8 : Below w3.heap.size w3 w8 := ((hBr.trans (hB6.mono hBr.size)).trans (hB7.mono (Nat.le_trans hBr.size hB6.size))).trans (hs8.below _)
      go_roundw
      case rel => exact ⟨i + 1, by omega, by go_num, hB8⟩
      case measure => simp [intOf]; omega
    · have f2 : ¬ ((i : Int) < (ns.length : Int)) := by omega
      have hB9 := HB4.out.trans (hBr.mono HB4.out.size)
      go_wp2_with fail
      go_ret
      exact ⟨rfl, hB9⟩
end Go.Proofs.Ythkgmnmdojmfgaa
