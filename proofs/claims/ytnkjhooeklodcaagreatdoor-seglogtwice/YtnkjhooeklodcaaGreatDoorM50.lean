/-
  Joined from: SegTwi, SegHu, SegKe.
-/
import Derived.Test.YtnkjhooeklodcaaGreatDoorM49
import Derived.Test.YtnkjhooeklodcaaGreatDoorM47
import Derived.Test.YtnkjhooeklodcaaGreatDoorM28
section
/-
  SeglogTwice's plain facts: where all bytes last a crash changes nothing; what an opening with a fuse leaves reads as what it read itself. No walk.
-/
namespace Go.Proofs.YtnkjhooeklodcaaGreatDoor
open Go.RowKit Go.Maps Go.Sort
open Fr (takeR decN decE decP headE heldN numR fourV sumOf)

theorem headE_take {zs : List Int} {m : Nat} (hm : 8 ≤ m) (h : headE zs = 0) : headE (zs.take m) = 0 ∧ heldN (zs.take m) = heldN zs := by
  obtain ⟨h8, h2, h3⟩ := Fr.headE_inv h
  have e4 : (zs.take m).take 4 = zs.take 4 := by rw [List.take_take, Nat.min_eq_left (by omega)]
  have e8 : ((zs.take m).drop 4).take 4 = (zs.drop 4).take 4 := by rw [List.drop_take, List.take_take, Nat.min_eq_left (by omega)]
  refine ⟨Fr.headE_good (by rw [List.length_take]; omega) (by rw [e4, e8]; exact h2) (by rw [e4]; omega), ?_⟩
  unfold Fr.heldN
  rw [e4]
theorem takeR_take {n : Int} {zs p : List Int} {m : Nat} (h : takeR n zs = some p) (hm : decN zs ≤ m) : takeR n (zs.take m) = some p ∧ decN (zs.take m) = decN zs := by
  have hc : decE zs = 0 ∧ (numR 10 0 0 (decP zs)).1 = n := by
    apply Classical.byContradiction
    intro e
    unfold Fr.takeR at h
    rw [if_neg e] at h
    cases h
  obtain ⟨hE, hN⟩ := hc
  obtain ⟨hh, hl⟩ := Fr.decE_inv hE
  have hd := Fr.decN_good hE
  obtain ⟨g1, g2⟩ := headE_take (m := m) (by omega) hh
  have hs : ((sumOf (zs.take (8 + heldN zs)) : Nat) : Int) = fourV ((zs.drop (8 + heldN zs)).take 4) := by
    apply Classical.byContradiction
    intro e
    rw [Fr.decE_sum hh (by omega) e] at hE
    cases hE
  have hE' : decE (zs.take m) = 0 := by
    refine Fr.decE_good g1 (by rw [g2, List.length_take]; omega) ?_
    rw [g2, List.take_take, Nat.min_eq_left (by omega), List.drop_take, List.take_take, Nat.min_eq_left (by omega)]
    exact hs
  have hP : decP (zs.take m) = decP zs := by
    rw [Fr.decP_good hE', Fr.decP_good hE, g2, List.drop_take, List.take_take, Nat.min_eq_left (by omega)]
  refine ⟨?_, by rw [Fr.decN_good hE', g2, hd]⟩
  unfold Fr.takeR at h ⊢
  rw [if_pos ⟨hE, hN⟩] at h
  rw [hP, if_pos ⟨hE', hN⟩]
  exact h
theorem Tk.front : ∀ {ps : List (List Int)} {n : Nat} {zs : List Int} {m : Nat}, Tk n zs ps m → ∀ k, m ≤ k → Tk n (zs.take k) ps m
  | [], _, _, _, h, _, _ => h
  | p :: ps, n, zs, m, h, k, hk => by
    obtain ⟨h1, h2, h3⟩ := h
    obtain ⟨g1, g2⟩ := takeR_take h1 (Nat.le_trans h2 hk)
    refine ⟨g1, by rw [g2]; exact h2, ?_⟩
    rw [g2, List.drop_take]
    exact Tk.front h3 _ (by omega)
theorem rdF_cut (n : Nat) (zs : List Int) : rdF n (zs.take (rdF n zs).2) = rdF n zs := by
  obtain ⟨h1, _⟩ := rdF_spec n zs
  obtain ⟨k1, k2⟩ := rdF_spec n (zs.take (rdF n zs).2)
  have h2 := h1.front _ (Nat.le_refl _)
  have e := Tk.uniq k1 k2 h2 (by
    rw [List.drop_eq_nil_of_le (by rw [List.length_take]; omega)]
    exact takeR_nil _)
  exact Prod.ext e.1 e.2
def Sat (us : Us) : Prop := ∀ p ∈ us, p.2.2 = p.2.1.length
theorem lkU_in {us : Us} {x : Nm} {f : List Int × Nat} (h : lkU us x = some f) : (x, f) ∈ us := by
  induction us with
  | nil => cases h
  | cons p us ih =>
    rw [lkU_cons] at h
    by_cases e : p.1 = x
    · rw [if_pos e] at h
      have := Option.some.inj h
      subst e this
      exact List.mem_cons_self
    · rw [if_neg e] at h
      exact List.mem_cons_of_mem _ (ih h)
theorem crA_same {p : Nm × List Int × Nat} (h : p.2.2 = p.2.1.length) (k : Nat) (t : Int) : crA k t p = p := by
  obtain ⟨x, zs, l⟩ := p
  obtain rfl : l = zs.length := h
  have hn : crN zs zs.length k = zs.length := by unfold crN; rw [Nat.sub_self, Nat.zero_add, Nat.mod_one, Nat.add_zero]
  have hm : zs.length ≤ crM zs zs.length k := Nat.le_max_left _ _
  have hb : crB zs zs.length k t = zs := by
    unfold crB
    rw [hn, List.take_length]
    unfold xq
    apply List.ext_getElem
    · rw [List.length_mapIdx]
    · intro j h1 h2
      rw [List.getElem_mapIdx, if_neg (by omega)]
  show (x, crB zs zs.length k t, crN zs zs.length k) = _
  rw [hn, hb]
theorem Sat.crash {us : Us} (h : Sat us) (k : Nat) (t : Int) : us.map (crA k t) = us := by
  induction us with
  | nil => rfl
  | cons p us ih =>
    rw [List.map_cons, crA_same (h p List.mem_cons_self), ih fun q hq => h q (List.mem_cons_of_mem _ hq)]
theorem sat_crashed {us : Us} (h : ∀ p ∈ us, p.2.2 ≤ p.2.1.length) (k : Nat) (t : Int) : Sat (us.map (crA k t)) := by
  intro q hq
  obtain ⟨p, hp, rfl⟩ := List.mem_map.1 hq
  show crN p.2.1 p.2.2 k = (crB p.2.1 p.2.2 k t).length
  have := crN_le p.2.1 p.2.2 k (h p hp)
  unfold crB
  rw [xq_length, List.length_take]
  omega
theorem ptU_same {us : Us} {x : Nm} {f : List Int × Nat} (h : RisU us) (hl : lkU us x = some f) : ptU us x f = us := by
  obtain ⟨h1, _, h3⟩ := spot_some_of h hl
  rw [h3]
  apply List.ext_getElem?
  intro i
  rw [List.getElem?_set]
  split
  · rename_i e
    subst e
    split
    · exact h1.symm
    · rename_i hlt
      exact absurd (List.getElem?_eq_some_iff.1 h1).1 hlt
  · rfl
theorem ptU_names {us : Us} {x : Nm} {f g : List Int × Nat} (h : RisU us) (hl : lkU us x = some f) : (ptU us x g).map (·.1) = us.map (·.1) := by
  obtain ⟨h1, _, h3⟩ := spot_some_of h hl
  rw [h3, List.map_set]
  apply List.ext_getElem?
  intro i
  rw [List.getElem?_set]
  split
  · rename_i e
    subst e
    rw [List.getElem?_map, h1]
    have := (List.getElem?_eq_some_iff.1 h1).1
    simp [this]
  · rfl
theorem five_us2 (u : Ud) (ns : List (List UInt8)) (f : Us → Int × Us) : (u.five ns f).2.us = u.us ∨ (u.five ns f).2.us = (f u.us).2 := by
  unfold Ud.five
  split
  · exact Or.inl rfl
  · exact Or.inr rfl
theorem allU_sync : ∀ (xs : List Nm) (u : Ud), RisU u.us → Sat u.us → (allU syU u xs).2.us = u.us
  | [], _, _, _ => rfl
  | x :: xs, u, hr, hs => by
    have h1 : (u.five [x] (syU x)).2.us = u.us := by
      rcases five_us2 u [x] (syU x) with e | e
      · exact e
      · rw [e]
        unfold syU
        cases hl : lkU u.us x with
        | none => rfl
        | some f =>
          have hf : f.2 = f.1.length := hs _ (lkU_in hl)
          show ptU u.us x (f.1, f.1.length) = _
          rw [← hf]
          exact ptU_same hr hl
    by_cases h0 : (u.five [x] (syU x)).1 = 0
    · rw [allU_ok h0, allU_sync xs _ (by rw [h1]; exact hr) (by rw [h1]; exact hs), h1]
    · rw [allU_err h0]
      exact h1
def Left2 (pre : List UInt8) (us us2 : Us) (n : Nat) : Prop :=
  us2 = us ∨ (us2 = dlU us (nameN pre (n + 1)) ∧ (rdF n (at0U us (nameN pre (n + 1))).1).1 = []) ∨
  ∃ f, lkU us (nameN pre (n + 1)) = some f ∧ us2 = ptU us (nameN pre (n + 1)) (f.1.take (rdF n f.1).2, (f.1.take (rdF n f.1).2).length)
theorem opF_left (pre : List UInt8) (u : Ud) (n : Nat) (hn : n ≤ 9000000) (hs : Sat u.us) : Left2 pre u.us (opF pre u [nameN pre (n + 1)] (n + 1)).1.2.us n := by
  obtain ⟨h1, _⟩ := rdF_spec n (at0U u.us (nameN pre (n + 1))).1
  have hv := numV_name pre (show n + 1 < 100000000 by omega)
  have hle := h1.le
  by_cases h2 : (rdF n (at0U u.us (nameN pre (n + 1))).1).2 = (at0U u.us (nameN pre (n + 1))).1.length
  · refine Or.inl ?_
    rw [opF, Nat.add_sub_cancel, if_pos ⟨hv, h2⟩]
    rfl
  · have e0 : allU rmU u ([] : List Nm).reverse = (0, u) := rfl
    rw [opF, Nat.add_sub_cancel, if_neg (fun e => h2 e.2), e0, if_neg (fun e => e rfl)]
    by_cases h3 : (rdF n (at0U u.us (nameN pre (n + 1))).1).2 = 0
    · rw [if_pos (Or.inr h3)]
      rw [h3] at h1
      rcases five_us2 u [nameN pre (n + 1)] (rmU (nameN pre (n + 1))) with e | e
      · exact Or.inl e
      · show Left2 pre u.us (u.five [nameN pre (n + 1)] (rmU (nameN pre (n + 1)))).2.us n
        rw [e]
        unfold rmU
        cases hl : lkU u.us (nameN pre (n + 1)) with
        | none => exact Or.inl rfl
        | some f => exact Or.inr (Or.inl ⟨rfl, Tk.zero h1⟩)
    · rw [if_neg (fun e => by rcases e with e | e; exact e hv; exact h3 e)]
      rcases five_us2 u [nameN pre (n + 1)] (cuU (nameN pre (n + 1)) ((rdF n (at0U u.us (nameN pre (n + 1))).1).2 : Int)) with e | e
      · exact Or.inl e
      · show Left2 pre u.us (u.five [nameN pre (n + 1)] (cuU (nameN pre (n + 1)) ((rdF n (at0U u.us (nameN pre (n + 1))).1).2 : Int))).2.us n
        rw [e]
        unfold cuU
        cases hl : lkU u.us (nameN pre (n + 1)) with
        | none => exact Or.inl rfl
        | some f =>
          have hf : f.2 = f.1.length := hs _ (lkU_in hl)
          have ha : (at0U u.us (nameN pre (n + 1))).1 = f.1 := by rw [at0U_of hl]
          rw [ha] at hle ⊢
          refine Or.inr (Or.inr ⟨f, hl, ?_⟩)
          show (if ((rdF n f.1).2 : Int) < 0 ∨ (f.1.length : Int) < ((rdF n f.1).2 : Int) then (1, u.us) else (0, ptU u.us (nameN pre (n + 1)) (f.1.take ((rdF n f.1).2 : Int).toNat, min f.2 ((rdF n f.1).2 : Int).toNat))).2 = _
          rw [if_neg (by omega), Int.toNat_natCast, List.length_take, hf, Nat.min_comm]
theorem Sat.pt {us : Us} (hr : RisU us) (h : Sat us) (x : Nm) (zs : List Int) : Sat (ptU us x (zs, zs.length)) := by
  intro p hp
  have h1 := lkU_of_mem (hr.pt x (zs, zs.length)) hp
  rw [lkU_pt] at h1
  by_cases e : p.1 = x
  · rw [if_pos e] at h1
    rw [← Option.some.inj h1]
  · rw [if_neg e] at h1
    exact h _ (lkU_in h1)
theorem Left2.sat {pre : List UInt8} {us us2 : Us} {n : Nat} (h : Left2 pre us us2 n) (hr : RisU us) (hs : Sat us) : RisU us2 ∧ Sat us2 := by
  rcases h with rfl | ⟨rfl, _⟩ | ⟨f, _, rfl⟩
  · exact ⟨hr, hs⟩
  · exact ⟨hr.dl _, fun p hp => hs p (List.mem_filter.1 hp).1⟩
  · exact ⟨hr.pt _ _, hs.pt hr _ _⟩
theorem openF_left {pre : List UInt8} {u : Ud} {ds : List (List (List Int))} (hds : Seg pre u.us 0 ds) (he : ∀ d ∈ ds, ∀ p ∈ d, Epl p) (hn : ds.flatten.length ≤ 8000000) (hs : segsN (u.us.map (·.1)) pre = namesN pre (strt 0 ds ++ [ds.flatten.length + 1])) (hr : RisU u.us) (hsat : Sat u.us) :
    Left2 pre u.us (openF pre u).1.2.us ds.flatten.length := by
  have h2 := opF_whole pre u (namesN pre [ds.flatten.length + 1]) ds 0 hds he (by omega)
  rw [Nat.zero_add, Nat.zero_add, ← namesN_app] at h2
  have h3 := opF_left pre u ds.flatten.length (by omega) hsat
  have h4 : (opF pre u (segsN (u.us.map (·.1)) pre) 1).1 = (opF pre u [nameN pre (ds.flatten.length + 1)] (ds.flatten.length + 1)).1 := by rw [hs, h2]; rfl
  unfold openF
  rw [h4]
  split
  · show Left2 pre u.us (opF pre u (segsN (u.us.map (·.1)) pre) 1).1.2.us _
    rw [h4]
    exact h3
  · obtain ⟨k1, k2⟩ := h3.sat hr hsat
    show Left2 pre u.us (allU syU _ _).2.us _
    rw [allU_sync _ _ k1 k2]
    exact h3
theorem Left2.read {pre : List UInt8} {us us2 : Us} {ds : List (List (List Int))} (h : Left2 pre us us2 ds.flatten.length) (hds : Seg pre us 0 ds) (he : ∀ d ∈ ds, ∀ p ∈ d, Epl p) (hn : ds.flatten.length ≤ 8000000) (hs : segsN (us.map (·.1)) pre = namesN pre (strt 0 ds ++ [ds.flatten.length + 1])) (hr : RisU us) (room left : Int) :
    (openF pre ⟨room, us2, left⟩).2.1 = ds.flatten ++ (rdF ds.flatten.length (at0U us (nameN pre (ds.flatten.length + 1))).1).1 := by
  have hne : ∀ m ∈ strt 0 ds, nameN pre m ≠ nameN pre (ds.flatten.length + 1) := fun m hm e => by
    have h1 := strt_lt ds 0 hds m hm
    have := nameN_inj (by omega) (by omega) e
    omega
  rcases h with rfl | ⟨rfl, h0⟩ | ⟨f, hf, rfl⟩
  · exact openF_last (u := ⟨room, us2, left⟩) hds he hn hs
  · have hnm : segsN ((dlU us (nameN pre (ds.flatten.length + 1))).map (·.1)) pre = namesN pre (strt 0 ds) := by
      have e1 : segsN ((dlU us (nameN pre (ds.flatten.length + 1))).map (·.1)) pre = (segsN (us.map (·.1)) pre).filter fun y => !(y == nameN pre (ds.flatten.length + 1)) := by
        unfold segsN dlU
        rw [List.filter_filter, List.filter_map, List.filter_map, List.filter_filter]
        congr 1
        apply List.filter_congr
        intro p _
        simp [Function.comp, Bool.and_comm]
      rw [e1, hs, namesN_app, List.filter_append]
      have e2 : (namesN pre (strt 0 ds)).filter (fun y => !(y == nameN pre (ds.flatten.length + 1))) = namesN pre (strt 0 ds) := by
        apply List.filter_eq_self.2
        intro y hy
        obtain ⟨m, hm, rfl⟩ := List.mem_map.1 hy
        simpa using hne m hm
      rw [e2]
      simp [namesN]
    have hds2 : Seg pre (dlU us (nameN pre (ds.flatten.length + 1))) 0 ds := hds.alike _ _ fun m hm => by
      unfold at0U
      rw [lkU_dl, if_neg (hne m hm)]
      exact ⟨rfl, rfl⟩
    have h1 : ∀ u : Ud, (openF pre u).2 = (opF pre u (segsN (u.us.map (·.1)) pre) 1).2 := fun u => by
      unfold openF
      split <;> rfl
    have h2 := opF_whole pre ⟨room, dlU us (nameN pre (ds.flatten.length + 1)), left⟩ [] ds 0 hds2 he (by omega)
    rw [List.append_nil, Nat.zero_add, Nat.zero_add] at h2
    rw [h1, hnm, h2, h0]
    rfl
  · have hds2 : Seg pre (ptU us (nameN pre (ds.flatten.length + 1)) (f.1.take (rdF ds.flatten.length f.1).2, (f.1.take (rdF ds.flatten.length f.1).2).length)) 0 ds := hds.alike _ _ fun m hm => by
      unfold at0U
      rw [lkU_pt, if_neg (hne m hm)]
      exact ⟨rfl, rfl⟩
    rw [openF_last (u := ⟨room, ptU us (nameN pre (ds.flatten.length + 1)) (f.1.take (rdF ds.flatten.length f.1).2, (f.1.take (rdF ds.flatten.length f.1).2).length), left⟩) hds2 he hn (by show segsN ((ptU us _ _).map (·.1)) pre = _; rw [ptU_names hr hf]; exact hs)]
    show ds.flatten ++ (rdF ds.flatten.length (at0U (ptU us _ _) _).1).1 = _
    rw [at0U_pt, at0U_of hf]
    show ds.flatten ++ (rdF ds.flatten.length (f.1.take (rdF ds.flatten.length f.1).2)).1 = _
    rw [rdF_cut]
theorem Kq.twice {pre : List UInt8} {u : Ud} {ps : List (List Int)} {las : Nat} {ss : List Nat} {cs : List (List (List Int))} (h : Kq pre u.us ps las ss cs) (hn : ps.length ≤ 8000000) (ho : ∀ x, isSeg x pre = true → (lkU u.us x).isSome = true → ∃ n ∈ ss, x = nameN pre n) (hl : ∀ p ∈ u.us, p.2.2 ≤ p.2.1.length) (keep t fuse again : Int) :
    (openF pre ((openF pre ((u.crash keep t).fuse fuse)).1.2.crash again 0)).2.1 = (openF pre (u.crash keep t)).2.1 := by
  have hw := h.wh
  have hpe := hw.pe
  have hse := hw.se
  have hseg := segs_found hw.ris hw.seg (by rw [← hpe]; omega) (fun x h1 h2 => by rw [← hse]; exact ho x h1 h2) (Seg.all cs 0 hw.seg)
  have hnm : (u.crash keep t).us.map (·.1) = u.us.map (·.1) := by
    show (u.us.map (crA keep.toNat t)).map (·.1) = _
    rw [List.map_map]
    rfl
  have hsat : Sat (u.crash keep t).us := sat_crashed hl _ _
  have hris : RisU (u.crash keep t).us := by
    show (u.us.map (crA keep.toNat t)).Pairwise _
    rw [List.pairwise_map]
    exact hw.ris
  have hcr : ∀ v : Ud, Sat v.us → v.crash again 0 = ⟨v.room, v.us, -1⟩ := fun v hv => by
    show (⟨v.room, v.us.map (crA again.toNat 0), -1⟩ : Ud) = _
    rw [hv.crash]
  rcases List.eq_nil_or_concat cs with rfl | ⟨ds, c, rfl⟩
  · have h1 : ∀ v : Ud, v.us = (u.crash keep t).us → (openF pre v).2.1 = [] ∧ (openF pre v).1.2.us = v.us := fun v hv => by
      have e : segsN (v.us.map (·.1)) pre = [] := by rw [hv, hnm]; exact hseg
      unfold openF
      rw [e]
      exact ⟨rfl, rfl⟩
    obtain ⟨_, k2⟩ := h1 ((u.crash keep t).fuse fuse) rfl
    have k3 : (openF pre ((u.crash keep t).fuse fuse)).1.2.us = (u.crash keep t).us := k2
    rw [hcr _ (by rw [k3]; exact hsat), (h1 (u.crash keep t) rfl).1]
    exact (h1 ⟨_, _, -1⟩ k3).1
  · rw [List.concat_eq_append] at *
    obtain ⟨hd, h4⟩ := (Seg_append ds [c] 0).1 hw.seg
    rw [Nat.zero_add] at h4
    have hlp : ps.length = ds.flatten.length + c.length := by rw [hpe]; simp
    have hla : lastS ss = ds.flatten.length + 1 := by rw [hse]; exact lastS_strt ds _
    have hst : strt 0 (ds ++ [c]) = strt 0 ds ++ [ds.flatten.length + 1] := by rw [strt_append]; simp [strt]
    have hdc : Seg pre (u.crash keep t).us 0 ds := hd.crash (fun m hm => hw.old m (by rw [hst]; simp [hm]) (fun e => by
      have := strt_lt ds 0 hd m hm
      omega)) _ _
    have hE : ∀ d ∈ ds, ∀ p ∈ d, Epl p := fun d hd' p hp' => hw.epl d (by simp [hd']) p hp'
    have hN : segsN ((u.crash keep t).us.map (·.1)) pre = namesN pre (strt 0 ds ++ [ds.flatten.length + 1]) := by rw [hnm, hseg, hst]
    have hL : Left2 pre (u.crash keep t).us (openF pre ((u.crash keep t).fuse fuse)).1.2.us ds.flatten.length := openF_left (u := (u.crash keep t).fuse fuse) hdc hE (by omega) hN hris hsat
    rw [hcr _ (hL.sat hris hsat).2, openF_last hdc hE (by omega) hN]
    exact hL.read hdc hE (by omega) hN hris _ _
end Go.Proofs.YtnkjhooeklodcaaGreatDoor
end

section
/-
  Both logs, the disks perhaps not alike (Hu); Fuse and Cut of the disks below them.
-/
namespace Go.Proofs.YtnkjhooeklodcaaGreatDoor
open Go.RowKit Go.Maps Go.Sort

variable {w w' w1 w2 : World} {B N pb sb wb lb xb : Nat} {Z D F G H : Nat → Prop} {u u' v : Ud} {es fs : List En} {las : Nat} {sz k : Nat} {dead : Bool} {ss : List Nat} {ps : List (List Int)} {l x : Value}
def Hu (w : World) (B : Nat) (Z : Nat → Prop) (pb sb wb lb xb : Nat) (u v : Ud) (ps : List (List Int)) (las : Nat) (ss : List Nat) (sz : Nat) (dead : Bool) : Prop :=
  ∃ D F G H es fs, Tq w B pb sb wb lb xb D F G H [97] u es las (namesN [97] ss) sz dead v fs ss (las + 1) dead ∧ es.map (·.2) = ps ∧ fs.map (·.2) = ps ∧ (∀ j, (D j ∨ F j) ∨ (G j ∨ H j) → Z j)
theorem Hs.hu (h : Hs w B Z pb sb wb lb xb u ps las ss sz dead k) : Hu w B Z pb sb wb lb xb u u ps las ss sz dead := by
  obtain ⟨D, F, G, H, es, fs, h1, h2, h3, h4, h5⟩ := h
  exact ⟨D, F, G, H, es, fs, h1, h2, h3, h5⟩
theorem Hs.sl (h : Hs w B Z pb sb wb lb xb u ps las ss sz dead k) : Sl [97] u ps las ss sz k := by
  obtain ⟨D, F, G, H, es, fs, h1, h2, h3, h4, h5⟩ := h
  exact h4
theorem Hu.hs (h : Hu w B Z pb sb wb lb xb u u ps las ss sz dead) (hs : Sl [97] u ps las ss sz k) : Hs w B Z pb sb wb lb xb u ps las ss sz dead k := by
  obtain ⟨D, F, G, H, es, fs, h1, h2, h3, h5⟩ := h
  exact ⟨D, F, G, H, es, fs, h1, h2, h3, hs, h5⟩
theorem Hu.below (h : Hu w B Z pb sb wb lb xb u v ps las ss sz dead) (hb : Below w.heap.size w w') : Hu w' B Z pb sb wb lb xb u v ps las ss sz dead := by
  obtain ⟨D, F, G, H, es, fs, h1, h2⟩ := h
  exact ⟨D, F, G, H, es, fs, h1.below hb, h2⟩
theorem Hu.pair (h : Hu w B Z pb sb wb lb xb u v ps las ss sz dead) : Cw w pb [.pointer (some ⟨sb, 0, none⟩), .pointer (some ⟨wb, 0, none⟩), .pointer (some ⟨lb, 0, none⟩), .pointer (some ⟨xb, 0, none⟩)] 37 := by
  obtain ⟨D, F, G, H, es, fs, h1, _⟩ := h
  exact h1.p
theorem Sl.fuse {pre : List UInt8} (h : Sl pre u ps las ss sz k) (n : Int) : Sl pre (u.fuse n) ps las ss sz k := ⟨h.szq, h.nil, h.num, h.few, h.nl, h.rm, h.seg, h.top⟩
theorem tq_pcall (h1 : Tq w B pb sb wb lb xb D F G H [97] u es las (namesN [97] ss) sz dead v fs ss (las + 1) dead) (h2 : es.map (·.2) = ps) (h3 : fs.map (·.2) = ps) (h5 : ∀ j, (D j ∨ F j) ∨ (G j ∨ H j) → Z j) (hbw : B ≤ w.heap.size) (hr : PRes D sb u' w w') : Hu w' B (fun j => Z j ∨ w.heap.size ≤ j) pb sb wb lb xb u' v ps las ss sz dead ∧ Grows (Zn B Z pb) w w' := by
  have hL : LRes w D F lb sb [97] u' es las (namesN [97] ss) sz dead w' := ⟨_, F, h1.l.disk hr, fun j e => e.1, fun j e => Or.inl e, hr.2.mono fun j e => Or.inl e⟩
  obtain ⟨⟨D', F', hT, hnew⟩, _, hg⟩ := h1.lcall2 hbw hL
  refine ⟨⟨D', F', G, H, es, fs, hT, h2, h3, fun j hj => ?_⟩, hg.mono fun j hj => ⟨⟨(h1.lo j (Or.inl hj)).1, h5 j (Or.inl hj)⟩, (h1.lo j (Or.inl hj)).2⟩⟩
  rcases hj with e | e
  · exact (hnew j e).imp (fun e => h5 j (Or.inl e)) id
  · exact Or.inl (h5 j (Or.inr e))
theorem tq_qcall {v' : Ud} (h1 : Tq w B pb sb wb lb xb D F G H [97] u es las (namesN [97] ss) sz dead v fs ss (las + 1) dead) (h2 : es.map (·.2) = ps) (h3 : fs.map (·.2) = ps) (h5 : ∀ j, (D j ∨ F j) ∨ (G j ∨ H j) → Z j) (hbw : B ≤ w.heap.size) (hr : QRes G wb v' w w') : Hu w' B (fun j => Z j ∨ w.heap.size ≤ j) pb sb wb lb xb u v' ps las ss sz dead ∧ Grows (Zn B Z pb) w w' := by
  have hL : XRes w G H xb wb [97] v' fs ss (las + 1) dead w' := XRes.disk h1.x (Below.refl _ _) hr
  obtain ⟨⟨G', H', hT, hnew⟩, _, hg⟩ := h1.xcall2 hbw hL
  refine ⟨⟨D, F, G', H', es, fs, hT, h2, h3, fun j hj => ?_⟩, hg.mono fun j hj => ⟨⟨(h1.lo j (Or.inr hj)).1, h5 j (Or.inr hj)⟩, (h1.lo j (Or.inr hj)).2⟩⟩
  rcases hj with e | e
  · exact Or.inl (h5 j (Or.inl e))
  · exact (hnew j e).imp (fun e => h5 j (Or.inr e)) id
theorem LFu2 (h : Hu w B Z pb sb wb lb xb u v ps las ss sz dead) (hbw : B ≤ w.heap.size) (n : Int) (hn : (Lit.int .i64 n).wf = true) : Calls Tryz.prog 14 #[.pointer (some ⟨sb, 0, none⟩), .int .i64 n] w fun e w' => e = .returned (.tuple #[]) ∧ Hu w' B (fun j => Z j ∨ w.heap.size ≤ j) pb sb wb lb xb (u.fuse n) v ps las ss sz dead ∧ Grows (Zn B Z pb) w w' := by
  obtain ⟨D, F, G, H, es, fs, h1, h2, h3, h5⟩ := h
  refine (pFuse h1.l.d n hn).mono ?_
  rintro e w' ⟨rfl, hp, hg⟩
  exact ⟨rfl, tq_pcall h1 h2 h3 h5 hbw ⟨hp.more fun k hk _ => Or.inl hk, hg⟩⟩
theorem XFu2 (h : Hu w B Z pb sb wb lb xb u v ps las ss sz dead) (hbw : B ≤ w.heap.size) (n : Int) : Calls Tryz.prog 15 #[.pointer (some ⟨wb, 0, none⟩), .int .i64 n] w fun e w' => e = .returned (.tuple #[]) ∧ Hu w' B (fun j => Z j ∨ w.heap.size ≤ j) pb sb wb lb xb u (v.fuse n) ps las ss sz dead ∧ Grows (Zn B Z pb) w w' := by
  obtain ⟨D, F, G, H, es, fs, h1, h2, h3, h5⟩ := h
  refine (qFuse h1.x.d n).mono ?_
  rintro e w' ⟨rfl, hp, hg⟩
  exact ⟨rfl, tq_qcall h1 h2 h3 h5 hbw ⟨hp.more fun k hk _ => Or.inl hk, hg⟩⟩
theorem LCu2 (h : Hu w B Z pb sb wb lb xb u v ps las ss sz dead) (hbw : B ≤ w.heap.size) (x : Nm) (hx : x.length ≤ maxLen) (n : Int) (hn : (Lit.int .i64 n).wf = true) : Calls Tryz.prog 41 #[.pointer (some ⟨sb, 0, none⟩), encStr x, .int .i64 n] w fun e w' => e = .returned (.int .i64 (u.five [x] (cuU x n)).1) ∧ Hu w' B (fun j => Z j ∨ w.heap.size ≤ j) pb sb wb lb xb (u.five [x] (cuU x n)).2 v ps las ss sz dead ∧ Grows (Zn B Z pb) w w' := by
  obtain ⟨D, F, G, H, es, fs, h1, h2, h3, h5⟩ := h
  refine (pCut h1.l.d x hx n hn).mono ?_
  rintro e w' ⟨rfl, hp⟩
  exact ⟨rfl, tq_pcall h1 h2 h3 h5 hbw hp⟩
theorem XCu2 (h : Hu w B Z pb sb wb lb xb u v ps las ss sz dead) (hg : Gd v) (hbw : B ≤ w.heap.size) (x : Nm) (hx : x.length ≤ 140737488355328) (n : Int) : Calls Tryz.prog 42 #[.pointer (some ⟨wb, 0, none⟩), encStr x, .int .i64 n] w fun e w' => e = .returned (.int .i64 (v.five [x] (cuU x n)).1) ∧ Hu w' B (fun j => Z j ∨ w.heap.size ≤ j) pb sb wb lb xb u (v.five [x] (cuU x n)).2 ps las ss sz dead ∧ Grows (Zn B Z pb) w w' := by
  obtain ⟨D, F, G, H, es, fs, h1, h2, h3, h5⟩ := h
  refine (qCut h1.x.d hg x hx n).mono ?_
  rintro e w' ⟨rfl, hp⟩
  exact ⟨rfl, tq_qcall h1 h2 h3 h5 hbw hp⟩
theorem Hu.good (h : Hu w B Z pb sb wb lb xb u v ps las ss sz dead) : Gd u := by
  obtain ⟨D, F, G, H, es, fs, h1, _⟩ := h
  exact h1.l.d.good
theorem Hu.pa (h : Hu w B Z pb sb wb lb xb u v ps las ss sz dead) : ∃ D G, Pa w B pb sb wb (.pointer (some ⟨lb, 0, none⟩)) (.pointer (some ⟨xb, 0, none⟩)) D G u v := by
  obtain ⟨D, F, G, H, es, fs, h1, _⟩ := h
  exact ⟨D, G, h1.pa⟩
end Go.Proofs.YtnkjhooeklodcaaGreatDoor
end

section
/-
  Both disks crash below their logs (LCr2, XCr2); Open of both by themselves (LOp2); what such logs answer (Lo3, Xo3).
-/
namespace Go.Proofs.YtnkjhooeklodcaaGreatDoor
open Go.RowKit Go.Maps Go.Sort

variable {w w' w1 w2 : World} {B N pb sb wb lb xb : Nat} {Z D F G H : Nat → Prop} {u u' v : Ud} {es fs : List En} {las : Nat} {sz k : Nat} {dead : Bool} {ss : List Nat} {ps q : List (List Int)} {l x : Value}
theorem Grows.under {X : Nat → Prop} (hg : Grows X w w') (hx : ∀ j, X j → B ≤ j) (hbw : B ≤ w.heap.size) : Below B w w' :=
  ⟨hg.os, hg.tape, hg.output, hg.size, fun k hk => hg.block k (by omega) fun e => by have := hx k e; omega⟩
theorem LCr2 (h : Hu w B Z pb sb wb lb xb u v ps las ss sz dead) (hbw : B ≤ w.heap.size) (n t : Int) (hn : (Lit.int .i64 n).wf = true) (ht : 0 ≤ t ∧ t < 256) : Calls Tryz.prog 20 #[.pointer (some ⟨sb, 0, none⟩), .int .i64 n, .int .u8 t] w fun e w' => e = .returned (.tuple #[]) ∧ Hu w' B (fun j => Z j ∨ w.heap.size ≤ j) pb sb wb lb xb (u.crash n t) v ps las ss sz dead ∧ Grows (Zn B Z pb) w w' := by
  obtain ⟨D, F, G, H, es, fs, h1, h2, h3, h5⟩ := h
  have hn2 := (bounds_i64 hn).2
  refine (pCrash h1.l.d n t (by omega) ht).mono ?_
  rintro e w' ⟨rfl, hp⟩
  exact ⟨rfl, tq_pcall h1 h2 h3 h5 hbw hp⟩
theorem XCr2 (h : Hu w B Z pb sb wb lb xb u v ps las ss sz dead) (hg : Gd v) (hbw : B ≤ w.heap.size) (n t : Int) (hn : (Lit.int .i64 n).wf = true) (ht : 0 ≤ t ∧ t < 256) : Calls Tryz.prog 21 #[.pointer (some ⟨wb, 0, none⟩), .int .i64 n, .int .u8 t] w fun e w' => e = .returned (.tuple #[]) ∧ Hu w' B (fun j => Z j ∨ w.heap.size ≤ j) pb sb wb lb xb u (v.crash n t) ps las ss sz dead ∧ Grows (Zn B Z pb) w w' := by
  obtain ⟨D, F, G, H, es, fs, h1, h2, h3, h5⟩ := h
  have hn2 := (bounds_i64 hn).2
  refine (qCrash h1.x.d hg n t (by omega) ht).mono ?_
  rintro e w' ⟨rfl, hp⟩
  exact ⟨rfl, tq_qcall h1 h2 h3 h5 hbw hp⟩
def Lo3 (w : World) (lb : Nat) (q : List (List Int)) : Prop := ∃ F sb ev nv es ns sz dead, es.map (·.2) = q ∧ Lg w F lb sb [97] ev nv es es.length ns sz dead
theorem Lo3.below (h : Lo3 w lb q) (hb : Below w.heap.size w w') : Lo3 w' lb q := by
  obtain ⟨F, sb, ev, nv, es, ns, sz, dead, h1, h2⟩ := h
  exact ⟨F, sb, ev, nv, es, ns, sz, dead, h1, h2.below hb⟩
theorem Lo3.next (h : Lo3 w lb q) : Calls Tryz.prog 24 #[.pointer (some ⟨lb, 0, none⟩)] w fun e w' => e = .returned (.tuple #[.int .i64 ((q.length : Int) + 1), .int .i64 ((q.length : Int) + 1)]) ∧ Sm w w' := by
  obtain ⟨F, sb, ev, nv, es, ns, sz, dead, rfl, h2⟩ := h
  have := LNext_any w h2
  simpa using this
theorem Lo3.entry (h : Lo3 w lb q) {i : Nat} {p : List Int} (hp : q[i]? = some p) : Calls Tryz.prog 25 #[.pointer (some ⟨lb, 0, none⟩), .int .i64 ((i : Int) + 1)] w fun e w' => ∃ ao cap, e = .returned (.tuple #[.slice ao p.length cap, .int .i64 0]) ∧ Ow w' w.heap.size (.slice ao p.length cap) p ∧ Below w.heap.size w w' := by
  obtain ⟨F, sb, ev, nv, es, ns, sz, dead, rfl, h2⟩ := h
  rw [List.getElem?_map] at hp
  obtain ⟨r, hr, rfl⟩ := Option.map_eq_some_iff.1 hp
  exact LEntry_any i r w h2 hr
def Xo3 (w : World) (xb : Nat) (q : List (List Int)) : Prop := ∃ ao cap, w.cell? ⟨xb, 2, none⟩ = some (.slice ao q.length cap) ∧ ∀ i p, q[i]? = some p → ∃ g au cu, ao = some ⟨g, 0, none⟩ ∧ w.cell? ⟨g, i, none⟩ = some (.slice au p.length cu) ∧ Bs w (.slice au p.length cu) p
theorem Xo3.below (h : Xo3 w xb q) (hb : Below w.heap.size w w') : Xo3 w' xb q := by
  obtain ⟨ao, cap, h1, h2⟩ := h
  have hc : ∀ {b i : Nat} {y : Value}, w.cell? ⟨b, i, none⟩ = some y → w'.cell? ⟨b, i, none⟩ = some y := fun hy => cell_below hb hy (World.block_lt_of_cell? w _ hy)
  refine ⟨ao, cap, hc h1, fun i p hp => ?_⟩
  obtain ⟨g, au, cu, e1, e2, e3⟩ := h2 i p hp
  exact ⟨g, au, cu, e1, hc e2, e3.below hb (Nat.le_refl _)⟩
theorem Xd.lo3 {pre : List UInt8} {sure : Nat} (h : Xd w G H xb wb v pre fs ss sure dead) (hf : fs.map (·.2) = q) : Xo3 w xb q := by
  obtain ⟨ev, sv, hx⟩ := h.l
  obtain ⟨ao, cap, hev⟩ := hx.evform
  subst hf
  refine ⟨ao, cap, ?_, fun i p hp => ?_⟩
  · rw [List.length_map, ← hev]
    exact hx.blk.cell 2
  · rw [List.getElem?_map] at hp
    obtain ⟨z, hz, rfl⟩ := Option.map_eq_some_iff.1 hp
    have hb := (hx.each z (List.mem_of_getElem? hz)).1
    obtain ⟨au, cu, hzu, _⟩ := hb.len
    have hil := (List.getElem?_eq_some_iff.1 hz).1
    rcases hx.ent.2 with ⟨_, h0⟩ | ⟨g, cap', cur, hv, _⟩
    · omega
    · refine ⟨g, au, cu, ?_, ?_, hzu ▸ hb⟩
      · rw [hev] at hv
        exact (Value.slice.inj hv).1
      · have := World.ownsRow.cells hx.ent (g := g) (by rw [hv]; rfl) i z.1 (by unfold enOf; rw [List.getElem?_map, hz]; rfl)
        rw [hzu] at this
        simpa [Addr.add_lit] using this
theorem LOp2 (h : Hu w B Z pb sb wb lb xb u u ps las ss sz dead) (hu : Du u) (h0 : (openF [97] u).1.1 = 0) (hc : Cx w B) :
    Calls Tryz.prog 22 #[.pointer (some ⟨sb, 0, none⟩), encStr [97]] w fun e w1 => ∃ lb2, e = .returned (.tuple #[.pointer (some ⟨lb2, 0, none⟩), .int .i64 0]) ∧ Grows (Zn B Z pb) w w1 ∧
      ∀ W1, Below w1.heap.size w1 W1 → Calls Tryz.prog 23 #[.pointer (some ⟨wb, 0, none⟩), encStr [97]] W1 fun e w2 => ∃ xb2, e = .returned (.tuple #[.pointer (some ⟨xb2, 0, none⟩), .int .i64 0]) ∧ Grows (Zn B Z pb) W1 w2 ∧ Lo3 w2 lb2 (openF [97] u).2.1 ∧ Xo3 w2 xb2 (openF [97] u).2.1 := by
  obtain ⟨D, F, G, H, es0, fs0, hT, _, _, hZ⟩ := h
  have hP := hT.pa
  have hbw := hc.bw
  have hB8 := hc.b8
  have C1 := LOpen_any (pre := [97]) w hP.d hP.dl (by decide) (by decide) hu.names hu.tot hc.tab hc.pw (by omega) fun k hk e => by have := (hP.lo k (Or.inl e)).1; omega
  have hf := opF_few [97] u (segsN (u.us.map (·.1)) [97]) 1
  have hsl : (segsN (u.us.map (·.1)) [97]).length ≤ 4096 := by
    have h1 : (segsN (u.us.map (·.1)) [97]).length ≤ (u.us.map (·.1)).length := List.length_filter_le _ _
    have := hu.good.cnt
    rw [List.length_map] at h1
    omega
  have htt : tU u.us (segsN (u.us.map (·.1)) [97]) ≤ 4000000 := Nat.le_trans (tU_filter hu.good.ris _) hu.tot
  have hcnt := hu.good.cnt
  refine C1.mono ?_
  intro e w1 hL
  obtain ⟨lb2, es, D1, F1, rfl, hes, hld, hd1, hf1, hg1⟩ := hL.ok h0
  have hs1 := hg1.size
  refine ⟨lb2, rfl, hg1.mono fun j hj => ⟨⟨(hP.lo j (Or.inl hj)).1, hZ j (Or.inl (Or.inl hj))⟩, (hP.lo j (Or.inl hj)).2⟩, fun W1 hW1 => ?_⟩
  have hsW := hW1.size
  refine (XOpen_any (pre := [97]) W1 ((hP.q.keep fun k hk hlt => hg1.block k hlt fun e => hP.ap k e hk).to hW1) hu.good (fun k hk => by have := hP.gl k hk; omega) (by decide) (by decide) (fun y hy => by have := hu.names y hy; omega) (by omega) (fun y => ⟨by have := hu.len y; omega, hu.good.bytes y⟩) (by omega) (by omega)).mono ?_
  intro e w2 hX
  obtain ⟨xb2, fs, G2, H2, rfl, hfs, hxd, hg2, hh2, hgr2⟩ := hX.ok h0
  refine ⟨xb2, rfl, hgr2.mono fun j hj => ⟨⟨(hP.lo j (Or.inr hj)).1, hZ j (Or.inr (Or.inl hj))⟩, (hP.lo j (Or.inr hj)).2⟩, ?_, hxd.lo3 hfs⟩
  have hld2 : Ld w2 D1 F1 lb2 sb (openF [97] u).1.2 [97] es es.length (namesN [97] (openF [97] u).2.2) (opS [97] u (segsN (u.us.map (·.1)) [97]) 1 0) false := (hld.below hW1).keepL hgr2.size fun k hk hlt => hgr2.block k hlt fun e => by
    have hgl := hP.gl k e
    rcases hk with e2 | e2
    · rcases hd1 k e2 with e3 | e3
      · exact hP.ap k e3 e
      · omega
    · have := hf1 k e2
      omega
  obtain ⟨ev, nv, hl⟩ := hld2.l
  exact ⟨_, _, _, _, _, _, _, _, hes, hl⟩
end Go.Proofs.YtnkjhooeklodcaaGreatDoor
end
