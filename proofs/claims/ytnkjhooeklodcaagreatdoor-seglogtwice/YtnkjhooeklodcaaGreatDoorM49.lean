/-
  Joined from: SegWh6, SegWh7, SegKp, SegKp2.
-/
import Derived.Test.YtnkjhooeklodcaaGreatDoorM48
section
/-
  Whole segments (Wh) behind an Append that has room. Plain facts; no walk.
-/
namespace Go.Proofs.YtnkjhooeklodcaaGreatDoor
open Go.RowKit Go.Maps Go.Sort

structure Wh (pre : List UInt8) (u : Ud) (ps : List (List Int)) (ss : List Nat) (cs : List (List (List Int))) : Prop where
  ris : RisU u.us
  left : u.left = -1
  seg : Seg pre u.us 0 cs
  pe : ps = cs.flatten
  se : ss = strt 0 cs
  epl : ∀ c ∈ cs, ∀ p ∈ c, Epl p
  old : ∀ m ∈ strt 0 cs, m ≠ lastS ss → Lasts u.us (nameN pre m)
theorem lastS_strt (ds : List (List (List Int))) (c : List (List Int)) : lastS (strt 0 (ds ++ [c])) = ds.flatten.length + 1 := by
  rw [strt_append]
  simp [lastS, strt]
theorem strt_grow (ds : List (List (List Int))) (c d : List (List Int)) : strt 0 (ds ++ [c]) = strt 0 (ds ++ [d]) := by
  rw [strt_append, strt_append]
  rfl
theorem Wh.grow {pre : List UInt8} {u : Ud} {ps : List (List Int)} {ss : List Nat} {ds : List (List (List Int))} {c : List (List Int)} (h : Wh pre u ps ss (ds ++ [c])) (hn : ps.length ≤ 8000000) (hp64 : pre.length ≤ 50) {p : List Int} (hp : Epl p) (las sz : Nat) (hz : sz < 512) (hr : (totU u.us : Int) + ((Fr.entN ((ps.length : Int) + 1) p).length : Int) ≤ u.room) (hc : u.us.length < 4096) :
    ∃ u', apO pre u ps las ss sz false p = ⟨(ps.length : Int) + 1, 0, u', ps ++ [p], las, ss, sz + (Fr.entN ((ps.length : Int) + 1) p).length, false⟩ ∧ Wh pre u' (ps ++ [p]) ss (ds ++ [c ++ [p]]) ∧ u'.room = u.room ∧ totU u'.us = totU u.us + (Fr.entN ((ps.length : Int) + 1) p).length ∧ u'.us.length ≤ u.us.length + 1 := by
  have hpe := h.pe
  have hse := h.se
  have hlen : ps.length = ds.flatten.length + c.length := by rw [hpe]; simp
  have hss : ss ≠ [] := by rw [hse, strt_append]; simp [strt]
  have hla : lastS ss = ds.flatten.length + 1 := by rw [hse]; exact lastS_strt ds c
  have hb : badN (nameN pre (lastS ss)) = false := badN_seg (isSeg_name pre (by omega)) (by rw [nameN_len pre _ (by omega)]; omega)
  have hw := wr_free h.left hb (Fr.entN ((ps.length : Int) + 1) p) hr hc
  have ht := totU_pt h.ris (nameN pre (lastS ss)) ((at0U u.us (nameN pre (lastS ss))).1 ++ Fr.entN ((ps.length : Int) + 1) p, (at0U u.us (nameN pre (lastS ss))).2)
  have hp2 := hp.2
  refine ⟨⟨u.room, ptU u.us (nameN pre (lastS ss)) ((at0U u.us (nameN pre (lastS ss))).1 ++ Fr.entN ((ps.length : Int) + 1) p, (at0U u.us (nameN pre (lastS ss))).2), -1⟩, ?_, ?_, rfl, ?_, ht.2⟩
  · unfold apO
    rw [if_neg (by decide), if_neg (by omega), if_pos ⟨hss, hz⟩, hw]
    unfold apW
    rw [if_pos rfl]
  · refine ⟨?_, rfl, ?_, by rw [hpe]; simp, by rw [hse]; exact strt_grow ds c _, ?_, ?_⟩
    · exact h.ris.pt _ _
    · rw [hla]
      refine h.seg.grow (f := ((at0U u.us (nameN pre (ds.flatten.length + 1))).1 ++ Fr.entN ((ps.length : Int) + 1) p, (at0U u.us (nameN pre (ds.flatten.length + 1))).2)) (by rw [← hpe]; omega) (by rw [lkU_pt, if_pos rfl]) (by rw [← hpe]) fun y hy => by rw [lkU_pt, if_neg hy]
    · intro d hd q hq
      rcases List.mem_append.1 hd with hd | hd
      · exact h.epl d (by simp [hd]) q hq
      · rw [List.mem_singleton.1 hd] at hq
        rcases List.mem_append.1 hq with hq | hq
        · exact h.epl c (by simp) q hq
        · rw [List.mem_singleton.1 hq]; exact hp
    · intro m hm hne f hf
      rw [strt_grow ds _ c] at hm
      have hl := strt_lt _ 0 h.seg m hm
      rw [← hpe] at hl
      rw [lkU_pt, if_neg (fun e => hne (nameN_inj (by omega) (by omega) e))] at hf
      exact h.old m hm hne f hf
  · have := ht.1
    simp only [List.length_append] at this
    show totU (ptU _ _ _) = _
    omega
theorem Seg.alike {pre : List UInt8} {us us' : Us} : ∀ (cs : List (List (List Int))) (n : Nat), Seg pre us n cs → (∀ m ∈ strt n cs, (lkU us' (nameN pre m)).isSome = (lkU us (nameN pre m)).isSome ∧ (at0U us' (nameN pre m)).1 = (at0U us (nameN pre m)).1) → Seg pre us' n cs
  | [], _, _, _ => trivial
  | c :: cs, n, h, hk => by
    obtain ⟨h1, h2, h3, h4⟩ := h
    have e := hk (n + 1) (by simp [strt])
    exact ⟨h1, by rw [e.1]; exact h2, by rw [e.2]; exact h3, Seg.alike cs (n + c.length) h4 fun m hm => hk m (by simp [strt, hm])⟩
theorem Wh.sync {pre : List UInt8} {u : Ud} {ps : List (List Int)} {ss : List Nat} {ds : List (List (List Int))} {c : List (List Int)} (h : Wh pre u ps ss (ds ++ [c])) (hn : ps.length ≤ 8000000) (hp64 : pre.length ≤ 50) :
    ∃ u', u.five [nameN pre (lastS ss)] (syU (nameN pre (lastS ss))) = (0, u') ∧ Wh pre u' ps ss (ds ++ [c]) ∧ (∀ m ∈ strt 0 (ds ++ [c]), Lasts u'.us (nameN pre m)) ∧ u'.room = u.room ∧ totU u'.us = totU u.us ∧ u'.us.length ≤ u.us.length + 1 ∧ ∀ y, (lkU u'.us y).isSome = (lkU u.us y).isSome := by
  have hpe := h.pe
  have hse := h.se
  have hlen : ps.length = ds.flatten.length + c.length := by rw [hpe]; simp
  have hla : lastS ss = ds.flatten.length + 1 := by rw [hse]; exact lastS_strt ds c
  have hmem : lastS ss ∈ strt 0 (ds ++ [c]) := by rw [hla, strt_append]; simp [strt]
  have hb : badN (nameN pre (lastS ss)) = false := badN_seg (isSeg_name pre (by omega)) (by rw [nameN_len pre _ (by omega)]; omega)
  obtain ⟨f, hf, hsy⟩ := syU_some (Seg.all _ 0 h.seg (lastS ss) hmem)
  have ht := totU_pt h.ris (nameN pre (lastS ss)) (f.1, f.1.length)
  have hal : ∀ y, (lkU (ptU u.us (nameN pre (lastS ss)) (f.1, f.1.length)) y).isSome = (lkU u.us y).isSome ∧ (at0U (ptU u.us (nameN pre (lastS ss)) (f.1, f.1.length)) y).1 = (at0U u.us y).1 := fun y => by
    unfold at0U
    rw [lkU_pt]
    split
    · rename_i e; rw [e, hf]; exact ⟨rfl, rfl⟩
    · exact ⟨rfl, rfl⟩
  have hls : ∀ m ∈ strt 0 (ds ++ [c]), Lasts (ptU u.us (nameN pre (lastS ss)) (f.1, f.1.length)) (nameN pre m) := fun m hm g hg => by
    rw [lkU_pt] at hg
    by_cases e : nameN pre m = nameN pre (lastS ss)
    · rw [if_pos e] at hg
      cases hg
      rfl
    · rw [if_neg e] at hg
      exact h.old m hm (fun e2 => e (by rw [e2])) g hg
  refine ⟨⟨u.room, ptU u.us (nameN pre (lastS ss)) (f.1, f.1.length), -1⟩, ?_, ⟨h.ris.pt _ _, rfl, h.seg.alike _ _ fun m _ => hal _, hpe, hse, h.epl, fun m hm _ => hls m hm⟩, hls, rfl, ?_, ht.2, fun y => (hal y).1⟩
  · rw [five_free h.left hb, hsy]
  · have h1 := ht.1
    rw [at0U_of hf] at h1
    show totU (ptU _ _ _) = _
    simp only at h1
    omega
end Go.Proofs.YtnkjhooeklodcaaGreatDoor
end

section
/-
  Whole segments (Wh): a new segment. Plain facts; no walk.
-/
namespace Go.Proofs.YtnkjhooeklodcaaGreatDoor
open Go.RowKit Go.Maps Go.Sort

theorem Wh.next {pre : List UInt8} {u : Ud} {ps : List (List Int)} {ss : List Nat} {cs : List (List (List Int))} (h : Wh pre u ps ss cs) (hls : ∀ m ∈ strt 0 cs, Lasts u.us (nameN pre m)) (hn : ps.length ≤ 8000000) (hp64 : pre.length ≤ 50) {p : List Int} (hp : Epl p) (hno : lkU u.us (nameN pre (ps.length + 1)) = none) (hr : (totU u.us : Int) + ((Fr.entN ((ps.length : Int) + 1) p).length : Int) ≤ u.room) (hc : u.us.length < 4096) :
    ∃ u', u.five [nameN pre (ps.length + 1)] (wrU (nameN pre (ps.length + 1)) (Fr.entN ((ps.length : Int) + 1) p) u.room) = (0, u') ∧ Wh pre u' (ps ++ [p]) (ss ++ [ps.length + 1]) (cs ++ [[p]]) ∧ u'.room = u.room ∧ totU u'.us = totU u.us + (Fr.entN ((ps.length : Int) + 1) p).length ∧ u'.us.length ≤ u.us.length + 1 := by
  have hpe := h.pe
  have hse := h.se
  have hb : badN (nameN pre (ps.length + 1)) = false := badN_seg (isSeg_name pre (by omega)) (by rw [nameN_len pre _ (by omega)]; omega)
  have hw := wr_free h.left hb (Fr.entN ((ps.length : Int) + 1) p) hr hc
  have ha : at0U u.us (nameN pre (ps.length + 1)) = ([], 0) := by unfold at0U; rw [hno]; rfl
  rw [ha] at hw
  have ht := totU_pt h.ris (nameN pre (ps.length + 1)) (Fr.entN ((ps.length : Int) + 1) p, 0)
  rw [ha] at ht
  have hlt : ∀ m ∈ strt 0 cs, nameN pre m ≠ nameN pre (ps.length + 1) := fun m hm e => by
    have h1 := strt_lt cs 0 h.seg m hm
    rw [← hpe] at h1
    have := nameN_inj (by omega) (by omega) e
    omega
  refine ⟨⟨u.room, ptU u.us (nameN pre (ps.length + 1)) (Fr.entN ((ps.length : Int) + 1) p, 0), -1⟩, hw, ⟨h.ris.pt _ _, rfl, ?_, by rw [hpe]; simp, ?_, ?_, ?_⟩, rfl, ?_, ht.2⟩
  · refine h.seg.more (p := p) (f := (Fr.entN ((ps.length : Int) + 1) p, 0)) (by rw [← hpe, lkU_pt, if_pos rfl]) (by rw [← hpe]) fun m hm => by rw [lkU_pt, if_neg (hlt m hm)]
  · rw [strt_append, ← hse, ← hpe]
    simp [strt]
  · intro d hd q hq
    rcases List.mem_append.1 hd with hd | hd
    · exact h.epl d hd q hq
    · rw [List.mem_singleton.1 hd] at hq
      rw [List.mem_singleton.1 hq]; exact hp
  · intro m hm hne f hf
    rw [strt_append] at hm
    rcases List.mem_append.1 hm with hm | hm
    · rw [lkU_pt, if_neg (hlt m hm)] at hf
      exact hls m hm f hf
    · have e : m = ps.length + 1 := by
        rw [hpe]
        simpa [strt] using hm
      exact absurd (by rw [e]; simp [lastS]) hne
  · have := ht.1
    simp only [List.length_nil] at this
    show totU (ptU _ _ _) = _
    omega
theorem Wh.free {pre : List UInt8} {u : Ud} {ps : List (List Int)} {ss : List Nat} {cs : List (List (List Int))} (h : Wh pre u ps ss cs) (hn : ps.length ≤ 8000000) (ho : ∀ x, isSeg x pre = true → (lkU u.us x).isSome = true → ∃ n ∈ ss, x = nameN pre n) : lkU u.us (nameN pre (ps.length + 1)) = none := by
  cases hl : lkU u.us (nameN pre (ps.length + 1)) with
  | none => rfl
  | some f =>
    obtain ⟨n, h1, h2⟩ := ho (nameN pre (ps.length + 1)) (isSeg_name pre (by omega)) (by rw [hl]; rfl)
    rw [h.se] at h1
    have h3 := strt_lt cs 0 h.seg n h1
    rw [← h.pe] at h3
    have := nameN_inj (n := ps.length + 1) (m := n) (by omega) (by omega) h2
    omega
end Go.Proofs.YtnkjhooeklodcaaGreatDoor
end

section
/-
  A log on a disk with a fuse (Kq): its entries stand whole in its segments, all but the last of which last; of the last one the first so many entries last. What Append and Sync leave, done or refused; what is read back behind a crash. Plain facts; no walk.
-/
namespace Go.Proofs.YtnkjhooeklodcaaGreatDoor
open Go.RowKit Go.Maps Go.Sort

structure Kq (pre : List UInt8) (us : Us) (ps : List (List Int)) (las : Nat) (ss : List Nat) (cs : List (List (List Int))) : Prop where
  wh : Wh pre ⟨0, us, -1⟩ ps ss cs
  bd : ∀ ds c, cs = ds ++ [c] → ∃ c1 c2, c = c1 ++ c2 ∧ (at0U us (nameN pre (ds.flatten.length + 1))).2 = (entsN ds.flatten.length c1).length ∧ las ≤ ds.flatten.length + c1.length
  nil : cs = [] → las = 0
theorem Kq.start (pre : List UInt8) : Kq pre [] [] 0 [] [] :=
  ⟨⟨List.Pairwise.nil, rfl, trivial, rfl, rfl, (fun c hc => by cases hc), (fun m hm => by cases hm)⟩, fun ds c h => by simp at h, fun _ => rfl⟩
theorem at0U_pt (us : Us) (x : Nm) (f : List Int × Nat) : at0U (ptU us x f) x = f := by unfold at0U; rw [lkU_pt, if_pos rfl]; rfl
theorem Kq.le {pre : List UInt8} {us : Us} {ps : List (List Int)} {las : Nat} {ss : List Nat} {cs : List (List (List Int))} (h : Kq pre us ps las ss cs) : las ≤ ps.length := by
  rcases List.eq_nil_or_concat cs with rfl | ⟨ds, c, rfl⟩
  · rw [h.nil rfl]; exact Nat.zero_le _
  · rw [List.concat_eq_append] at h
    obtain ⟨c1, c2, rfl, _, h3⟩ := h.bd ds c rfl
    have h5 : ps.length = ds.flatten.length + (c1 ++ c2).length := by rw [h.wh.pe, List.flatten_append, List.length_append, List.flatten_cons, List.flatten_nil, List.append_nil]
    rw [h5, List.length_append]
    omega
theorem Kq.grow {pre : List UInt8} {us : Us} {ps : List (List Int)} {las : Nat} {ss : List Nat} {ds : List (List (List Int))} {c : List (List Int)} (h : Kq pre us ps las ss (ds ++ [c])) (hn : ps.length ≤ 8000000) {p : List Int} (hp : Epl p) :
    Kq pre (ptU us (nameN pre (lastS ss)) ((at0U us (nameN pre (lastS ss))).1 ++ Fr.entN ((ps.length : Int) + 1) p, (at0U us (nameN pre (lastS ss))).2)) (ps ++ [p]) las ss (ds ++ [c ++ [p]]) := by
  have hw := h.wh
  have hpe := hw.pe
  have hse := hw.se
  have hla : lastS ss = ds.flatten.length + 1 := by rw [hse]; exact lastS_strt ds c
  refine ⟨⟨hw.ris.pt _ _, rfl, ?_, by rw [hpe]; simp, by rw [hse]; exact strt_grow ds c _, ?_, ?_⟩, ?_, fun e => by simp at e⟩
  · rw [hla]
    exact hw.seg.grow (f := ((at0U us (nameN pre (ds.flatten.length + 1))).1 ++ Fr.entN ((ps.length : Int) + 1) p, (at0U us (nameN pre (ds.flatten.length + 1))).2)) (by rw [← hpe]; omega) (by rw [lkU_pt, if_pos rfl]) (by rw [← hpe]) fun y hy => by rw [lkU_pt, if_neg hy]
  · intro d hd q hq
    rcases List.mem_append.1 hd with hd | hd
    · exact hw.epl d (by simp [hd]) q hq
    · rw [List.mem_singleton.1 hd] at hq
      rcases List.mem_append.1 hq with hq | hq
      · exact hw.epl c (by simp) q hq
      · rw [List.mem_singleton.1 hq]; exact hp
  · intro m hm hne f hf
    rw [strt_grow ds _ c] at hm
    have hl := strt_lt _ 0 hw.seg m hm
    rw [← hpe] at hl
    have hlen : ps.length = ds.flatten.length + c.length := by rw [hpe]; simp
    rw [lkU_pt, if_neg (fun e => hne (nameN_inj (by omega) (by omega) e))] at hf
    exact hw.old m hm hne f hf
  · intro ds' c' e
    obtain ⟨rfl, e2⟩ := List.append_inj' e rfl
    injection e2 with e2 _
    subst e2
    obtain ⟨c1, c2, rfl, h2, h3⟩ := h.bd ds c rfl
    refine ⟨c1, c2 ++ [p], by simp, ?_, h3⟩
    rw [hla, at0U_pt]
    exact h2
theorem Kq.next {pre : List UInt8} {us : Us} {ps : List (List Int)} {las : Nat} {ss : List Nat} {cs : List (List (List Int))} (h : Kq pre us ps las ss cs) (hls : ∀ m ∈ strt 0 cs, Lasts us (nameN pre m)) (hn : ps.length ≤ 8000000) {p : List Int} (hp : Epl p) (hno : lkU us (nameN pre (ps.length + 1)) = none) :
    Kq pre (ptU us (nameN pre (ps.length + 1)) ((at0U us (nameN pre (ps.length + 1))).1 ++ Fr.entN ((ps.length : Int) + 1) p, (at0U us (nameN pre (ps.length + 1))).2)) (ps ++ [p]) las (ss ++ [ps.length + 1]) (cs ++ [[p]]) := by
  have hw := h.wh
  have hpe := hw.pe
  have hse := hw.se
  have ha : at0U us (nameN pre (ps.length + 1)) = ([], 0) := by unfold at0U; rw [hno]; rfl
  have hlt : ∀ m ∈ strt 0 cs, nameN pre m ≠ nameN pre (ps.length + 1) := fun m hm e => by
    have h1 := strt_lt cs 0 hw.seg m hm
    rw [← hpe] at h1
    have := nameN_inj (by omega) (by omega) e
    omega
  rw [ha, List.nil_append]
  refine ⟨⟨hw.ris.pt _ _, rfl, ?_, by rw [hpe]; simp, ?_, ?_, ?_⟩, ?_, fun e => by simp at e⟩
  · exact hw.seg.more (p := p) (f := (Fr.entN ((ps.length : Int) + 1) p, 0)) (by rw [← hpe, lkU_pt, if_pos rfl]) (by rw [← hpe]) fun m hm => by rw [lkU_pt, if_neg (hlt m hm)]
  · rw [strt_append, ← hse, ← hpe]
    simp [strt]
  · intro d hd q hq
    rcases List.mem_append.1 hd with hd | hd
    · exact hw.epl d hd q hq
    · rw [List.mem_singleton.1 hd] at hq
      rw [List.mem_singleton.1 hq]; exact hp
  · intro m hm hne f hf
    rw [strt_append] at hm
    rcases List.mem_append.1 hm with hm | hm
    · rw [lkU_pt, if_neg (hlt m hm)] at hf
      exact hls m hm f hf
    · have e : m = ps.length + 1 := by
        rw [hpe]
        simpa [strt] using hm
      exact absurd (by rw [e]; simp [lastS]) hne
  · intro ds' c' e
    obtain ⟨rfl, e2⟩ := List.append_inj' e rfl
    injection e2 with e2 _
    subst e2
    refine ⟨[], [p], rfl, ?_, ?_⟩
    · rw [← hpe, at0U_pt]; rfl
    · have := h.le
      rw [hpe] at this
      simp
      simpa using this
theorem Kq.sync {pre : List UInt8} {us : Us} {ps : List (List Int)} {las : Nat} {ss : List Nat} {ds : List (List (List Int))} {c : List (List Int)} (h : Kq pre us ps las ss (ds ++ [c])) {f : List Int × Nat} (hf : lkU us (nameN pre (lastS ss)) = some f) :
    Kq pre (ptU us (nameN pre (lastS ss)) (f.1, f.1.length)) ps ps.length ss (ds ++ [c]) ∧ ∀ m ∈ strt 0 (ds ++ [c]), Lasts (ptU us (nameN pre (lastS ss)) (f.1, f.1.length)) (nameN pre m) := by
  have hw := h.wh
  have hpe := hw.pe
  have hse := hw.se
  have hla : lastS ss = ds.flatten.length + 1 := by rw [hse]; exact lastS_strt ds c
  have hal : ∀ y, (lkU (ptU us (nameN pre (lastS ss)) (f.1, f.1.length)) y).isSome = (lkU us y).isSome ∧ (at0U (ptU us (nameN pre (lastS ss)) (f.1, f.1.length)) y).1 = (at0U us y).1 := fun y => by
    unfold at0U
    rw [lkU_pt]
    split
    · rename_i e; rw [e, hf]; exact ⟨rfl, rfl⟩
    · exact ⟨rfl, rfl⟩
  have hls : ∀ m ∈ strt 0 (ds ++ [c]), Lasts (ptU us (nameN pre (lastS ss)) (f.1, f.1.length)) (nameN pre m) := fun m hm g hg => by
    rw [lkU_pt] at hg
    by_cases e : nameN pre m = nameN pre (lastS ss)
    · rw [if_pos e] at hg
      cases hg
      rfl
    · rw [if_neg e] at hg
      exact hw.old m hm (fun e2 => e (by rw [e2])) g hg
  refine ⟨⟨⟨hw.ris.pt _ _, rfl, hw.seg.alike _ _ fun m _ => hal _, hpe, hse, hw.epl, fun m hm _ => hls m hm⟩, ?_, fun e => by simp at e⟩, hls⟩
  intro ds' c' e
  obtain ⟨rfl, e2⟩ := List.append_inj' e rfl
  injection e2 with e2 _
  subst e2
  refine ⟨c, [], by simp, ?_, by rw [hpe]; simp⟩
  rw [hla, at0U_pt]
  have h1 : (at0U us (nameN pre (ds.flatten.length + 1))).1 = entsN ds.flatten.length c := by
    obtain ⟨_, h2⟩ := (Seg_append ds [c] 0).1 hw.seg
    rw [Nat.zero_add] at h2
    exact h2.2.2.1
  rw [hla] at hf
  rw [at0U_of hf] at h1
  show f.1.length = _
  rw [h1]
theorem Kq.all {pre : List UInt8} {us : Us} {ps : List (List Int)} {ss : List Nat} {cs : List (List (List Int))} (h : Kq pre us ps ps.length ss cs) : ∀ m ∈ strt 0 cs, Lasts us (nameN pre m) := by
  rcases List.eq_nil_or_concat cs with rfl | ⟨ds, c, rfl⟩
  · intro m hm; cases hm
  · rw [List.concat_eq_append] at *
    intro m hm
    by_cases e : m = lastS ss
    · obtain ⟨c1, c2, rfl, h2, h3⟩ := h.bd ds c rfl
      have hla : lastS ss = ds.flatten.length + 1 := by rw [h.wh.se]; exact lastS_strt ds _
      have h4 : c2 = [] := by
        have h5 : ps.length = (ds ++ [c1 ++ c2]).flatten.length := by rw [h.wh.pe]
        rw [h5] at h3
        simp at h3
        exact List.eq_nil_of_length_eq_zero (by omega)
      subst h4
      intro f hf
      rw [e, hla] at hf
      obtain ⟨_, h6⟩ := (Seg_append ds [c1 ++ []] 0).1 h.wh.seg
      rw [Nat.zero_add] at h6
      have h7 := h6.2.2.1
      rw [at0U_of hf, List.append_nil] at h7
      have h8 : (at0U us (nameN pre (ds.flatten.length + 1))).2 = f.2 := by unfold at0U; rw [hf]; rfl
      rw [← h8, h2, h7]
    · exact h.wh.old m hm e
end Go.Proofs.YtnkjhooeklodcaaGreatDoor
end

section
/-
  A log on a disk with a fuse (Kq): Append and Sync whole; a crash. Plain facts; no walk.
-/
namespace Go.Proofs.YtnkjhooeklodcaaGreatDoor
open Go.RowKit Go.Maps Go.Sort

theorem sy_cases (u : Ud) (x : Nm) : ((u.five [x] (syU x)).1 ≠ 0 ∧ (u.five [x] (syU x)).2.us = u.us) ∨ ∃ f, (u.five [x] (syU x)).1 = 0 ∧ lkU u.us x = some f ∧ (u.five [x] (syU x)).2.us = ptU u.us x (f.1, f.1.length) := by
  unfold Ud.five
  by_cases hm : mayE u.left [x] ≠ 0
  · rw [if_pos hm]
    exact Or.inl ⟨hm, rfl⟩
  · rw [if_neg hm]
    unfold syU
    cases hl : lkU u.us x with
    | none => exact Or.inl ⟨by simp, rfl⟩
    | some f => exact Or.inr ⟨f, rfl, rfl, rfl⟩
theorem Kq.syL {pre : List UInt8} {u : Ud} {ps : List (List Int)} {las : Nat} {ss : List Nat} {cs : List (List (List Int))} (h : Kq pre u.us ps las ss cs) (hne : ss ≠ []) (dead : Bool) :
    Kq pre (Go.Proofs.YtnkjhooeklodcaaGreatDoor.syL u ps.length las (nameN pre (lastS ss)) dead).2.1.us ps (Go.Proofs.YtnkjhooeklodcaaGreatDoor.syL u ps.length las (nameN pre (lastS ss)) dead).2.2.1 ss cs ∧ ((Go.Proofs.YtnkjhooeklodcaaGreatDoor.syL u ps.length las (nameN pre (lastS ss)) dead).1 = 0 → (Go.Proofs.YtnkjhooeklodcaaGreatDoor.syL u ps.length las (nameN pre (lastS ss)) dead).2.2.1 = ps.length) := by
  unfold Go.Proofs.YtnkjhooeklodcaaGreatDoor.syL
  by_cases hd : dead = true
  · rw [if_pos hd]
    exact ⟨h, fun e => by cases e⟩
  · rw [if_neg hd]
    by_cases hq : las = ps.length
    · rw [if_pos hq]
      exact ⟨h, fun _ => hq⟩
    · rw [if_neg hq]
      rcases List.eq_nil_or_concat cs with rfl | ⟨ds, c, rfl⟩
      · exact absurd h.wh.se hne
      · rw [List.concat_eq_append] at *
        rcases sy_cases u (nameN pre (lastS ss)) with ⟨e1, e2⟩ | ⟨f, e1, e2, e3⟩
        · refine ⟨?_, fun e => absurd e e1⟩
          show Kq pre (u.five [nameN pre (lastS ss)] (syU (nameN pre (lastS ss)))).2.us ps (if (u.five [nameN pre (lastS ss)] (syU (nameN pre (lastS ss)))).1 = 0 then ps.length else las) ss (ds ++ [c])
          rw [e2, if_neg e1]
          exact h
        · refine ⟨?_, fun _ => if_pos e1⟩
          show Kq pre (u.five [nameN pre (lastS ss)] (syU (nameN pre (lastS ss)))).2.us ps (if (u.five [nameN pre (lastS ss)] (syU (nameN pre (lastS ss)))).1 = 0 then ps.length else las) ss (ds ++ [c])
          rw [e3, if_pos e1]
          exact (h.sync e2).1
theorem Kq.append {pre : List UInt8} {u : Ud} {ps : List (List Int)} {las : Nat} {ss : List Nat} {sz k : Nat} {cs : List (List (List Int))} (h : Kq pre u.us ps las ss cs) (hsl : Sl pre u ps las ss sz k) (hn : ps.length ≤ 8000000) {p : List Int} (hp : Byt p) (dead : Bool) :
    ∃ cs', Kq pre (apO pre u ps las ss sz dead p).u.us (apO pre u ps las ss sz dead p).ps (apO pre u ps las ss sz dead p).las (apO pre u ps las ss sz dead p).ss cs' ∧ (apO pre u ps las ss sz dead p).ps = (if (apO pre u ps las ss sz dead p).er = 0 then ps ++ [p] else ps) ∧ las ≤ (apO pre u ps las ss sz dead p).las := by
  have hfree : lkU u.us (nameN pre (ps.length + 1)) = none := Wh.free (u := ⟨0, u.us, -1⟩) h.wh hn hsl.seg
  unfold apO
  by_cases hd : dead = true
  · rw [if_pos hd]
    exact ⟨cs, h, by simp, Nat.le_refl _⟩
  rw [if_neg hd]
  by_cases hl : 65526 < p.length
  · rw [if_pos hl]
    exact ⟨cs, h, by simp, Nat.le_refl _⟩
  rw [if_neg hl]
  have hE : Epl p := ⟨hp, by omega⟩
  by_cases hz : ss ≠ [] ∧ sz < 512
  · rw [if_pos hz]
    rcases List.eq_nil_or_concat cs with rfl | ⟨ds, c, rfl⟩
    · exact absurd h.wh.se hz.1
    · rw [List.concat_eq_append] at *
      unfold apW
      by_cases he : (u.five [nameN pre (lastS ss)] (wrU (nameN pre (lastS ss)) (Fr.entN ((ps.length : Int) + 1) p) u.room)).1 = 0
      · rw [if_pos he]
        refine ⟨ds ++ [c ++ [p]], ?_, by simp, Nat.le_refl _⟩
        show Kq pre (u.five [nameN pre (lastS ss)] (wrU (nameN pre (lastS ss)) (Fr.entN ((ps.length : Int) + 1) p) u.room)).2.us (ps ++ [p]) las ss (ds ++ [c ++ [p]])
        rw [(wr_ok he).2]
        exact h.grow hn hE
      · rw [if_neg he]
        refine ⟨ds ++ [c], ?_, by simp [he], Nat.le_refl _⟩
        show Kq pre (u.five [nameN pre (lastS ss)] (wrU (nameN pre (lastS ss)) (Fr.entN ((ps.length : Int) + 1) p) u.room)).2.us ps las ss (ds ++ [c])
        rw [wr_err he]
        exact h
  rw [if_neg hz]
  have key : ∃ u1 las1, Kq pre u1.us ps las1 ss cs ∧ las ≤ las1 ∧ (syS u ps.length las (nameN pre (lastS ss)) ss).2.1 = u1 ∧ (syS u ps.length las (nameN pre (lastS ss)) ss).2.2.1 = las1 ∧ ((syS u ps.length las (nameN pre (lastS ss)) ss).1 = 0 → las1 = ps.length) ∧ lkU u1.us (nameN pre (ps.length + 1)) = none := by
    have hfr : ∀ u1 : Ud, Alike u.us u1.us → lkU u1.us (nameN pre (ps.length + 1)) = none := fun u1 ha => by
      have := (ha (nameN pre (ps.length + 1))).1
      rw [hfree] at this
      exact Option.isNone_iff_eq_none.1 (by simpa using this)
    have hal := (syS_alike u ps.length las (nameN pre (lastS ss)) ss).1
    refine ⟨_, _, ?_, ?_, rfl, rfl, ?_, hfr _ hal⟩
    · unfold syS
      split
      · exact h
      · rename_i hne
        exact (h.syL hne false).1
    · unfold syS
      split
      · exact Nat.le_refl _
      · unfold Go.Proofs.YtnkjhooeklodcaaGreatDoor.syL
        have := h.le
        simp only [Bool.false_eq_true, if_false]
        split
        · exact Nat.le_refl _
        · show las ≤ if _ then ps.length else las
          split <;> omega
    · unfold syS
      split
      · rename_i hne
        intro _
        obtain ⟨h1, h2⟩ := hsl.nil hne
        rw [h1, h2]
        rfl
      · rename_i hne
        exact (h.syL hne false).2
  obtain ⟨u1, las1, k1, k2, e1, e2, k3, k4⟩ := key
  rw [e1, e2]
  by_cases hs : (syS u ps.length las (nameN pre (lastS ss)) ss).1 ≠ 0
  · rw [if_pos hs]
    exact ⟨cs, k1, by simp [hs], k2⟩
  rw [if_neg hs]
  have k5 := k3 (Classical.not_not.1 hs)
  unfold apW
  by_cases he : (u1.five [nameN pre (ps.length + 1)] (wrU (nameN pre (ps.length + 1)) (Fr.entN ((ps.length : Int) + 1) p) u1.room)).1 = 0
  · rw [if_pos he]
    refine ⟨cs ++ [[p]], ?_, by simp, k2⟩
    show Kq pre (u1.five [nameN pre (ps.length + 1)] (wrU (nameN pre (ps.length + 1)) (Fr.entN ((ps.length : Int) + 1) p) u1.room)).2.us (ps ++ [p]) las1 (ss ++ [ps.length + 1]) (cs ++ [[p]])
    rw [(wr_ok he).2]
    exact k1.next (by rw [k5] at k1; exact k1.all) hn hE k4
  · rw [if_neg he]
    refine ⟨cs, ?_, by simp [he], k2⟩
    show Kq pre (u1.five [nameN pre (ps.length + 1)] (wrU (nameN pre (ps.length + 1)) (Fr.entN ((ps.length : Int) + 1) p) u1.room)).2.us ps las1 ss cs
    rw [wr_err he]
    exact k1
theorem Kq.crash {pre : List UInt8} {u : Ud} {ps : List (List Int)} {las : Nat} {ss : List Nat} {cs : List (List (List Int))} (h : Kq pre u.us ps las ss cs) (hn : ps.length ≤ 8000000) (ho : ∀ x, isSeg x pre = true → (lkU u.us x).isSome = true → ∃ n ∈ ss, x = nameN pre n) {t : Int} (ht : 0 ≤ t ∧ t < 256) (keep : Int) :
    ∃ rs, (openF pre (u.crash keep t)).2.1 = ps.take las ++ rs ∧ (ps.take las ++ rs).length ≤ ps.length ∧ (ps.take las).length = las := by
  have hw := h.wh
  have hle := h.le
  have hpe := hw.pe
  have hse := hw.se
  have hseg := segs_found hw.ris hw.seg (by rw [← hpe]; omega) (fun x h1 h2 => by rw [← hse]; exact ho x h1 h2) (Seg.all cs 0 hw.seg)
  have hnm : (u.crash keep t).us.map (·.1) = u.us.map (·.1) := by
    show (u.us.map (crA keep.toNat t)).map (·.1) = _
    rw [List.map_map]
    rfl
  have hlen : (ps.take las).length = las := by rw [List.length_take]; omega
  rcases List.eq_nil_or_concat cs with rfl | ⟨ds, c, rfl⟩
  · have h0 := h.nil rfl
    have hp0 : ps = [] := hpe
    refine ⟨[], ?_, by simp [h0, hp0], hlen⟩
    have h1 : (openF pre (u.crash keep t)).2 = (opF pre (u.crash keep t) (segsN ((u.crash keep t).us.map (·.1)) pre) 1).2 := by
      unfold openF
      split <;> rfl
    rw [h1, hnm, show segsN (u.us.map (·.1)) pre = [] from hseg, h0]
    simp only [opF]
    rfl
  · rw [List.concat_eq_append] at *
    obtain ⟨c1, c2, rfl, h2, h3⟩ := h.bd ds c rfl
    obtain ⟨hd, h4⟩ := (Seg_append ds [c1 ++ c2] 0).1 hw.seg
    rw [Nat.zero_add] at h4
    have hla : lastS ss = ds.flatten.length + 1 := by rw [hse]; exact lastS_strt ds _
    have hst : strt 0 (ds ++ [c1 ++ c2]) = strt 0 ds ++ [ds.flatten.length + 1] := by rw [strt_append]; simp [strt]
    have hlp : ps.length = ds.flatten.length + (c1 ++ c2).length := by rw [hpe]; simp
    have hdc : Seg pre (u.crash keep t).us 0 ds := hd.crash (fun m hm => hw.old m (by rw [hst]; simp [hm]) (fun e => by
      have := strt_lt ds 0 hd m hm
      omega)) _ _
    obtain ⟨f, hf⟩ := Option.isSome_iff_exists.1 h4.2.1
    have hf1 : f.1 = entsN ds.flatten.length (c1 ++ c2) := by have := h4.2.2.1; rw [at0U_of hf] at this; exact this
    have hf2 : f.2 = (entsN ds.flatten.length c1).length := by rw [← h2]; unfold at0U; rw [hf]; rfl
    have hB : (at0U (u.crash keep t).us (nameN pre (ds.flatten.length + 1))).1 = crB (entsN ds.flatten.length (c1 ++ c2)) (entsN ds.flatten.length c1).length keep.toNat t := by
      have : lkU (u.crash keep t).us (nameN pre (ds.flatten.length + 1)) = some (crB f.1 f.2 keep.toNat t, crN f.1 f.2 keep.toNat) := by
        show lkU (u.us.map (crA keep.toNat t)) _ = _
        rw [lkU_crashed, hf]
        rfl
      rw [at0U_of this, hf1, hf2]
    obtain ⟨rs, r1, r2⟩ := openF_torn ht keep.toNat hdc (fun d hd' p hp' => hw.epl d (by simp [hd']) p hp') (fun p hp' => hw.epl (c1 ++ c2) (by simp) p hp') (by omega) (by rw [hnm, hseg, hst]) hB
    have hps : ps = ds.flatten ++ c1 ++ c2 := by rw [hpe]; simp
    have hsp : ds.flatten ++ c1 = ps.take las ++ (ds.flatten ++ c1).drop las := by
      have e1 : ps.take las = (ds.flatten ++ c1).take las := by
        rw [hps, List.take_append_of_le_length (by rw [List.length_append]; exact h3)]
      rw [e1, List.take_append_drop]
    refine ⟨(ds.flatten ++ c1).drop las ++ rs, ?_, ?_, hlen⟩
    · rw [r1, ← List.append_assoc, ← hsp]
    · rw [← List.append_assoc, ← hsp, hpe]
      simpa using r2
end Go.Proofs.YtnkjhooeklodcaaGreatDoor
end
