/-
  Joined from: SegWh6, SegWh7, SegMy, SegDo5, SegNo.
-/
import Derived.Test.YtnkjhooeklodcaaGreatDoorM48
import Derived.Test.YtnkjhooeklodcaaGreatDoorM47
import Derived.Laws.IdiomStrings
section
/-
  Whole segments (Wh) behind an Append that has room. Plain facts; no walk.
-/
namespace Go.Proofs.YtnkjhooeklodcaaGreatDoor
open Go.RowKit Go.Maps Go.Sort

/-- A log's entries stand whole in its segments; all but the last of these last. -/
structure Wh (pre : List UInt8) (u : Ud) (ps : List (List Int)) (ss : List Nat) (cs : List (List (List Int))) : Prop where
  ris : RisU u.us
  left : u.left = -1
  seg : Seg pre u.us 0 cs
  pe : ps = cs.flatten
  se : ss = strt 0 cs
  epl : ∀ c ∈ cs, ∀ p ∈ c, Epl p
  old : ∀ m ∈ strt 0 cs, m ≠ lastS ss → Lasts u.us (nameN pre m)
theorem lastS_strt (ds : List (List (List Int))) (c : List (List Int)) : lastS (strt 0 (ds ++ [c])) = ds.flatten.length + 1 := by
  rw [strt_append]
  simp [lastS, strt]
theorem strt_grow (ds : List (List (List Int))) (c d : List (List Int)) : strt 0 (ds ++ [c]) = strt 0 (ds ++ [d]) := by
  rw [strt_append, strt_append]
  rfl
/-- Append into the last segment. -/
theorem Wh.grow {pre : List UInt8} {u : Ud} {ps : List (List Int)} {ss : List Nat} {ds : List (List (List Int))} {c : List (List Int)} (h : Wh pre u ps ss (ds ++ [c])) (hn : ps.length ≤ 8000000) (hp64 : pre.length ≤ 50) {p : List Int} (hp : Epl p) (las sz : Nat) (hz : sz < 512) (hr : (totU u.us : Int) + ((Fr.entN ((ps.length : Int) + 1) p).length : Int) ≤ u.room) (hc : u.us.length < 4096) :
    ∃ u', apO pre u ps las ss sz false p = ⟨(ps.length : Int) + 1, 0, u', ps ++ [p], las, ss, sz + (Fr.entN ((ps.length : Int) + 1) p).length, false⟩ ∧ Wh pre u' (ps ++ [p]) ss (ds ++ [c ++ [p]]) ∧ u'.room = u.room ∧ totU u'.us = totU u.us + (Fr.entN ((ps.length : Int) + 1) p).length ∧ u'.us.length ≤ u.us.length + 1 := by
  have hpe := h.pe
  have hse := h.se
  have hlen : ps.length = ds.flatten.length + c.length := by rw [hpe]; simp
  have hss : ss ≠ [] := by rw [hse, strt_append]; simp [strt]
  have hla : lastS ss = ds.flatten.length + 1 := by rw [hse]; exact lastS_strt ds c
  have hb : badN (nameN pre (lastS ss)) = false := badN_seg (isSeg_name pre (by omega)) (by rw [nameN_len pre _ (by omega)]; omega)
  have hw := wr_free h.left hb (Fr.entN ((ps.length : Int) + 1) p) hr hc
  have ht := totU_pt h.ris (nameN pre (lastS ss)) ((at0U u.us (nameN pre (lastS ss))).1 ++ Fr.entN ((ps.length : Int) + 1) p, (at0U u.us (nameN pre (lastS ss))).2)
  have hp2 := hp.2
  refine ⟨⟨u.room, ptU u.us (nameN pre (lastS ss)) ((at0U u.us (nameN pre (lastS ss))).1 ++ Fr.entN ((ps.length : Int) + 1) p, (at0U u.us (nameN pre (lastS ss))).2), -1⟩, ?_, ?_, rfl, ?_, ht.2⟩
  · unfold apO
    rw [if_neg (by decide), if_neg (by omega), if_pos ⟨hss, hz⟩, hw]
    unfold apW
    rw [if_pos rfl]
  · refine ⟨?_, rfl, ?_, by rw [hpe]; simp, by rw [hse]; exact strt_grow ds c _, ?_, ?_⟩
    · exact h.ris.pt _ _
    · rw [hla]
      refine h.seg.grow (f := ((at0U u.us (nameN pre (ds.flatten.length + 1))).1 ++ Fr.entN ((ps.length : Int) + 1) p, (at0U u.us (nameN pre (ds.flatten.length + 1))).2)) (by rw [← hpe]; omega) (by rw [lkU_pt, if_pos rfl]) (by rw [← hpe]) fun y hy => by rw [lkU_pt, if_neg hy]
    · intro d hd q hq
      rcases List.mem_append.1 hd with hd | hd
      · exact h.epl d (by simp [hd]) q hq
      · rw [List.mem_singleton.1 hd] at hq
        rcases List.mem_append.1 hq with hq | hq
        · exact h.epl c (by simp) q hq
        · rw [List.mem_singleton.1 hq]; exact hp
    · intro m hm hne f hf
      rw [strt_grow ds _ c] at hm
      have hl := strt_lt _ 0 h.seg m hm
      rw [← hpe] at hl
      rw [lkU_pt, if_neg (fun e => hne (nameN_inj (by omega) (by omega) e))] at hf
      exact h.old m hm hne f hf
  · have := ht.1
    simp only [List.length_append] at this
    show totU (ptU _ _ _) = _
    omega
theorem Seg.alike {pre : List UInt8} {us us' : Us} : ∀ (cs : List (List (List Int))) (n : Nat), Seg pre us n cs → (∀ m ∈ strt n cs, (lkU us' (nameN pre m)).isSome = (lkU us (nameN pre m)).isSome ∧ (at0U us' (nameN pre m)).1 = (at0U us (nameN pre m)).1) → Seg pre us' n cs
  | [], _, _, _ => trivial
  | c :: cs, n, h, hk => by
    obtain ⟨h1, h2, h3, h4⟩ := h
    have e := hk (n + 1) (by simp [strt])
    exact ⟨h1, by rw [e.1]; exact h2, by rw [e.2]; exact h3, Seg.alike cs (n + c.length) h4 fun m hm => hk m (by simp [strt, hm])⟩
/-- Sync of the last segment: all last. -/
theorem Wh.sync {pre : List UInt8} {u : Ud} {ps : List (List Int)} {ss : List Nat} {ds : List (List (List Int))} {c : List (List Int)} (h : Wh pre u ps ss (ds ++ [c])) (hn : ps.length ≤ 8000000) (hp64 : pre.length ≤ 50) :
    ∃ u', u.five [nameN pre (lastS ss)] (syU (nameN pre (lastS ss))) = (0, u') ∧ Wh pre u' ps ss (ds ++ [c]) ∧ (∀ m ∈ strt 0 (ds ++ [c]), Lasts u'.us (nameN pre m)) ∧ u'.room = u.room ∧ totU u'.us = totU u.us ∧ u'.us.length ≤ u.us.length + 1 ∧ ∀ y, (lkU u'.us y).isSome = (lkU u.us y).isSome := by
  have hpe := h.pe
  have hse := h.se
  have hlen : ps.length = ds.flatten.length + c.length := by rw [hpe]; simp
  have hla : lastS ss = ds.flatten.length + 1 := by rw [hse]; exact lastS_strt ds c
  have hmem : lastS ss ∈ strt 0 (ds ++ [c]) := by rw [hla, strt_append]; simp [strt]
  have hb : badN (nameN pre (lastS ss)) = false := badN_seg (isSeg_name pre (by omega)) (by rw [nameN_len pre _ (by omega)]; omega)
  obtain ⟨f, hf, hsy⟩ := syU_some (Seg.all _ 0 h.seg (lastS ss) hmem)
  have ht := totU_pt h.ris (nameN pre (lastS ss)) (f.1, f.1.length)
  have hal : ∀ y, (lkU (ptU u.us (nameN pre (lastS ss)) (f.1, f.1.length)) y).isSome = (lkU u.us y).isSome ∧ (at0U (ptU u.us (nameN pre (lastS ss)) (f.1, f.1.length)) y).1 = (at0U u.us y).1 := fun y => by
    unfold at0U
    rw [lkU_pt]
    split
    · rename_i e; rw [e, hf]; exact ⟨rfl, rfl⟩
    · exact ⟨rfl, rfl⟩
  have hls : ∀ m ∈ strt 0 (ds ++ [c]), Lasts (ptU u.us (nameN pre (lastS ss)) (f.1, f.1.length)) (nameN pre m) := fun m hm g hg => by
    rw [lkU_pt] at hg
    by_cases e : nameN pre m = nameN pre (lastS ss)
    · rw [if_pos e] at hg
      cases hg
      rfl
    · rw [if_neg e] at hg
      exact h.old m hm (fun e2 => e (by rw [e2])) g hg
  refine ⟨⟨u.room, ptU u.us (nameN pre (lastS ss)) (f.1, f.1.length), -1⟩, ?_, ⟨h.ris.pt _ _, rfl, h.seg.alike _ _ fun m _ => hal _, hpe, hse, h.epl, fun m hm _ => hls m hm⟩, hls, rfl, ?_, ht.2, fun y => (hal y).1⟩
  · rw [five_free h.left hb, hsy]
  · have h1 := ht.1
    rw [at0U_of hf] at h1
    show totU (ptU _ _ _) = _
    simp only at h1
    omega
end Go.Proofs.YtnkjhooeklodcaaGreatDoor
end

section
/-
  Whole segments (Wh): a new segment. Plain facts; no walk.
-/
namespace Go.Proofs.YtnkjhooeklodcaaGreatDoor
open Go.RowKit Go.Maps Go.Sort

/-- Append opens a segment; what there was lasts. -/
theorem Wh.next {pre : List UInt8} {u : Ud} {ps : List (List Int)} {ss : List Nat} {cs : List (List (List Int))} (h : Wh pre u ps ss cs) (hls : ∀ m ∈ strt 0 cs, Lasts u.us (nameN pre m)) (hn : ps.length ≤ 8000000) (hp64 : pre.length ≤ 50) {p : List Int} (hp : Epl p) (hno : lkU u.us (nameN pre (ps.length + 1)) = none) (hr : (totU u.us : Int) + ((Fr.entN ((ps.length : Int) + 1) p).length : Int) ≤ u.room) (hc : u.us.length < 4096) :
    ∃ u', u.five [nameN pre (ps.length + 1)] (wrU (nameN pre (ps.length + 1)) (Fr.entN ((ps.length : Int) + 1) p) u.room) = (0, u') ∧ Wh pre u' (ps ++ [p]) (ss ++ [ps.length + 1]) (cs ++ [[p]]) ∧ u'.room = u.room ∧ totU u'.us = totU u.us + (Fr.entN ((ps.length : Int) + 1) p).length ∧ u'.us.length ≤ u.us.length + 1 := by
  have hpe := h.pe
  have hse := h.se
  have hb : badN (nameN pre (ps.length + 1)) = false := badN_seg (isSeg_name pre (by omega)) (by rw [nameN_len pre _ (by omega)]; omega)
  have hw := wr_free h.left hb (Fr.entN ((ps.length : Int) + 1) p) hr hc
  have ha : at0U u.us (nameN pre (ps.length + 1)) = ([], 0) := by unfold at0U; rw [hno]; rfl
  rw [ha] at hw
  have ht := totU_pt h.ris (nameN pre (ps.length + 1)) (Fr.entN ((ps.length : Int) + 1) p, 0)
  rw [ha] at ht
  have hlt : ∀ m ∈ strt 0 cs, nameN pre m ≠ nameN pre (ps.length + 1) := fun m hm e => by
    have h1 := strt_lt cs 0 h.seg m hm
    rw [← hpe] at h1
    have := nameN_inj (by omega) (by omega) e
    omega
  refine ⟨⟨u.room, ptU u.us (nameN pre (ps.length + 1)) (Fr.entN ((ps.length : Int) + 1) p, 0), -1⟩, hw, ⟨h.ris.pt _ _, rfl, ?_, by rw [hpe]; simp, ?_, ?_, ?_⟩, rfl, ?_, ht.2⟩
  · refine h.seg.more (p := p) (f := (Fr.entN ((ps.length : Int) + 1) p, 0)) (by rw [← hpe, lkU_pt, if_pos rfl]) (by rw [← hpe]) fun m hm => by rw [lkU_pt, if_neg (hlt m hm)]
  · rw [strt_append, ← hse, ← hpe]
    simp [strt]
  · intro d hd q hq
    rcases List.mem_append.1 hd with hd | hd
    · exact h.epl d hd q hq
    · rw [List.mem_singleton.1 hd] at hq
      rw [List.mem_singleton.1 hq]; exact hp
  · intro m hm hne f hf
    rw [strt_append] at hm
    rcases List.mem_append.1 hm with hm | hm
    · rw [lkU_pt, if_neg (hlt m hm)] at hf
      exact hls m hm f hf
    · have e : m = ps.length + 1 := by
        rw [hpe]
        simpa [strt] using hm
      exact absurd (by rw [e]; simp [lastS]) hne
  · have := ht.1
    simp only [List.length_nil] at this
    show totU (ptU _ _ _) = _
    omega
theorem Wh.free {pre : List UInt8} {u : Ud} {ps : List (List Int)} {ss : List Nat} {cs : List (List (List Int))} (h : Wh pre u ps ss cs) (hn : ps.length ≤ 8000000) (ho : ∀ x, isSeg x pre = true → (lkU u.us x).isSome = true → ∃ n ∈ ss, x = nameN pre n) : lkU u.us (nameN pre (ps.length + 1)) = none := by
  cases hl : lkU u.us (nameN pre (ps.length + 1)) with
  | none => rfl
  | some f =>
    obtain ⟨n, h1, h2⟩ := ho (nameN pre (ps.length + 1)) (isSeg_name pre (by omega)) (by rw [hl]; rfl)
    rw [h.se] at h1
    have h3 := strt_lt cs 0 h.seg n h1
    rw [← h.pe] at h3
    have := nameN_inj (n := ps.length + 1) (m := n) (by omega) (by omega) h2
    omega
end Go.Proofs.YtnkjhooeklodcaaGreatDoor
end

section
/-
  Many entries: the segments but the last are full, none has much more. Plain facts; no walk.
-/
namespace Go.Proofs.YtnkjhooeklodcaaGreatDoor
open Go.RowKit Go.Maps Go.Sort

/-- No segment has more than 511 + E bytes; all but the last have 512 or more. -/
def Fu (E : Nat) (cs : List (List (List Int))) : Prop := ∀ ds c es, cs = ds ++ c :: es → (entsN ds.flatten.length c).length ≤ 511 + E ∧ (es ≠ [] → 512 ≤ (entsN ds.flatten.length c).length)
theorem Fu.nil (E : Nat) : Fu E [] := fun ds c es h => by simp at h
theorem Fu.grow {E : Nat} {ds : List (List (List Int))} {c : List (List Int)} {p : List Int} (h : Fu E (ds ++ [c])) (hs : (entsN ds.flatten.length c).length < 512) (hp : (Fr.entN (((ds.flatten.length + c.length : Nat) : Int) + 1) p).length ≤ E) : Fu E (ds ++ [c ++ [p]]) := by
  intro ds' c' es' he
  rcases List.eq_nil_or_concat es' with rfl | ⟨es, x, rfl⟩
  · obtain ⟨rfl, e2⟩ := List.append_inj' he rfl
    injection e2 with e2 _
    subst e2
    refine ⟨?_, fun e => absurd rfl e⟩
    rw [entsN_append]
    simp only [entsN, List.append_nil, List.length_append]
    omega
  · rw [List.concat_eq_append, ← List.cons_append, ← List.append_assoc] at he
    obtain ⟨e1, _⟩ := List.append_inj' he rfl
    have h2 := h ds' c' (es ++ [c]) (by rw [e1]; simp)
    exact ⟨h2.1, fun _ => h2.2 (by simp)⟩
theorem Fu.next {E : Nat} {cs : List (List (List Int))} {p : List Int} (h : Fu E cs) (hs : ∀ ds c, cs = ds ++ [c] → 512 ≤ (entsN ds.flatten.length c).length) (hp : (Fr.entN ((cs.flatten.length : Int) + 1) p).length ≤ E) : Fu E (cs ++ [[p]]) := by
  intro ds' c' es' he
  rcases List.eq_nil_or_concat es' with rfl | ⟨es, x, rfl⟩
  · obtain ⟨rfl, e2⟩ := List.append_inj' he rfl
    injection e2 with e2 _
    subst e2
    refine ⟨?_, fun e => absurd rfl e⟩
    simp only [entsN, List.append_nil]
    omega
  · rw [List.concat_eq_append, ← List.cons_append, ← List.append_assoc] at he
    obtain ⟨e1, _⟩ := List.append_inj' he rfl
    have h2 := h ds' c' es e1
    refine ⟨h2.1, fun _ => ?_⟩
    by_cases h0 : es = []
    · subst h0; exact hs _ _ e1
    · exact h2.2 h0
theorem Seg.last {pre : List UInt8} {us : Us} {ds : List (List (List Int))} {c : List (List Int)} {es : List (List (List Int))} (h : Seg pre us 0 (ds ++ c :: es)) : (lkU us (nameN pre (ds.flatten.length + 1))).isSome = true ∧ (at0U us (nameN pre (ds.flatten.length + 1))).1 = entsN ds.flatten.length c := by
  obtain ⟨_, h2⟩ := (Seg_append ds (c :: es) 0).1 h
  rw [Nat.zero_add] at h2
  exact ⟨h2.2.1, h2.2.2.1⟩
/-- How a log stands behind so many entries. -/
structure My (E : Nat) (u : Ud) (ps : List (List Int)) (las : Nat) (ss : List Nat) (sz : Nat) (cs : List (List (List Int))) : Prop where
  wh : Wh [97] u ps ss cs
  fu : Fu E cs
  la : las ≤ ps.length
  lb : las = ps.length → ps = []
  tot : totU u.us ≤ ps.length * E
  few : u.us.length ≤ 2 * ps.length
  rm : u.room = 1048576
theorem My.start (E : Nat) (sz : Nat) : My E ⟨1048576, [], -1⟩ [] 0 [] sz [] :=
  ⟨⟨List.Pairwise.nil, rfl, trivial, rfl, rfl, (fun c hc => by cases hc), (fun m hm => by cases hm)⟩, Fu.nil E, Nat.le_refl _, fun _ => rfl, by simp [totU], by simp, rfl⟩
/-- One more entry. -/
theorem My.step {E : Nat} {u : Ud} {ps : List (List Int)} {las : Nat} {ss : List Nat} {sz k : Nat} {cs : List (List (List Int))} (h : My E u ps las ss sz cs) (hsl : Sl [97] u ps las ss sz k) (hn : ps.length < 300) (hE : E ≤ 222) {p : List Int} (hp : Epl p) (hpE : p.length + 22 ≤ E) :
    ∃ u' las' ss' sz' cs', apO [97] u ps las ss sz false p = ⟨(ps.length : Int) + 1, 0, u', ps ++ [p], las', ss', sz', false⟩ ∧ My E u' (ps ++ [p]) las' ss' sz' cs' := by
  have hp2 := hp.2
  have hw := h.wh
  have hent := ent_le ps.length p
  have htot := h.tot
  have hm1 : ps.length * E ≤ 299 * 222 := Nat.mul_le_mul (by omega) hE
  have hms : (ps ++ [p]).length * E = ps.length * E + E := by rw [List.length_append, List.length_singleton, Nat.add_mul, Nat.one_mul]
  have hrm := h.rm
  have hr : (totU u.us : Int) + ((Fr.entN ((ps.length : Int) + 1) p).length : Int) ≤ u.room := by rw [hrm]; omega
  have hfew := h.few
  have hfree := hw.free (by omega) hsl.seg
  have hla := h.la
  have hlen : (ps ++ [p]).length = ps.length + 1 := by simp
  have mk : ∀ (u' : Ud) (las' : Nat) (ss' : List Nat) (sz' : Nat) (cs' : List (List (List Int))), Wh [97] u' (ps ++ [p]) ss' cs' → Fu E cs' → las' ≤ ps.length → u'.room = u.room → totU u'.us = totU u.us + (Fr.entN ((ps.length : Int) + 1) p).length → u'.us.length ≤ u.us.length + 2 → My E u' (ps ++ [p]) las' ss' sz' cs' :=
    fun u' las' ss' sz' cs' a1 a2 a3 a4 a5 a6 => ⟨a1, a2, by omega, fun e => by omega, by rw [a5, hms]; omega, by omega, a4.trans hrm⟩
  rcases List.eq_nil_or_concat cs with rfl | ⟨ds, c, rfl⟩
  · have hss : ss = [] := hw.se
    obtain ⟨u', e1, e2, e3, e4, e5⟩ := hw.next (fun m hm => by cases hm) (by omega) (by decide) hp hfree hr (by omega)
    refine ⟨u', las, ss ++ [ps.length + 1], (Fr.entN ((ps.length : Int) + 1) p).length, _, ?_, mk _ _ _ _ _ e2 (h.fu.next (fun ds c e => by simp at e) ?_) hla e3 e4 (by omega)⟩
    · unfold apO syS
      rw [if_neg (by decide), if_neg (by omega), if_neg (fun e => e.1 hss), if_pos hss, if_neg (fun e => e rfl), e1]
      unfold apW
      rw [if_pos rfl]
    · have := ent_le 0 p
      simp only [List.flatten_nil, List.length_nil]
      omega
  · rw [List.concat_eq_append] at *
    have hse := hw.se
    have hss : ss ≠ [] := by rw [hse, strt_append]; simp [strt]
    have hlst : lastS ss = ds.flatten.length + 1 := by rw [hse]; exact lastS_strt ds c
    have hpl : ps.length = ds.flatten.length + c.length := by rw [hw.pe]; simp
    have hszc : (entsN ds.flatten.length c).length = sz := by
      rw [← hsl.szq hss, hlst]
      unfold lenU
      rw [(hw.seg.last (es := [])).2]
    by_cases hz : sz < 512
    · obtain ⟨u', e1, e2, e3, e4, e5⟩ := hw.grow (by omega) (by decide) hp las sz hz hr (by omega)
      exact ⟨u', las, ss, _, _, e1, mk _ _ _ _ _ e2 (h.fu.grow (by omega) (by rw [← hpl]; omega)) hla e3 e4 (by omega)⟩
    · have hfu : Fu E (ds ++ [c] ++ [[p]]) := h.fu.next (fun ds' c' e => by
        obtain ⟨rfl, e2⟩ := List.append_inj' e rfl
        injection e2 with e2 _
        subst e2
        omega) (by rw [← hw.pe]; omega)
      by_cases hq : las = ps.length
      · have := h.lb hq
        rw [this] at hpl
        have hc0 : c = [] := List.eq_nil_of_length_eq_zero (by simp at hpl; omega)
        have h7 := ((Seg_append ds [c] 0).1 hw.seg).2.1
        exact absurd hc0 h7
      · obtain ⟨u1, s1, s2, s3, s4, s5, s6, s7⟩ := hw.sync (by omega) (by decide)
        have hno1 : lkU u1.us (nameN [97] (ps.length + 1)) = none := by
          have := s7 (nameN [97] (ps.length + 1))
          rw [hfree] at this
          exact Option.isNone_iff_eq_none.1 (by simpa using this)
        obtain ⟨u', e1, e2, e3, e4, e5⟩ := s2.next s3 (by omega) (by decide) hp hno1 (by rw [s5, s4]; exact hr) (by omega)
        refine ⟨u', ps.length, ss ++ [ps.length + 1], (Fr.entN ((ps.length : Int) + 1) p).length, _, ?_, mk _ _ _ _ _ e2 hfu (Nat.le_refl _) (e3.trans s4) (by rw [e4, s5]) (by omega)⟩
        have hsy : syS u ps.length las (nameN [97] (lastS ss)) ss = (0, u1, ps.length, false) := by
          unfold syS syL
          rw [if_neg hss, if_neg (by decide), if_neg hq, s1]
          simp
        unfold apO
        rw [if_neg (by decide), if_neg (by omega), if_neg (fun e => hz e.2), hsy, if_neg (fun e => e rfl), e1]
        unfold apW
        rw [if_pos rfl]
/-- The i-th segment's file. -/
theorem My.file {E : Nat} {u : Ud} {ps : List (List Int)} {las : Nat} {ss : List Nat} {sz : Nat} {cs : List (List (List Int))} (h : My E u ps las ss sz cs) (i : Nat) (hi : i + 1 < ss.length) : ∃ m, ss[i]? = some m ∧ (lkU u.us (nameN [97] m)).isSome = true ∧ 512 ≤ lenU u.us (nameN [97] m) ∧ lenU u.us (nameN [97] m) ≤ 511 + E := by
  have hl : ∀ (cs : List (List (List Int))) (n : Nat), (strt n cs).length = cs.length := by
    intro cs
    induction cs with
    | nil => intro n; rfl
    | cons c cs ih => intro n; simp [strt, ih]
  have hic : i + 1 < cs.length := by rw [← hl cs 0, ← h.wh.se]; exact hi
  have hcut : cs = cs.take i ++ cs[i] :: cs.drop (i + 1) := by
    rw [← List.drop_eq_getElem_cons (by omega)]
    exact (List.take_append_drop i cs).symm
  have hne : cs.drop (i + 1) ≠ [] := fun e => by
    have := congrArg List.length e
    simp at this
    omega
  have hseg := h.wh.seg
  rw [hcut] at hseg
  obtain ⟨s1, s2⟩ := hseg.last
  obtain ⟨f1, f2⟩ := h.fu _ _ _ hcut
  refine ⟨(cs.take i).flatten.length + 1, ?_, s1, ?_, ?_⟩
  · rw [h.wh.se, hcut, strt_append]
    rw [List.getElem?_append_right (by rw [hl]; simp; omega), hl]
    have : (cs.take i).length = i := by simp; omega
    simp [this, strt]
  · unfold lenU; rw [s2]; exact f2 hne
  · unfold lenU; rw [s2]; exact f1
end Go.Proofs.YtnkjhooeklodcaaGreatDoor
end

section
/-
  does: an Entry, in both.
-/
namespace Go.Proofs.YtnkjhooeklodcaaGreatDoor
open Go.RowKit Go.Maps Go.Sort

variable {w w' w1 w2 : World} {B N pb sb wb lb xb : Nat} {Z D F G H : Nat → Prop} {u u' v : Ud} {es fs : List En} {las : Nat} {sz k : Nat} {dead : Bool} {ss : List Nat} {ps : List (List Int)} {l x : Value}
/-- What Entry answers. -/
def enA (ps : List (List Int)) (n : Int) : List Int × Int := if 1 ≤ n ∧ n ≤ (ps.length : Int) then (ps.getD (n - 1).toNat [], 0) else ([], 7)
theorem enA_at {es : List En} (he : es.map (·.2) = ps) {n : Int} (hn : 1 ≤ n ∧ n ≤ (ps.length : Int)) : ∃ (i : Nat) (r : En), n = (i : Int) + 1 ∧ es[i]? = some r ∧ enA ps n = (r.2, 0) := by
  have hl : es.length = ps.length := by rw [← he]; simp
  obtain ⟨r, hr⟩ : ∃ r, es[(n - 1).toNat]? = some r := ⟨_, List.getElem?_eq_getElem (by omega)⟩
  refine ⟨(n - 1).toNat, r, by omega, hr, ?_⟩
  have h1 : ps[(n - 1).toNat]? = some r.2 := by rw [← he, List.getElem?_map, hr]; rfl
  unfold enA
  rw [if_pos hn, List.getD_eq_getElem?_getD, h1]
  rfl
theorem enA_no {n : Int} (hn : ¬ (1 ≤ n ∧ n ≤ (ps.length : Int))) : enA ps n = ([], 7) := by unfold enA; rw [if_neg hn]
theorem LEn2 (h : Hs w B Z pb sb wb lb xb u ps las ss sz dead k) (n : Int) :
    Calls Tryz.prog 25 #[.pointer (some ⟨lb, 0, none⟩), .int .i64 n] w fun e w' => ∃ ao cap, e = .returned (.tuple #[.slice ao (enA ps n).1.length cap, .int .i64 (enA ps n).2]) ∧ Ow w' w.heap.size (.slice ao (enA ps n).1.length cap) (enA ps n).1 ∧ Below w.heap.size w w' := by
  obtain ⟨D, F, G, H, es, fs, hT, he, hf, hS, _⟩ := h
  obtain ⟨ev, nv, hl⟩ := hT.l.l
  by_cases hn : 1 ≤ n ∧ n ≤ (ps.length : Int)
  · obtain ⟨i, r, rfl, hr, hA⟩ := enA_at he hn
    rw [hA]
    exact LEntry_any i r w hl hr
  · rw [enA_no hn]
    refine (LEntry_no n w hl (by have hl : es.length = ps.length := by { rw [← he]; simp }; omega)).mono ?_
    rintro e w' ⟨rfl, rfl⟩
    exact ⟨none, 0, rfl, World.ownsRow_nil _ _ _ _, Below.refl _ _⟩
theorem XEn2 (h : Hs w B Z pb sb wb lb xb u ps las ss sz dead k) (n : Int) :
    Calls Tryz.prog 43 #[.pointer (some ⟨xb, 0, none⟩), .int .i64 n] w fun e w' => ∃ ao cap, e = .returned (.tuple #[.slice ao (enA ps n).1.length cap, .int .i64 (enA ps n).2]) ∧ Ow w' w.heap.size (.slice ao (enA ps n).1.length cap) (enA ps n).1 ∧ Below w.heap.size w w' := by
  obtain ⟨D, F, G, H, es, fs, hT, he, hf, hS, _⟩ := h
  obtain ⟨ev, nv, hl⟩ := hT.x.l
  by_cases hn : 1 ≤ n ∧ n ≤ (ps.length : Int)
  · obtain ⟨i, r, rfl, hr, hA⟩ := enA_at hf hn
    rw [hA]
    exact XEntry_any i r w hl hr
  · rw [enA_no hn]
    refine (XEntry_no n w hl (by have hl : fs.length = ps.length := by { rw [← hf]; simp }; omega)).mono ?_
    rintro e w' ⟨rfl, rfl⟩
    exact ⟨none, 0, rfl, World.ownsRow_nil _ _ _ _, Below.refl _ _⟩
theorem enA_len (h : Hs w B Z pb sb wb lb xb u ps las ss sz dead k) (n : Int) : (enA ps n).1.length ≤ 65536 := by
  obtain ⟨D, F, G, H, es, fs, hT, he, hf, hS, _⟩ := h
  obtain ⟨ev, nv, hl⟩ := hT.l.l
  by_cases hn : 1 ≤ n ∧ n ≤ (ps.length : Int)
  · obtain ⟨i, r, rfl, hr, hA⟩ := enA_at he hn
    rw [hA]
    exact (hl.each r (List.mem_of_getElem? hr)).2.2.1
  · rw [enA_no hn]
    exact Nat.zero_le _
/-- What a step leaves that laid nothing. -/
def DoQ (w : World) (B pb sb wb lb xb : Nat) (u : Ud) (ps : List (List Int)) (las : Nat) (ss : List Nat) (sz : Nat) (dead : Bool) (k : Nat) (e : Ending) (w' : World) : Prop :=
  e = .returned (.bool true) ∧ Grows (fun j => B ≤ j) w w' ∧ Hs w' B (fun j => j < w'.heap.size) pb sb wb lb xb u ps las ss sz dead k
set_option maxHeartbeats 8000000 in
set_option maxRecDepth 100000 in
theorem does5 (h : Hs w B Z pb sb wb lb xb u ps las ss sz dead k) (hc : Cx w B) (c x1 : Int) (k1 : c ≠ 1) (k2 : c ≠ 2) (k3 : c ≠ 3) (k4 : c ≠ 4) (k6 : c ≠ 6) (sv : Value) (hsv : ∃ ao m cap, sv = .slice ao m cap) (t : Int) :
    Calls Tryz.prog 12 #[.pointer (some ⟨pb, 0, none⟩), .agg #[.int .i64 c, .int .i64 x1, sv, .int .u8 t]] w (DoQ w B pb sb wb lb xb u ps las ss sz dead k) := by
  obtain ⟨ao, m, cap, rfl⟩ := hsv
  have hB1 : Below w.heap.size w (w.alloc (.cells #[.int .i64 c, .int .i64 x1, .slice ao m cap, .int .u8 t] 40)) := (Below.refl _ _).alloc (Nat.le_refl _) _
  have hw1 : Cw (w.alloc (.cells #[.int .i64 c, .int .i64 x1, .slice ao m cap, .int .u8 t] 40)) w.heap.size [.int .i64 c, .int .i64 x1, .slice ao m cap, .int .u8 t] 40 := Cw.new w [.int .i64 c, .int .i64 x1, .slice ao m cap, .int .u8 t] 40
  have hs1 : (w.alloc (.cells #[.int .i64 c, .int .i64 x1, .slice ao m cap, .int .u8 t] 40)).heap.size = w.heap.size + 1 := World.size_alloc _ _
  have c0 := hw1.cell 0
  simp only [List.getElem?_cons_zero] at c0
  have e1 : (c == 1) = false := beq_eq_false_iff_ne.2 k1
  have e2 : (c == 2) = false := beq_eq_false_iff_ne.2 k2
  have e3 : (c == 3) = false := beq_eq_false_iff_ne.2 k3
  have e4 : (c == 4) = false := beq_eq_false_iff_ne.2 k4
  have e6 : (c == 6) = false := beq_eq_false_iff_ne.2 k6
  have hbw := hc.bw
  obtain ⟨W1, hW1⟩ : ∃ W1, w.alloc (.cells #[.int .i64 c, .int .i64 x1, .slice ao m cap, .int .u8 t] 40) = W1 := ⟨_, rfl⟩
  rw [hW1] at hB1 hw1 hs1 c0
  have HH : Hid (∀ W, Below W1.heap.size W1 W → Hs W B Z pb sb wb lb xb u ps las ss sz dead k) := fun W hb => (h.below hB1).below hb
  have HS : Hid (∀ W, Below W1.heap.size W1 W → (W.cell? ⟨pb, 2, none⟩ = some (.pointer (some ⟨lb, 0, none⟩)) ∧ W.cell? ⟨pb, 3, none⟩ = some (.pointer (some ⟨xb, 0, none⟩)) ∧ W.cell? ⟨w.heap.size, 1, none⟩ = some (.int .i64 x1))) := fun W hb => by
    have hp := (HH.out W hb).pair
    exact ⟨hp.cell 2, hp.cell 3, (hw1.below hb hw1.lt).cell 1⟩
  have hd1 : Below W1.heap.size W1 W1.drew := (Below.refl _ _).drew
  have CA := LEn2 (HH.out W1.drew hd1) x1
  have HX : Hid (∀ W, Below W1.heap.size W1 W → _) := fun W hb => XEn2 (HH.out W hb) x1
  have hel := enA_len h x1
  have hSt := HS.out W1.drew hd1
  generalize enA ps x1 = ea at *
  obtain ⟨zs, er⟩ := ea
  have hzz : eqB zs zs = true := by simp [eqB]
  clear h hc
  go_enter Tryz.func12, Tryz.ntmps12
  go_wp2_with fail
  go_region_held3 (fun y => y.cell? ⟨pb, 2, none⟩ = some (.pointer (some ⟨lb, 0, none⟩)) ∧ y.cell? ⟨pb, 3, none⟩ = some (.pointer (some ⟨xb, 0, none⟩)) ∧ y.cell? ⟨w.heap.size, 1, none⟩ = some (.int .i64 x1)) (assumption)
    (first | (go_at_call 25; refine CA.mono ?_; rintro e w2 ⟨ao2, cap2, rfl, ho2, hb2⟩; have hB2 : Below W1.heap.size W1 w2 := hd1.trans hb2; have hS2 := HS.out w2 hB2))
  have hB2d : Below W1.heap.size W1 w2.drew := hB2.drew
  have hS2d := HS.out w2.drew hB2d
  have CX := HX.out w2.drew hB2d
  clear CA hS2 hSt
  go_wp2_with fail
  go_region_held3 (fun y => y.cell? ⟨pb, 2, none⟩ = some (.pointer (some ⟨lb, 0, none⟩)) ∧ y.cell? ⟨pb, 3, none⟩ = some (.pointer (some ⟨xb, 0, none⟩)) ∧ y.cell? ⟨w.heap.size, 1, none⟩ = some (.int .i64 x1)) (assumption)
    (first | (go_at_call 43; refine CX.mono ?_; rintro e w3 ⟨ao3, cap3, rfl, ho3, hb3⟩; have hB3 : Below W1.heap.size W1 w3 := hB2d.trans (hb3.mono hB2d.size); have hS3 := HS.out w3 hB3))
  have ho2' : Ow w3 W1.heap.size (.slice ao2 zs.length cap2) zs := ownsRow_below ho2 ((Below.refl w2.heap.size w2).drew.trans hb3)
  have C3 := same_any _ _ zs zs w3 (Ow.bs ho2') (Ow.bs ho3)
  rw [hzz] at C3
  clear CX hS2d hS3
  go_wp2_with fail
  refine C3.mono ?_
  rintro e w4 ⟨rfl, hs4⟩
  have hB4 : Below W1.heap.size W1 w4 := hB3.trans (hs4.below _)
  have ho4 : Ow w4 W1.heap.size (.slice ao2 zs.length cap2) zs := ownsRow_below ho2' (hs4.below _)
  have C4 := spoil_any W1.heap.size _ zs w4 ho4 hB4.size (by omega)
  have HOWN : Hid (∀ q, (Value.slice ao2 zs.length cap2).ownBlock = some q → W1.heap.size ≤ q) := fun q hq => (World.ownsRow.lt ho4 q hq).1
  clear C3
  go_wp2_with fail
  refine C4.mono ?_
  rintro e w5 ⟨rfl, hg5⟩
  have HF : Hid (DoQ w B pb sb wb lb xb u ps las ss sz dead k (.returned (.bool true)) w5) := by
    have hB5 : Below W1.heap.size W1 w5 := hB4.trans ⟨hg5.os, hg5.tape, hg5.output, hg5.size, fun q hq => hg5.block q (by have := hB4.size; omega) (fun e => by have := HOWN.out q e.symm; omega)⟩
    have hB : Below w.heap.size w w5 := hB1.trans (hB5.mono hB1.size)
    refine ⟨rfl, ⟨hB.os, hB.tape, hB.output, hB.size, fun j hj hn => hB.block j hj⟩, (HH.out w5 hB5).tight⟩
  clear C4 hg5 hB4 hs4
  go_wp2_with fail
  go_ret
  exact HF.out
end Go.Proofs.YtnkjhooeklodcaaGreatDoor
end

section
/-
  The law SeglogOfNothing, walked.
-/
namespace Go.Proofs.YtnkjhooeklodcaaGreatDoor
open Go.RowKit Go.Maps Go.Sort

variable {w w' : World}
set_option maxHeartbeats 2000000 in
set_option maxRecDepth 100000 in
theorem LOpen_nil (pre : List UInt8) (w : World) : Calls Tryz.prog 22 #[.pointer none, encStr pre] w fun e w' => e = .returned (.tuple #[.pointer none, .int .i64 1]) ∧ w' = w := by
  go_enter Tryz.func22, Tryz.ntmps22
  go_wp2
  go_ret2
  exact ⟨rfl, rfl⟩
set_option maxHeartbeats 2000000 in
set_option maxRecDepth 100000 in
theorem LOpen_bad (a : Addr) (pre : List UInt8) (h : pre.length < 1 ∨ 50 < pre.length) (w : World) : Calls Tryz.prog 22 #[.pointer (some a), encStr pre] w fun e w' => e = .returned (.tuple #[.pointer none, .int .i64 1]) ∧ w' = w := by
  have hz : (⟨pre.toArray⟩ : ByteArray).size = pre.length := by simp [ByteArray.size]
  by_cases h1 : pre.length < 1
  · have f1 : (pre.length : Int) < 1 := by omega
    go_enter Tryz.func22, Tryz.ntmps22
    go_wp2
    go_ret2
    exact ⟨rfl, rfl⟩
  · have f1 : ¬ (pre.length : Int) < 1 := by omega
    have f2 : (50 : Int) < (pre.length : Int) := by omega
    go_enter Tryz.func22, Tryz.ntmps22
    go_wp2
    go_ret2
    exact ⟨rfl, rfl⟩
theorem made_zero (n : Nat) : madeCells #[Value.int .u8 0] n = (cellsOf (List.replicate n 0)).toArray := by
  apply Array.ext
  · simp [madeCells, cellsOf]
  · intro i h1 h2
    simp [madeCells, cellsOf, Nat.mod_one]
theorem make_b (n : Nat) (hn : n ≤ 1000) (w : World) : (Instr.makeSlice 38 (.int .i64 (n : Int)) (.int .i64 (n : Int))).run Tryz.prog w = .ok (.slice (some ⟨w.heap.size, 0, none⟩) n n) (w.alloc (.cells (cellsOf (List.replicate n 0)).toArray 5)) := by
  obtain ⟨i0, hi, hz0, hz1, hz2⟩ := info_parts Tryz.info5
  have h := run_make (P := Tryz.prog) w 38 5 i0 (.int .u8 0) Tryz.underlying38 hi hz0 .i64 .i64 (n : Int) (n : Int) (by omega) (Int.le_refl _) (by rw [hz2]; omega) (by omega)
  rw [hz1] at h
  simp only [Int.toNat_natCast, Nat.mul_one] at h
  rw [h, show (Value.int .u8 0).cells = #[Value.int .u8 0] from rfl, made_zero]
theorem wpList_make_b (w : World) {ops : Array Oper} {rest : List Oper} {o : Oper} {a : Act} {Q : Exit → Act → World → Prop} (hgd : o.guard = none) (l c : Operand) (ho : o.op = .makeSlice 38 l c) (n : Nat) (hl : a.eval l = .int .i64 (n : Int)) (hc : a.eval c = .int .i64 (n : Int)) (hn : n ≤ 1000)
    (h : ∀ W, Cw W w.heap.size (cellsOf (List.replicate n 0)) 5 → Below w.heap.size w W → W.heap.size = w.heap.size + 1 → wpList Tryz.prog ops Q rest (a.put o.dst (.slice (some ⟨w.heap.size, 0, none⟩) n n)) W) : wpList Tryz.prog ops Q (o :: rest) a w := by
  have hrun := make_b n hn w
  refine wpList_plain hgd fun _ hK => ?_
  unfold Oper.wp execOp
  simp only [ho, hl, hc, hrun, Sem.run_bind, Sem.run_pure, Result.andThen_ok]
  exact hK _ _ (h _ (Cw.new w _ 5) ((Below.refl _ _).alloc (Nat.le_refl _) _) (World.size_alloc _ _))
theorem wpList_str_b (w : World) {ops : Array Oper} {rest : List Oper} {o : Oper} {a : Act} {Q : Exit → Act → World → Prop} (hgd : o.guard = none) (x : Operand) (ho : o.op = .convert 38 9 x) (n g : Nat) (hx : a.eval x = .slice (some ⟨g, 0, none⟩) n n) (hc : Cw w g (cellsOf (List.replicate n 0)) 5)
    (h : wpList Tryz.prog ops Q rest (a.put o.dst (encStr (List.replicate n 0))) w) : wpList Tryz.prog ops Q (o :: rest) a w := by
  have hrun : (convert 38 9 (.slice (some ⟨g, 0, none⟩) n n)).run Tryz.prog w = .ok (.string ⟨(List.replicate n (0 : UInt8)).toArray⟩) w := by
    have := run_convert_bytes_back (P := Tryz.prog) w 38 9 5 ⟨g, 0, none⟩ n (List.replicate n (0 : UInt8)) Tryz.underlying38 Tryz.underlying5 Tryz.underlying9 (fun j hj => by
      rw [Addr.add_lit, hc.cell]
      simp only [List.length_replicate] at hj
      simp [cellsOf, hj])
    rw [List.length_replicate] at this
    exact this
  refine wpList_plain hgd fun _ hK => ?_
  unfold Oper.wp execOp
  simp only [ho, hx, hrun, Sem.run_bind, Sem.run_pure, Result.andThen_ok]
  exact hK _ _ h
set_option maxHeartbeats 8000000 in
set_option maxRecDepth 100000 in
theorem nothing_walk (ao : Option Addr) (m cap : Nat) (n long : Int) (w : World) (hc : Cx w w.heap.size) : Calls Tryz.prog 7 #[.slice ao m cap, .int .i64 n, .int .i64 long] w fun e w' => e = .returned (.bool true) ∧ Below w.heap.size w w' := by
  by_cases hm : (1000 : Int) < (m : Int)
  · go_enter Tryz.func7, Tryz.ntmps7
    go_wp2_with fail
    go_ret
    exact ⟨rfl, Below.refl _ _⟩
  by_cases hl0 : long < 0
  · go_enter Tryz.func7, Tryz.ntmps7
    go_wp2_with fail
    go_ret
    exact ⟨rfl, Below.refl _ _⟩
  by_cases hl1 : (100 : Int) < long
  · go_enter Tryz.func7, Tryz.ntmps7
    go_wp2_with fail
    go_ret
    exact ⟨rfl, Below.refl _ _⟩
  obtain ⟨k, rfl⟩ : ∃ k : Nat, long = (k : Int) := ⟨long.toNat, by omega⟩
  have HK := fun (W : World) (hb : Below w.heap.size w W) => known_any W ⟨(hc.below hb).tab, (hc.below hb).pw, Nat.le_trans hc.b8 hb.size, Nat.le_refl _⟩
  have C1 := fun w1 => pNew 100 w1 (by decide)
  have hk100 : k ≤ 1000 := by omega
  by_cases hbad : k < 1 ∨ 50 < k
  · have CB := fun (a : Addr) (w1 : World) => LOpen_bad a (List.replicate k 0) (by rw [List.length_replicate]; exact hbad) w1
    go_enter Tryz.func7, Tryz.ntmps7
    go_wp2_with fail
    refine (LAppend_nil _ _).mono ?_
    rintro e w1 ⟨rfl, hw⟩
    replace hw := hw.symm
    subst hw
    go_wp2_with fail
    refine (LEntry_nil _ _).mono ?_
    rintro e w1 ⟨rfl, hw⟩
    replace hw := hw.symm
    subst hw
    go_wp2_with fail
    refine (LNext_nil _).mono ?_
    rintro e w1 ⟨rfl, hw⟩
    replace hw := hw.symm
    subst hw
    go_wp2_with fail
    refine (LOpen_nil [97] _).mono ?_
    rintro e w1 ⟨rfl, hw⟩
    replace hw := hw.symm
    subst hw
    go_wp2_with fail
    refine (C1 _).mono ?_
    rintro e w1 ⟨rfl, hP1, hB1⟩
    go_wp2_with (first | (refine wpList_make_b _ rfl (.tmp 58) (.tmp 58) rfl k rfl rfl hk100 ?_; intro w2 hcw2 hB2 hs2) | (refine wpList_str_b _ rfl (.tmp 59) rfl k _ rfl hcw2 ?_))
    refine (CB _ _).mono ?_
    rintro e w3 ⟨rfl, hw⟩
    replace hw := hw.symm
    subst hw
    have HB : Hid (Below w.heap.size w w2) := hB1.trans (hB2.mono hB1.size)
    clear hP1 hcw2 hs2 hB1 hB2 CB C1
    by_cases hk1 : (k : Int) < 1
    · have d1 : decide ((k : Int) < 1) = true := decide_eq_true hk1
      go_wp2_with fail
      refine (LSync_nil _).mono ?_
      rintro e w4 ⟨rfl, hw⟩
      replace hw := hw.symm
      subst hw
      go_wp2_with fail
      refine (LNames_nil _).mono ?_
      rintro e w4 ⟨rfl, hw⟩
      replace hw := hw.symm
      subst hw
      go_wp2_with fail
      refine (HK _ HB.out).mono ?_
      rintro e w5 ⟨rfl, hb5⟩
      have HF : Hid (Below w.heap.size w w5) := HB.out.trans (hb5.mono HB.out.size)
      clear HB hb5
      go_wp2_with fail
      go_ret
      exact ⟨rfl, HF.out⟩
    · have d1 : decide ((k : Int) < 1) = false := decide_eq_false (by omega)
      have d2 : decide ((50 : Int) < (k : Int)) = true := decide_eq_true (by omega)
      go_wp2_with fail
      refine (LSync_nil _).mono ?_
      rintro e w4 ⟨rfl, hw⟩
      replace hw := hw.symm
      subst hw
      go_wp2_with fail
      refine (LNames_nil _).mono ?_
      rintro e w4 ⟨rfl, hw⟩
      replace hw := hw.symm
      subst hw
      go_wp2_with fail
      refine (HK _ HB.out).mono ?_
      rintro e w5 ⟨rfl, hb5⟩
      have HF : Hid (Below w.heap.size w w5) := HB.out.trans (hb5.mono HB.out.size)
      clear HB hb5
      go_wp2_with fail
      go_ret
      exact ⟨rfl, HF.out⟩
  · have hk1 : ¬ (k : Int) < 1 := by omega
    have hk2 : ¬ (50 : Int) < (k : Int) := by omega
    have CO := fun (w2 : World) (sb : Nat) (D : Nat → Prop) (h : Pd w2 D sb ⟨100, [], -1⟩) (hD : ∀ j, D j → j < w2.heap.size) (hcx : Cx w2 w.heap.size) (hlow : ∀ j, j < 8 → ¬ D j) => LOpen_any (pre := List.replicate k 0) w2 h hD (by rw [List.length_replicate]; omega) (by rw [List.length_replicate]; omega) (fun x hx => by simp at hx) (by show 0 ≤ 4000000; omega) hcx.tab hcx.pw (Nat.le_trans hcx.b8 hcx.bw) hlow
    simp only [openF_empty] at CO
    go_enter Tryz.func7, Tryz.ntmps7
    go_wp2_with fail
    refine (LAppend_nil _ _).mono ?_
    rintro e w1 ⟨rfl, hw⟩
    replace hw := hw.symm
    subst hw
    go_wp2_with fail
    refine (LEntry_nil _ _).mono ?_
    rintro e w1 ⟨rfl, hw⟩
    replace hw := hw.symm
    subst hw
    go_wp2_with fail
    refine (LNext_nil _).mono ?_
    rintro e w1 ⟨rfl, hw⟩
    replace hw := hw.symm
    subst hw
    go_wp2_with fail
    refine (LOpen_nil [97] _).mono ?_
    rintro e w1 ⟨rfl, hw⟩
    replace hw := hw.symm
    subst hw
    go_wp2_with fail
    refine (C1 _).mono ?_
    rintro e w1 ⟨rfl, hP1, hB1⟩
    go_wp2_with (first | (refine wpList_make_b _ rfl (.tmp 58) (.tmp 58) rfl k rfl rfl hk100 ?_; intro w2 hcw2 hB2 hs2) | (refine wpList_str_b _ rfl (.tmp 59) rfl k _ rfl hcw2 ?_))
    have hl1 : w.heap.size < w1.heap.size := by
      obtain ⟨mb, fs, lit, lf, hd, _⟩ := hP1
      exact hd.cells.lt
    have hb12 : Below w.heap.size w w2 := hB1.trans (hB2.mono hB1.size)
    have CO2 := CO w2 w.heap.size _ (hP1.to hB2) (fun j hj => by omega) (hc.below hb12) (fun j hj e => by have := hc.b8; omega)
    refine CO2.mono ?_
    intro e w3 hL
    obtain ⟨lb, es, D', F', rfl, _, _, _, _, hg3⟩ := hL.ok rfl
    have HB : Hid (Below w.heap.size w w3) := by
      have hs := hB2.size
      exact ⟨hg3.os.trans hb12.os, hg3.tape.trans hb12.tape, hg3.output.trans hb12.output, Nat.le_trans hb12.size hg3.size, fun j hj => (hg3.block j (by omega) (by omega)).trans (hb12.block j hj)⟩
    clear hP1 hcw2 hs2 hB1 hB2 CO CO2 C1 hL hg3 hb12
    have d1 : decide ((k : Int) < 1) = false := decide_eq_false (by omega)
    have d2 : decide ((50 : Int) < (k : Int)) = false := decide_eq_false (by omega)
    go_wp2_with fail
    refine (LSync_nil _).mono ?_
    rintro e w4 ⟨rfl, hw⟩
    replace hw := hw.symm
    subst hw
    go_wp2_with fail
    refine (LNames_nil _).mono ?_
    rintro e w4 ⟨rfl, hw⟩
    replace hw := hw.symm
    subst hw
    go_wp2_with fail
    refine (HK _ HB.out).mono ?_
    rintro e w5 ⟨rfl, hb5⟩
    have HF : Hid (Below w.heap.size w w5) := HB.out.trans (hb5.mono HB.out.size)
    clear HB hb5
    go_wp2_with fail
    go_ret
    exact ⟨rfl, HF.out⟩
end Go.Proofs.YtnkjhooeklodcaaGreatDoor
end
