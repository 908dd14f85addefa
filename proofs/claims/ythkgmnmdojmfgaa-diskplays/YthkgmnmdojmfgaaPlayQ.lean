/-
  DiskPlays: the document's disk in plain words (Qd): what each call answers and leaves.
-/
import Derived.Test.YthkgmnmdojmfgaaPlayW
import Derived.Test.YthkgmnmdojmfgaaPlayRen
namespace Go.Proofs.Ythkgmnmdojmfgaa
open Go.RowKit Go.Maps Go.Sort
variable {w w' : World} {F : Nat → Prop} {wb : Nat} {u : Ud}

/-- All blocks of the document's disk lie in F. -/
structure In3 (F : Nat → Prop) (wb : Nat) (v : Value) (L : List Fl3) : Prop where
  b : F wb
  v : ∀ k, v.ownBlock = some k → F k
  each : ∀ f ∈ L, ∀ k, f.v.ownBlock = some k → F k
/-- The document's disk at block wb. -/
def Qd (w : World) (F : Nat → Prop) (wb : Nat) (u : Ud) : Prop := ∃ v L, Rk w 0 wb v u.room u.left L ∧ In3 F wb v L ∧ abs3 L = u.us
def QRes (F : Nat → Prop) (wb : Nat) (u' : Ud) (w w' : World) : Prop := Qd w' (Pl F w.heap.size) wb u' ∧ Grows F w w'
theorem ownsRow_keepB {w w' : World} {base : Nat} {t : TypeId} {sz : Nat} {v : Value} {n : Nat} {cs : List Value} (h : w.ownsRow base t sz v n cs) (hk : ∀ k, v.ownBlock = some k → k < w.heap.size → w'.heap[k]? = w.heap[k]?) : w'.ownsRow base t sz v n cs := by
  refine ⟨h.1, ?_⟩
  rcases h.2 with h2 | ⟨g, cap, cur, rfl, hg0, hg, rest⟩
  · exact Or.inl h2
  · exact Or.inr ⟨g, cap, cur, rfl, hg0, (hk g rfl (Array.getElem?_eq_some_iff.1 hg).1).trans hg, rest⟩
theorem Qd.keep (h : Qd w F wb u) (hk : ∀ k, F k → k < w.heap.size → w'.heap[k]? = w.heap[k]?) : Qd w' F wb u := by
  obtain ⟨v, L, hr, hi, ha⟩ := h
  refine ⟨v, L, ⟨hr.blk.keep (hk wb hi.b hr.lt), ownsRow_keepB hr.row fun k e hl => hk k (hi.v k e) hl, fun f hf => ⟨ownsRow_keepB (hr.each f hf).1 fun k e hl => hk k (hi.each f hf k e) hl, (hr.each f hf).2⟩, hr.few, hr.wbb, hr.sep⟩, hi, ha⟩
theorem Qd.to (h : Qd w F wb u) (hb : Below w.heap.size w w') : Qd w' F wb u := h.keep fun k _ hk => hb.block k hk
theorem Qd.more {G : Nat → Prop} (h : Qd w F wb u) (hg : ∀ k, F k → k < w.heap.size → G k) : Qd w G wb u := by
  obtain ⟨v, L, hr, hi, ha⟩ := h
  exact ⟨v, L, hr, ⟨hg _ hi.b hr.lt, fun k e => hg k (hi.v k e) (World.ownsRow.lt hr.row k e).2, fun f hf k e => hg k (hi.each f hf k e) (World.ownsRow.lt (hr.each f hf).1 k e).2⟩, ha⟩
theorem Rg.grows {v : Value} (h : Rg w wb v w') (h1 : F wb) (h2 : ∀ k, v.ownBlock = some k → F k) : Grows F w w' :=
  ⟨h.os, h.tape, h.output, h.size, fun k hk hf => h.block k hk (fun e => hf (e ▸ h1)) (fun e => hf (h2 k e))⟩
theorem nilBlock : ∀ k, (Value.slice none 0 0).ownBlock = some k → F k := fun k e => by simp [Value.ownBlock] at e
/-- Nothing was done. -/
theorem Qd.stay {v : Value} {L : List Fl3} (hr : Rk w 0 wb v u.room u.left L) (hi : In3 F wb v L) (ha : abs3 L = u.us) (hb : Below w.heap.size w w') : QRes F wb u w w' :=
  ⟨⟨v, L, hr.below hb, ⟨Or.inl hi.b, fun k e => Or.inl (hi.v k e), fun f hf k e => Or.inl (hi.each f hf k e)⟩, ha⟩, ⟨hb.os, hb.tape, hb.output, hb.size, fun k hk _ => hb.block k hk⟩⟩
theorem erase_map {α β : Type} (f : α → β) : ∀ (l : List α) (k : Nat), (l.map f).eraseIdx k = (l.eraseIdx k).map f
  | [], _ => rfl
  | _ :: _, 0 => rfl
  | a :: l, k + 1 => by
    have ih := erase_map f l k
    simp [ih]
/-- Where a name stands. -/
theorem at_name {L : List Fl3} {x : Nm} {g : List Int × Nat} (hg : Gd u) (ha : abs3 L = u.us) (hl : lkU u.us x = some g) : ∃ f, L[spotN (names3 L) x]? = some f ∧ f.nm = x ∧ f.zs = g.1 ∧ f.l = g.2 ∧ dlU u.us x = abs3 (L.eraseIdx (spotN (names3 L) x)) ∧ ∀ f' : Fl3, f'.nm = x → ptU u.us x (f'.zs, f'.l) = abs3 (L.set (spotN (names3 L) x) f') := by
  obtain ⟨h1, h2, h3⟩ := spot_some_of hg.ris hl
  rw [← ha, abs3_names] at h1 h2 h3
  rw [abs3_get] at h1
  obtain ⟨f, hf, he⟩ := Option.map_eq_some_iff.1 h1
  simp only [Prod.mk.injEq] at he
  refine ⟨f, hf, he.1, by rw [← he.2], by rw [← he.2], ?_, fun f' hn => ?_⟩
  · rw [← ha, h2]
    simp [abs3, erase_map]
  · rw [← ha, h3, abs3_set, hn]
theorem no_name {L : List Fl3} {x : Nm} (hg : Gd u) (ha : abs3 L = u.us) (hl : lkU u.us x = none) : (names3 L)[spotN (names3 L) x]? ≠ some x ∧ ∀ f' : Fl3, f'.nm = x → ptU u.us x (f'.zs, f'.l) = abs3 (L.take (spotN (names3 L) x) ++ f' :: L.drop (spotN (names3 L) x)) := by
  obtain ⟨h1, h2, h3⟩ := spot_none_of hg.ris hl
  rw [← ha, abs3_names] at h1 h3
  refine ⟨h1, fun f' hn => ?_⟩
  rw [← ha, h3]
  simp [abs3, hn]
theorem row_some {v : Value} {L : List Fl3} {k : Nat} {f : Fl3} {room left : Int} (hr : Rk w 0 wb v room left L) (hf : L[k]? = some f) : ∃ g cap, v = .slice (some ⟨g, 0, none⟩) L.length cap := by
  rcases hr.shape with ⟨_, e⟩ | ⟨g, cap, e, _⟩
  · rw [e] at hf; simp at hf
  · exact ⟨g, cap, e⟩
theorem Gd.lefts (hg : Gd u) : -9223372036854775807 ≤ u.left ∧ u.left ≤ 9223372036854775807 := by have := hg.left; omega
theorem five_may (ns : List Nm) (f : Us → Int × Us) (h : mayE u.left ns ≠ 0) : u.five ns f = (mayE u.left ns, u) := by unfold Ud.five; rw [if_pos h]
theorem five_err (ns : List Nm) (f : Us → Int × Us) (h : mayE u.left ns = 0) {e : Int} (hf : f u.us = (e, u.us)) (he : e ≠ 0) : u.five ns f = (e, u) := by
  unfold Ud.five
  rw [if_neg (by simpa using h), hf, if_neg he]
theorem five_ok (ns : List Nm) (f : Us → Int × Us) (h : mayE u.left ns = 0) {us' : Us} (hf : f u.us = (0, us')) : u.five ns f = (0, ⟨u.room, us', didL u.left⟩) := by
  unfold Ud.five
  rw [if_neg (by simpa using h), hf, if_pos rfl]
theorem In3.set {v : Value} {L : List Fl3} {n : Nat} (hi : In3 F wb v L) (k : Nat) (f' : Fl3) (hf : ∀ q, f'.v.ownBlock = some q → F q ∨ n ≤ q) (v' : Value) (hv : v'.ownBlock = v.ownBlock) : In3 (Pl F n) wb v' (L.set k f') :=
  ⟨Or.inl hi.b, fun q e => Or.inl (hi.v q (hv ▸ e)), fun f hm q e => by
    rcases List.mem_or_eq_of_mem_set hm with h | rfl
    · exact Or.inl (hi.each f h q e)
    · exact hf q e⟩
theorem names_le {x : Nm} (hx : x.length ≤ 140737488355328) : x.length ≤ maxLen := by unfold maxLen; omega
theorem qSync (h : Qd w F wb u) (hg : Gd u) (x : Nm) (hx : x.length ≤ 140737488355328) : Calls Try.prog 38 #[.pointer (some ⟨wb, 0, none⟩), encStr x] w fun e w' => e = .returned (.int .i64 (u.five [x] (syU x)).1) ∧ QRes F wb (u.five [x] (syU x)).2 w w' := by
  obtain ⟨v, L, hr, hi, ha⟩ := h
  by_cases hm : mayE u.left [x] = 0
  · cases hl : lkU u.us x with
    | none =>
      rw [five_err [x] (syU x) hm (e := 7) (by unfold syU; rw [hl]) (by decide)]
      refine (sync3_none 0 wb v u.room u.left L x w hr hm (no_name hg ha hl).1 hx).mono ?_
      rintro e w' ⟨he, hb⟩
      exact ⟨he, Qd.stay hr hi ha hb⟩
    | some g =>
      obtain ⟨f, hf, hn, hz, _, _, hp⟩ := at_name hg ha hl
      obtain ⟨gb, cap, rfl⟩ := row_some hr hf
      rw [five_ok [x] (syU x) hm (us' := abs3 (L.set (spotN (names3 L) x) { f with l := f.zs.length })) (by unfold syU; rw [hl, ← hp ⟨f.nm, f.v, f.zs, f.zs.length⟩ hn]; simp only [hz])]
      refine (sync3_done 0 wb gb cap u.room u.left L x f w hr hm hf hn hx hg.lefts.1 hg.lefts.2).mono ?_
      rintro e w' ⟨he, hr', hgr⟩
      refine ⟨he, ⟨_, _, hr', ?_, rfl⟩, hgr.grows hi.b hi.v⟩
      refine hi.set (spotN (names3 L) x) ⟨f.nm, f.v, f.zs, f.zs.length⟩ (fun q e => Or.inl (hi.each f (List.mem_of_getElem? hf) q e)) _ ?_
      rfl
  · rw [five_may [x] _ hm]
    refine (sync3_may 0 wb v u.room u.left L x w hr hm hx).mono ?_
    rintro e w' ⟨he, hb⟩
    exact ⟨he, Qd.stay hr hi ha hb⟩
theorem qRemove (h : Qd w F wb u) (hg : Gd u) (x : Nm) (hx : x.length ≤ 140737488355328) : Calls Try.prog 41 #[.pointer (some ⟨wb, 0, none⟩), encStr x] w fun e w' => e = .returned (.int .i64 (u.five [x] (rmU x)).1) ∧ QRes F wb (u.five [x] (rmU x)).2 w w' := by
  obtain ⟨v, L, hr, hi, ha⟩ := h
  by_cases hm : mayE u.left [x] = 0
  · cases hl : lkU u.us x with
    | none =>
      rw [five_err [x] (rmU x) hm (e := 7) (by unfold rmU; rw [hl]) (by decide)]
      refine (remove3_none 0 wb v u.room u.left L x w hr hm (no_name hg ha hl).1 hx).mono ?_
      rintro e w' ⟨he, hb⟩
      exact ⟨he, Qd.stay hr hi ha hb⟩
    | some g =>
      obtain ⟨f, hf, hn, _, _, hd, _⟩ := at_name hg ha hl
      obtain ⟨gb, cap, rfl⟩ := row_some hr hf
      rw [five_ok [x] (rmU x) hm (us' := abs3 (L.eraseIdx (spotN (names3 L) x))) (by unfold rmU; rw [hl, ← hd])]
      refine (remove3_done 0 wb gb cap u.room u.left L x f w hr hm hf hn hx hg.lefts.1 hg.lefts.2).mono ?_
      rintro e w' ⟨he, v', hr', hq, hgr⟩
      exact ⟨he, ⟨v', _, hr', ⟨Or.inl hi.b, fun k e => Or.inr (hq k e), fun f' hf' k e => Or.inl (hi.each f' (List.mem_of_mem_eraseIdx hf') k e)⟩, rfl⟩, hgr.grows hi.b nilBlock⟩
  · rw [five_may [x] _ hm]
    refine (remove3_may 0 wb v u.room u.left L x w hr hm hx).mono ?_
    rintro e w' ⟨he, hb⟩
    exact ⟨he, Qd.stay hr hi ha hb⟩
theorem totU_mem {us : Us} {x : Nm} {g : List Int × Nat} (h : lkU us x = some g) : g.1.length ≤ totU us := by
  induction us with
  | nil => simp [lkU] at h
  | cons p r ih =>
    rw [lkU_cons] at h
    simp only [totU, List.map_cons, List.sum_cons] at ih ⊢
    by_cases hp : p.1 = x
    · rw [if_pos hp] at h
      cases h
      omega
    · rw [if_neg hp] at h
      have := ih h
      omega
theorem Gd.len (hg : Gd u) {x : Nm} {g : List Int × Nat} (h : lkU u.us x = some g) : g.1.length ≤ 1073741824 := by
  have h1 := totU_mem h
  have h2 := hg.fits
  have h3 := hg.room.2
  omega
theorem qCut (h : Qd w F wb u) (hg : Gd u) (x : Nm) (hx : x.length ≤ 140737488355328) (m : Int) : Calls Try.prog 39 #[.pointer (some ⟨wb, 0, none⟩), encStr x, .int .i64 m] w fun e w' => e = .returned (.int .i64 (u.five [x] (cuU x m)).1) ∧ QRes F wb (u.five [x] (cuU x m)).2 w w' := by
  obtain ⟨v, L, hr, hi, ha⟩ := h
  by_cases hm : mayE u.left [x] = 0
  · cases hl : lkU u.us x with
    | none =>
      rw [five_err [x] (cuU x m) hm (e := 7) (by unfold cuU; rw [hl]) (by decide)]
      refine (cut3_none 0 wb v u.room u.left L x m w hr hm (no_name hg ha hl).1 hx).mono ?_
      rintro e w' ⟨he, hb⟩
      exact ⟨he, Qd.stay hr hi ha hb⟩
    | some g =>
      obtain ⟨f, hf, hn, hz, hll, _, hp⟩ := at_name hg ha hl
      obtain ⟨gb, cap, rfl⟩ := row_some hr hf
      by_cases hc : m < 0 ∨ (g.1.length : Int) < m
      · rw [five_err [x] (cuU x m) hm (e := 1) (by unfold cuU; rw [hl]; simp only [if_pos hc]) (by decide)]
        refine (cut3_bad 0 wb gb cap u.room u.left L x m f w hr hm hf hn hx (by rw [hz]; exact hc)).mono ?_
        rintro e w' ⟨he, hb⟩
        exact ⟨he, Qd.stay hr hi ha hb⟩
      · obtain ⟨k, rfl⟩ : ∃ k : Nat, m = (k : Int) := Int.eq_ofNat_of_zero_le (by omega)
        have hk : k ≤ f.zs.length := by rw [hz]; omega
        rw [five_ok [x] (cuU x (k : Int)) hm (us' := ptU u.us x (g.1.take k, min g.2 k)) (by unfold cuU; rw [hl]; simp only [if_neg hc]; rfl)]
        refine (cut3_done 0 wb gb cap u.room u.left L x k f w hr hm hf hn hx hk (by rw [hz]; have := hg.len hl; omega) hg.lefts.1 hg.lefts.2).mono ?_
        rintro e w' ⟨he, v', hr', hq, hgr⟩
        refine ⟨he, ⟨_, _, hr', hi.set _ _ (fun q e => Or.inr (hq q e)) _ (by simp [Value.ownBlock]), ?_⟩, hgr.grows hi.b hi.v⟩
        rw [← hp ⟨f.nm, v', f.zs.take k, min f.l k⟩ hn, hz, hll]
  · rw [five_may [x] _ hm]
    refine (cut3_may 0 wb v u.room u.left L x m w hr hm hx).mono ?_
    rintro e w' ⟨he, hb⟩
    exact ⟨he, Qd.stay hr hi ha hb⟩
theorem tot3_abs (L : List Fl3) : totU (abs3 L) = tot3 L := by
  unfold totU abs3 tot3
  rw [List.map_map]
  rfl
theorem qWrite (h : Qd w F wb u) (hg : Gd u) (x : Nm) (hx : x.length ≤ 140737488355328) (ap : Option Addr) (cp : Nat) (ps : List Int) (hb : Bs w (.slice ap ps.length cp) ps) (hby : Byt ps) (hap : ps ≠ [] → ∀ k, (Value.slice ap ps.length cp).ownBlock = some k → ¬ F k) (hpl : ps.length ≤ 140737488355328) :
    Calls Try.prog 35 #[.pointer (some ⟨wb, 0, none⟩), encStr x, .slice ap ps.length cp] w fun e w' => e = .returned (.int .i64 (u.five [x] (wrU x ps u.room)).1) ∧ QRes F wb (u.five [x] (wrU x ps u.room)).2 w w' := by
  obtain ⟨v, L, hr, hi, ha⟩ := h
  have hT : tot3 L = totU u.us := by rw [← ha, tot3_abs]
  have hfits := hg.fits
  have hroom := hg.room
  have hT1 : tot3 L ≤ 1099511627776 := by omega
  by_cases hm : mayE u.left [x] = 0
  · by_cases hfull : fullU u.us x ps.length u.room = true
    · rw [five_err [x] (wrU x ps u.room) hm (e := 6) (by unfold wrU; rw [if_pos hfull]) (by decide)]
      have hfl : u.room < (tot3 L : Int) + (ps.length : Int) ∨ ((names3 L)[spotN (names3 L) x]? ≠ some x ∧ 4096 ≤ L.length) := by
        unfold fullU at hfull
        rw [Bool.or_eq_true] at hfull
        rcases hfull with e | e
        · rw [decide_eq_true_eq] at e
          left
          omega
        · rw [Bool.and_eq_true, decide_eq_true_eq] at e
          right
          have hn : lkU u.us x = none := by
            cases hl : lkU u.us x with
            | none => rfl
            | some g => rw [hl] at e; simp at e
          exact ⟨(no_name hg ha hn).1, by rw [← abs3_len, ha]; exact e.2⟩
      refine (write3_full 0 wb v u.room u.left L x ap cp ps w hr hm hx hT1 hpl hfl).mono ?_
      rintro e w' ⟨he, hb⟩
      exact ⟨he, Qd.stay hr hi ha hb⟩
    · have hnf : fullU u.us x ps.length u.room = false := by simpa using hfull
      unfold fullU at hnf
      rw [Bool.or_eq_false_iff, decide_eq_false_iff_not] at hnf
      have hfit : (tot3 L : Int) + (ps.length : Int) ≤ u.room := by omega
      rw [five_ok [x] (wrU x ps u.room) hm (us' := ptU u.us x ((at0U u.us x).1 ++ ps, (at0U u.us x).2)) (by unfold wrU; rw [if_neg hfull])]
      cases hl : lkU u.us x with
      | some g =>
        have h0 : at0U u.us x = g := by unfold at0U; rw [hl]; rfl
        rw [h0]
        obtain ⟨f, hf, hn, hz, hll, _, hp⟩ := at_name hg ha hl
        obtain ⟨gb, cap, rfl⟩ := row_some hr hf
        refine (write3_old 0 wb gb cap u.room u.left L x ap cp ps f w hr hf hn hm hx hT1 (by omega) hfit hb hby hg.lefts.1 hg.lefts.2).mono ?_
        rintro e w' ⟨he, v', hr', hq, hgr⟩
        refine ⟨he, ⟨_, _, hr', hi.set _ _ (fun q e => Or.inr (hq q e)) _ (by simp [Value.ownBlock]), ?_⟩, hgr.grows hi.b hi.v⟩
        rw [← hp ⟨f.nm, v', f.zs ++ ps, f.l⟩ hn, hz, hll]
      | none =>
        have h0 : at0U u.us x = ([], 0) := by unfold at0U; rw [hl]; rfl
        rw [h0]
        obtain ⟨hne, hp⟩ := no_name hg ha hl
        have hcnt : L.length < 4096 := by
          have := hnf.2
          rw [hl] at this
          simp at this
          rw [← abs3_len, ha]
          exact this
        refine (write3_new 0 wb v u.room u.left L x ap cp ps w hr hne hcnt hm hx hT1 (by omega) hfit hb hby hg.lefts.1 hg.lefts.2 (fun hne k e he => hap hne k e (he ▸ hi.b))).mono ?_
        rintro e w' ⟨he, v', v1, hr', hq, hq1, hgr⟩
        refine ⟨he, ⟨v', _, hr', ⟨Or.inl hi.b, fun k e => Or.inr (hq k e), fun f' hf' k e => ?_⟩, ?_⟩, hgr.grows hi.b nilBlock⟩
        · rcases List.mem_append.1 hf' with hm' | hm'
          · exact Or.inl (hi.each f' (List.mem_of_mem_take hm') k e)
          · rcases List.mem_cons.1 hm' with rfl | hm'
            · exact Or.inr (hq1 k e)
            · exact Or.inl (hi.each f' (List.mem_of_mem_drop hm') k e)
        · rw [← hp ⟨x, v1, ps, 0⟩ rfl]
          simp
  · rw [five_may [x] _ hm]
    refine (write3_may 0 wb v u.room u.left L x ap cp ps w hr hm hx).mono ?_
    rintro e w' ⟨he, hb⟩
    exact ⟨he, Qd.stay hr hi ha hb⟩
theorem rmL_abs {L : List Fl3} {us : Us} (hr : RisU us) (ha : abs3 L = us) (x : Nm) : abs3 (rmL L x) = dlU us x := by
  unfold rmL
  cases hl : lkU us x with
  | some g =>
    obtain ⟨h1, h2, _⟩ := spot_some_of hr hl
    rw [← ha, abs3_names] at h1 h2
    rw [if_pos (by
      rw [abs3_get] at h1
      obtain ⟨f, hf, he⟩ := Option.map_eq_some_iff.1 h1
      simp only [Prod.mk.injEq] at he
      simp [names3] at hf ⊢
      exact ⟨f, hf, he.1⟩), ← ha, h2]
    simp [abs3, erase_map]
  | none =>
    obtain ⟨h1, h2, _⟩ := spot_none_of hr hl
    rw [← ha, abs3_names] at h1
    rw [if_neg h1, ha, h2]
theorem qRename (h : Qd w F wb u) (hg : Gd u) (x y : Nm) (hx : x.length ≤ 140737488355328) (hy : y.length ≤ 140737488355328) : Calls Try.prog 40 #[.pointer (some ⟨wb, 0, none⟩), encStr x, encStr y] w fun e w' => e = .returned (.int .i64 (u.five [x, y] (rnU x y)).1) ∧ QRes F wb (u.five [x, y] (rnU x y)).2 w w' := by
  obtain ⟨v, L, hr, hi, ha⟩ := h
  by_cases hm : mayE u.left [x, y] = 0
  · cases hl : lkU u.us x with
    | none =>
      rw [five_err [x, y] (rnU x y) hm (e := 7) (by unfold rnU; rw [hl]) (by decide)]
      refine (ren3_none 0 wb v u.room u.left L x y w hr hm (no_name hg ha hl).1 hx hy).mono ?_
      rintro e w' ⟨he, hb⟩
      exact ⟨he, Qd.stay hr hi ha hb⟩
    | some g =>
      obtain ⟨f, hf, hn, hz, hll, _, hp⟩ := at_name hg ha hl
      obtain ⟨gb, cap, rfl⟩ := row_some hr hf
      rw [five_ok [x, y] (rnU x y) hm (us' := ptU (dlU u.us x) y g) (by unfold rnU; rw [hl])]
      by_cases hxy : x = y
      · subst hxy
        rw [rnU_same hg.ris hl]
        have hpos : (names3 L)[spotN (names3 L) x]? = some x := by simp [names3] at hf ⊢; exact ⟨f, hf, hn⟩
        refine (ren3_same 0 wb _ u.room u.left L x w hr hm hpos hx hg.lefts.1 hg.lefts.2).mono ?_
        rintro e w' ⟨he, hr', hgr⟩
        exact ⟨he, ⟨_, L, hr', ⟨Or.inl hi.b, fun k e => Or.inl (hi.v k e), fun f' hf' k e => Or.inl (hi.each f' hf' k e)⟩, ha⟩, hgr.grows hi.b nilBlock⟩
      · refine (ren3_done 0 wb gb cap u.room u.left L x y f w hr hm hf hn hxy hx hy hg.lefts.1 hg.lefts.2).mono ?_
        rintro e w' ⟨he, v', hr', hq, hgr⟩
        refine ⟨he, ⟨v', _, hr', ⟨Or.inl hi.b, fun k e => Or.inr (hq k e), fun f' hf' k e => ?_⟩, ?_⟩, hgr.grows hi.b nilBlock⟩
        · rcases List.mem_append.1 hf' with hm' | hm'
          · exact Or.inl (hi.each f' (rmL_mem (rmL_mem (List.mem_of_mem_take hm'))) k e)
          · rcases List.mem_cons.1 hm' with rfl | hm'
            · exact Or.inl (hi.each f (List.mem_of_getElem? hf) k e)
            · exact Or.inl (hi.each f' (rmL_mem (rmL_mem (List.mem_of_mem_drop hm'))) k e)
        · have e1 := rmL_abs hg.ris ha x
          have e2 := rmL_abs (hg.ris.dl x) e1 y
          have e3 : lkU (dlU (dlU u.us x) y) y = none := lkU_none dlU_ne
          obtain ⟨_, _, h3⟩ := spot_none_of ((hg.ris.dl x).dl y) e3
          have e4 : ptU (dlU (dlU u.us x) y) y g = ptU (dlU u.us x) y g := by
            unfold ptU
            rw [dlU_none (us := dlU (dlU u.us x) y) dlU_ne]
          rw [← e4, h3, ← e2, abs3_names]
          simp [abs3, hz, hll]
  · rw [five_may [x, y] _ hm]
    refine (ren3_may 0 wb v u.room u.left L x y w hr hm hx hy).mono ?_
    rintro e w' ⟨he, hb⟩
    exact ⟨he, Qd.stay hr hi ha hb⟩
theorem qFuse (h : Qd w F wb u) (n : Int) : Calls Try.prog 42 #[.pointer (some ⟨wb, 0, none⟩), .int .i64 n] w fun e w' => e = .returned (.tuple #[]) ∧ Qd w' F wb (u.fuse n) ∧ Grows F w w' := by
  obtain ⟨v, L, hr, hi, ha⟩ := h
  refine (fuse3_any wb u.room v u.left n w hr.blk).mono ?_
  rintro e w' ⟨he, rfl⟩
  exact ⟨he, ⟨v, L, hr.setF, hi, ha⟩, Grows.setCell _ _ _ hi.b⟩
theorem qCrash (h : Qd w F wb u) (hg : Gd u) (keep t : Int) (hk : keep < 9223372036854775808) (ht : 0 ≤ t ∧ t < 256) : Calls Try.prog 43 #[.pointer (some ⟨wb, 0, none⟩), .int .i64 keep, .int .u8 t] w fun e w' => e = .returned (.tuple #[]) ∧ QRes F wb (u.crash keep t) w w' := by
  obtain ⟨v, L, hr, hi, ha⟩ := h
  have hz : ∀ f ∈ L, f.zs.length ≤ 1073741824 := fun f hf => by
    have h1 : f.zs.length ≤ tot3 L := by
      obtain ⟨i, hi'⟩ := List.getElem?_of_mem hf
      have := tot3_take hi'
      have := tot3_le L (i + 1)
      omega
    have h2 : tot3 L = totU u.us := by rw [← ha, tot3_abs]
    have := hg.fits
    have := hg.room
    omega
  rcases hr.shape with ⟨rfl, rfl⟩ | ⟨g, cap, rfl, _⟩
  · refine (crash3_nil 0 wb u.room u.left keep _ w hr).mono ?_
    rintro e w' ⟨he, hr', hgr⟩
    refine ⟨he, ⟨_, [], hr', ⟨Or.inl hi.b, nilBlock, fun f hf => (by cases hf)⟩, ?_⟩, hgr.grows hi.b nilBlock⟩
    unfold Ud.crash
    rw [← ha]
    rfl
  · refine (crash3_some 0 wb g cap u.room u.left L keep t w hr hz hk ht).mono ?_
    rintro e w' ⟨he, L', hr', ha', hfr, hgr⟩
    refine ⟨he, ⟨_, L', hr', ⟨Or.inl hi.b, fun k e => Or.inl (hi.v k e), fun f hf k e => ?_⟩, by rw [ha', ha]; rfl⟩, hgr.grows hi.b hi.v⟩
    rcases hfr f hf k e with ⟨f0, h1, h2⟩ | h1
    · exact Or.inl (hi.each f0 h1 k h2)
    · exact Or.inr h1
theorem qCopy (h : Qd w F wb u) (hg : Gd u) : Calls Try.prog 14 #[.pointer (some ⟨wb, 0, none⟩)] w fun e w' => e = .returned (.pointer (some ⟨w.heap.size, 0, none⟩)) ∧ Qd w' (fun k => w.heap.size ≤ k) w.heap.size u.copy ∧ Below w.heap.size w w' := by
  obtain ⟨v, L, hr, hi, ha⟩ := h
  have hz : ∀ f ∈ L, f.zs.length ≤ 1073741824 := fun f hf => by
    have h1 : f.zs.length ≤ tot3 L := by
      obtain ⟨i, hi'⟩ := List.getElem?_of_mem hf
      have := tot3_take hi'
      have := tot3_le L (i + 1)
      omega
    have h2 : tot3 L = totU u.us := by rw [← ha, tot3_abs]
    have := hg.fits
    have := hg.room
    omega
  refine (copy3_any 0 wb v u.room u.left L w hr hz).mono ?_
  rintro e w' ⟨he, vO, LO, hr', ha', hb⟩
  refine ⟨he, ⟨vO, LO, ⟨hr'.blk, O3.base hr'.row (Nat.zero_le _), fun f hf => ⟨(hr'.each f hf).1.mono (Nat.zero_le _), (hr'.each f hf).2⟩, hr'.few, Nat.zero_le _, hr'.sep⟩, ⟨Nat.le_refl _, fun k e => (World.ownsRow.lt hr'.row k e).1, fun f hf k e => (World.ownsRow.lt (hr'.each f hf).1 k e).1⟩, by rw [ha', ha]; rfl⟩, hb⟩
theorem qUsed (h : Qd w F wb u) (hg : Gd u) : Calls Try.prog 46 #[.pointer (some ⟨wb, 0, none⟩)] w fun e w' => e = .returned (.int .i64 (totU u.us : Int)) ∧ w' = w := by
  obtain ⟨v, L, hr, hi, ha⟩ := h
  have h2 : tot3 L = totU u.us := by rw [← ha, tot3_abs]
  rw [← h2]
  refine (used_any 0 wb v u.room u.left L w hr (by have := hg.fits; have := hg.room; omega)).mono ?_
  rintro e w' ⟨he, rfl⟩
  exact ⟨he, rfl⟩
theorem qRead (h : Qd w F wb u) (hg : Gd u) (x : Nm) : Calls Try.prog 44 #[.pointer (some ⟨wb, 0, none⟩), encStr x] w fun e w' => ∃ ao cap, e = .returned (.tuple #[.slice ao (at0U u.us x).1.length cap, .int .i64 (rdE u.us x)]) ∧ Ow w' w.heap.size (.slice ao (at0U u.us x).1.length cap) (at0U u.us x).1 ∧ Below w.heap.size w w' := by
  obtain ⟨v, L, hr, hi, ha⟩ := h
  cases hl : lkU u.us x with
  | none =>
    have h0 : at0U u.us x = ([], 0) := by unfold at0U; rw [hl]; rfl
    have h1 : rdE u.us x = 7 := by unfold rdE; rw [hl]; rfl
    rw [h0, h1]
    refine (read3_none 0 wb v u.room u.left L x w hr (no_name hg ha hl).1).mono ?_
    rintro e w' ⟨he, hs⟩
    exact ⟨none, 0, he, World.ownsRow_nil _ _ _ _, hs.below _⟩
  | some g =>
    have h0 : at0U u.us x = g := by unfold at0U; rw [hl]; rfl
    have h1 : rdE u.us x = 0 := by unfold rdE; rw [hl]; rfl
    obtain ⟨f, hf, hn, hz, _⟩ := at_name hg ha hl
    rw [h0, h1, ← hz]
    exact read3_some 0 wb v u.room u.left L x f w hr hf hn (by rw [hz]; have := hg.len hl; omega)
theorem qNames (h : Qd w F wb u) : Calls Try.prog 45 #[.pointer (some ⟨wb, 0, none⟩)] w fun e w' => ∃ v, e = .returned v ∧ Ot w' w.heap.size v (u.us.map (·.1)) ∧ Below w.heap.size w w' := by
  obtain ⟨v, L, hr, hi, ha⟩ := h
  rw [← ha, abs3_names]
  refine (names3_any 0 wb v u.room u.left L w hr).mono ?_
  rintro e w' ⟨ao, cap, he, ho, hb⟩
  exact ⟨_, he, ho, hb⟩
theorem qNew (room : Int) (w : World) (h : 0 ≤ room ∧ room ≤ 1073741824) : Calls Try.prog 12 #[.int .i64 room] w fun e w' => e = .returned (.tuple #[.pointer (some ⟨w.heap.size, 0, none⟩), .int .i64 0]) ∧ Qd w' (fun k => k = w.heap.size) w.heap.size ⟨room, [], -1⟩ ∧ Below w.heap.size w w' := by
  refine (new3_any room w h.1 h.2).mono ?_
  rintro e w' ⟨he, hr, hb⟩
  exact ⟨he, ⟨_, [], ⟨hr.blk, World.ownsRow_nil _ _ _ _, fun f hf => (by cases hf), by simp, Nat.zero_le _, hr.sep⟩, ⟨rfl, nilBlock, fun f hf => (by cases hf)⟩, rfl⟩, hb⟩
end Go.Proofs.Ythkgmnmdojmfgaa
