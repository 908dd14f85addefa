/-
  Joined from: PlayQ, RowsW, Texts, PlayT, SegIs.
-/
import Derived.Test.YtnkjhooeklodcaaGreatDoorM27
import Derived.Test.YtnkjhooeklodcaaGreatDoorM18
import Derived.Test.YtnkjhooeklodcaaGreatDoorM25
section
/-
  DiskPlays: the document's disk in plain words (Qd): what each call answers and leaves.
-/
namespace Go.Proofs.YtnkjhooeklodcaaGreatDoor
open Go.RowKit Go.Maps Go.Sort
variable {w w' : World} {F : Nat → Prop} {wb : Nat} {u : Ud}

structure In3 (F : Nat → Prop) (wb : Nat) (v : Value) (L : List Fl3) : Prop where
  b : F wb
  v : ∀ k, v.ownBlock = some k → F k
  each : ∀ f ∈ L, ∀ k, f.v.ownBlock = some k → F k
def Qd (w : World) (F : Nat → Prop) (wb : Nat) (u : Ud) : Prop := ∃ v L, Rk w 0 wb v u.room u.left L ∧ In3 F wb v L ∧ abs3 L = u.us
def QRes (F : Nat → Prop) (wb : Nat) (u' : Ud) (w w' : World) : Prop := Qd w' (Pl F w.heap.size) wb u' ∧ Grows F w w'
theorem ownsRow_keepB {w w' : World} {base : Nat} {t : TypeId} {sz : Nat} {v : Value} {n : Nat} {cs : List Value} (h : w.ownsRow base t sz v n cs) (hk : ∀ k, v.ownBlock = some k → k < w.heap.size → w'.heap[k]? = w.heap[k]?) : w'.ownsRow base t sz v n cs := by
  refine ⟨h.1, ?_⟩
  rcases h.2 with h2 | ⟨g, cap, cur, rfl, hg0, hg, rest⟩
  · exact Or.inl h2
  · exact Or.inr ⟨g, cap, cur, rfl, hg0, (hk g rfl (Array.getElem?_eq_some_iff.1 hg).1).trans hg, rest⟩
theorem Qd.keep (h : Qd w F wb u) (hk : ∀ k, F k → k < w.heap.size → w'.heap[k]? = w.heap[k]?) : Qd w' F wb u := by
  obtain ⟨v, L, hr, hi, ha⟩ := h
  refine ⟨v, L, ⟨hr.blk.keep (hk wb hi.b hr.lt), ownsRow_keepB hr.row fun k e hl => hk k (hi.v k e) hl, fun f hf => ⟨ownsRow_keepB (hr.each f hf).1 fun k e hl => hk k (hi.each f hf k e) hl, (hr.each f hf).2⟩, hr.few, hr.wbb, hr.sep⟩, hi, ha⟩
theorem Qd.to (h : Qd w F wb u) (hb : Below w.heap.size w w') : Qd w' F wb u := h.keep fun k _ hk => hb.block k hk
theorem Qd.more {G : Nat → Prop} (h : Qd w F wb u) (hg : ∀ k, F k → k < w.heap.size → G k) : Qd w G wb u := by
  obtain ⟨v, L, hr, hi, ha⟩ := h
  exact ⟨v, L, hr, ⟨hg _ hi.b hr.lt, fun k e => hg k (hi.v k e) (World.ownsRow.lt hr.row k e).2, fun f hf k e => hg k (hi.each f hf k e) (World.ownsRow.lt (hr.each f hf).1 k e).2⟩, ha⟩
theorem Rg.grows {v : Value} (h : Rg w wb v w') (h1 : F wb) (h2 : ∀ k, v.ownBlock = some k → F k) : Grows F w w' :=
  ⟨h.os, h.tape, h.output, h.size, fun k hk hf => h.block k hk (fun e => hf (e ▸ h1)) (fun e => hf (h2 k e))⟩
theorem nilBlock : ∀ k, (Value.slice none 0 0).ownBlock = some k → F k := fun k e => by simp [Value.ownBlock] at e
theorem Qd.stay {v : Value} {L : List Fl3} (hr : Rk w 0 wb v u.room u.left L) (hi : In3 F wb v L) (ha : abs3 L = u.us) (hb : Below w.heap.size w w') : QRes F wb u w w' :=
  ⟨⟨v, L, hr.below hb, ⟨Or.inl hi.b, fun k e => Or.inl (hi.v k e), fun f hf k e => Or.inl (hi.each f hf k e)⟩, ha⟩, ⟨hb.os, hb.tape, hb.output, hb.size, fun k hk _ => hb.block k hk⟩⟩
theorem erase_map {α β : Type} (f : α → β) : ∀ (l : List α) (k : Nat), (l.map f).eraseIdx k = (l.eraseIdx k).map f
  | [], _ => rfl
  | _ :: _, 0 => rfl
  | a :: l, k + 1 => by
    have ih := erase_map f l k
    simp [ih]
theorem at_name {L : List Fl3} {x : Nm} {g : List Int × Nat} (hg : Gd u) (ha : abs3 L = u.us) (hl : lkU u.us x = some g) : ∃ f, L[spotN (names3 L) x]? = some f ∧ f.nm = x ∧ f.zs = g.1 ∧ f.l = g.2 ∧ dlU u.us x = abs3 (L.eraseIdx (spotN (names3 L) x)) ∧ ∀ f' : Fl3, f'.nm = x → ptU u.us x (f'.zs, f'.l) = abs3 (L.set (spotN (names3 L) x) f') := by
  obtain ⟨h1, h2, h3⟩ := spot_some_of hg.ris hl
  rw [← ha, abs3_names] at h1 h2 h3
  rw [abs3_get] at h1
  obtain ⟨f, hf, he⟩ := Option.map_eq_some_iff.1 h1
  simp only [Prod.mk.injEq] at he
  refine ⟨f, hf, he.1, by rw [← he.2], by rw [← he.2], ?_, fun f' hn => ?_⟩
  · rw [← ha, h2]
    simp [abs3, erase_map]
  · rw [← ha, h3, abs3_set, hn]
theorem no_name {L : List Fl3} {x : Nm} (hg : Gd u) (ha : abs3 L = u.us) (hl : lkU u.us x = none) : (names3 L)[spotN (names3 L) x]? ≠ some x ∧ ∀ f' : Fl3, f'.nm = x → ptU u.us x (f'.zs, f'.l) = abs3 (L.take (spotN (names3 L) x) ++ f' :: L.drop (spotN (names3 L) x)) := by
  obtain ⟨h1, h2, h3⟩ := spot_none_of hg.ris hl
  rw [← ha, abs3_names] at h1 h3
  refine ⟨h1, fun f' hn => ?_⟩
  rw [← ha, h3]
  simp [abs3, hn]
theorem row_some {v : Value} {L : List Fl3} {k : Nat} {f : Fl3} {room left : Int} (hr : Rk w 0 wb v room left L) (hf : L[k]? = some f) : ∃ g cap, v = .slice (some ⟨g, 0, none⟩) L.length cap := by
  rcases hr.shape with ⟨_, e⟩ | ⟨g, cap, e, _⟩
  · rw [e] at hf; simp at hf
  · exact ⟨g, cap, e⟩
theorem Gd.lefts (hg : Gd u) : -9223372036854775807 ≤ u.left ∧ u.left ≤ 9223372036854775807 := by have := hg.left; omega
theorem five_may (ns : List Nm) (f : Us → Int × Us) (h : mayE u.left ns ≠ 0) : u.five ns f = (mayE u.left ns, u) := by unfold Ud.five; rw [if_pos h]
theorem five_err (ns : List Nm) (f : Us → Int × Us) (h : mayE u.left ns = 0) {e : Int} (hf : f u.us = (e, u.us)) (he : e ≠ 0) : u.five ns f = (e, u) := by
  unfold Ud.five
  rw [if_neg (by simpa using h), hf, if_neg he]
theorem five_ok (ns : List Nm) (f : Us → Int × Us) (h : mayE u.left ns = 0) {us' : Us} (hf : f u.us = (0, us')) : u.five ns f = (0, ⟨u.room, us', didL u.left⟩) := by
  unfold Ud.five
  rw [if_neg (by simpa using h), hf, if_pos rfl]
theorem In3.set {v : Value} {L : List Fl3} {n : Nat} (hi : In3 F wb v L) (k : Nat) (f' : Fl3) (hf : ∀ q, f'.v.ownBlock = some q → F q ∨ n ≤ q) (v' : Value) (hv : v'.ownBlock = v.ownBlock) : In3 (Pl F n) wb v' (L.set k f') :=
  ⟨Or.inl hi.b, fun q e => Or.inl (hi.v q (hv ▸ e)), fun f hm q e => by
    rcases List.mem_or_eq_of_mem_set hm with h | rfl
    · exact Or.inl (hi.each f h q e)
    · exact hf q e⟩
theorem names_le {x : Nm} (hx : x.length ≤ 140737488355328) : x.length ≤ maxLen := by unfold maxLen; omega
theorem qSync (h : Qd w F wb u) (hg : Gd u) (x : Nm) (hx : x.length ≤ 140737488355328) : Calls Tryz.prog 58 #[.pointer (some ⟨wb, 0, none⟩), encStr x] w fun e w' => e = .returned (.int .i64 (u.five [x] (syU x)).1) ∧ QRes F wb (u.five [x] (syU x)).2 w w' := by
  obtain ⟨v, L, hr, hi, ha⟩ := h
  by_cases hm : mayE u.left [x] = 0
  · cases hl : lkU u.us x with
    | none =>
      rw [five_err [x] (syU x) hm (e := 7) (by unfold syU; rw [hl]) (by decide)]
      refine (sync3_none 0 wb v u.room u.left L x w hr hm (no_name hg ha hl).1 hx).mono ?_
      rintro e w' ⟨he, hb⟩
      exact ⟨he, Qd.stay hr hi ha hb⟩
    | some g =>
      obtain ⟨f, hf, hn, hz, _, _, hp⟩ := at_name hg ha hl
      obtain ⟨gb, cap, rfl⟩ := row_some hr hf
      rw [five_ok [x] (syU x) hm (us' := abs3 (L.set (spotN (names3 L) x) { f with l := f.zs.length })) (by unfold syU; rw [hl, ← hp ⟨f.nm, f.v, f.zs, f.zs.length⟩ hn]; simp only [hz])]
      refine (sync3_done 0 wb gb cap u.room u.left L x f w hr hm hf hn hx hg.lefts.1 hg.lefts.2).mono ?_
      rintro e w' ⟨he, hr', hgr⟩
      refine ⟨he, ⟨_, _, hr', ?_, rfl⟩, hgr.grows hi.b hi.v⟩
      refine hi.set (spotN (names3 L) x) ⟨f.nm, f.v, f.zs, f.zs.length⟩ (fun q e => Or.inl (hi.each f (List.mem_of_getElem? hf) q e)) _ ?_
      rfl
  · rw [five_may [x] _ hm]
    refine (sync3_may 0 wb v u.room u.left L x w hr hm hx).mono ?_
    rintro e w' ⟨he, hb⟩
    exact ⟨he, Qd.stay hr hi ha hb⟩
theorem qRemove (h : Qd w F wb u) (hg : Gd u) (x : Nm) (hx : x.length ≤ 140737488355328) : Calls Tryz.prog 64 #[.pointer (some ⟨wb, 0, none⟩), encStr x] w fun e w' => e = .returned (.int .i64 (u.five [x] (rmU x)).1) ∧ QRes F wb (u.five [x] (rmU x)).2 w w' := by
  obtain ⟨v, L, hr, hi, ha⟩ := h
  by_cases hm : mayE u.left [x] = 0
  · cases hl : lkU u.us x with
    | none =>
      rw [five_err [x] (rmU x) hm (e := 7) (by unfold rmU; rw [hl]) (by decide)]
      refine (remove3_none 0 wb v u.room u.left L x w hr hm (no_name hg ha hl).1 hx).mono ?_
      rintro e w' ⟨he, hb⟩
      exact ⟨he, Qd.stay hr hi ha hb⟩
    | some g =>
      obtain ⟨f, hf, hn, _, _, hd, _⟩ := at_name hg ha hl
      obtain ⟨gb, cap, rfl⟩ := row_some hr hf
      rw [five_ok [x] (rmU x) hm (us' := abs3 (L.eraseIdx (spotN (names3 L) x))) (by unfold rmU; rw [hl, ← hd])]
      refine (remove3_done 0 wb gb cap u.room u.left L x f w hr hm hf hn hx hg.lefts.1 hg.lefts.2).mono ?_
      rintro e w' ⟨he, v', hr', hq, hgr⟩
      exact ⟨he, ⟨v', _, hr', ⟨Or.inl hi.b, fun k e => Or.inr (hq k e), fun f' hf' k e => Or.inl (hi.each f' (List.mem_of_mem_eraseIdx hf') k e)⟩, rfl⟩, hgr.grows hi.b nilBlock⟩
  · rw [five_may [x] _ hm]
    refine (remove3_may 0 wb v u.room u.left L x w hr hm hx).mono ?_
    rintro e w' ⟨he, hb⟩
    exact ⟨he, Qd.stay hr hi ha hb⟩
theorem totU_mem {us : Us} {x : Nm} {g : List Int × Nat} (h : lkU us x = some g) : g.1.length ≤ totU us := by
  induction us with
  | nil => simp [lkU] at h
  | cons p r ih =>
    rw [lkU_cons] at h
    simp only [totU, List.map_cons, List.sum_cons] at ih ⊢
    by_cases hp : p.1 = x
    · rw [if_pos hp] at h
      cases h
      omega
    · rw [if_neg hp] at h
      have := ih h
      omega
theorem Gd.len (hg : Gd u) {x : Nm} {g : List Int × Nat} (h : lkU u.us x = some g) : g.1.length ≤ 1073741824 := by
  have h1 := totU_mem h
  have h2 := hg.fits
  have h3 := hg.room.2
  omega
theorem qCut (h : Qd w F wb u) (hg : Gd u) (x : Nm) (hx : x.length ≤ 140737488355328) (m : Int) : Calls Tryz.prog 42 #[.pointer (some ⟨wb, 0, none⟩), encStr x, .int .i64 m] w fun e w' => e = .returned (.int .i64 (u.five [x] (cuU x m)).1) ∧ QRes F wb (u.five [x] (cuU x m)).2 w w' := by
  obtain ⟨v, L, hr, hi, ha⟩ := h
  by_cases hm : mayE u.left [x] = 0
  · cases hl : lkU u.us x with
    | none =>
      rw [five_err [x] (cuU x m) hm (e := 7) (by unfold cuU; rw [hl]) (by decide)]
      refine (cut3_none 0 wb v u.room u.left L x m w hr hm (no_name hg ha hl).1 hx).mono ?_
      rintro e w' ⟨he, hb⟩
      exact ⟨he, Qd.stay hr hi ha hb⟩
    | some g =>
      obtain ⟨f, hf, hn, hz, hll, _, hp⟩ := at_name hg ha hl
      obtain ⟨gb, cap, rfl⟩ := row_some hr hf
      by_cases hc : m < 0 ∨ (g.1.length : Int) < m
      · rw [five_err [x] (cuU x m) hm (e := 1) (by unfold cuU; rw [hl]; simp only [if_pos hc]) (by decide)]
        refine (cut3_bad 0 wb gb cap u.room u.left L x m f w hr hm hf hn hx (by rw [hz]; exact hc)).mono ?_
        rintro e w' ⟨he, hb⟩
        exact ⟨he, Qd.stay hr hi ha hb⟩
      · obtain ⟨k, rfl⟩ : ∃ k : Nat, m = (k : Int) := Int.eq_ofNat_of_zero_le (by omega)
        have hk : k ≤ f.zs.length := by rw [hz]; omega
        rw [five_ok [x] (cuU x (k : Int)) hm (us' := ptU u.us x (g.1.take k, min g.2 k)) (by unfold cuU; rw [hl]; simp only [if_neg hc]; rfl)]
        refine (cut3_done 0 wb gb cap u.room u.left L x k f w hr hm hf hn hx hk (by rw [hz]; have := hg.len hl; omega) hg.lefts.1 hg.lefts.2).mono ?_
        rintro e w' ⟨he, v', hr', hq, hgr⟩
        refine ⟨he, ⟨_, _, hr', hi.set _ _ (fun q e => Or.inr (hq q e)) _ (by simp [Value.ownBlock]), ?_⟩, hgr.grows hi.b hi.v⟩
        rw [← hp ⟨f.nm, v', f.zs.take k, min f.l k⟩ hn, hz, hll]
  · rw [five_may [x] _ hm]
    refine (cut3_may 0 wb v u.room u.left L x m w hr hm hx).mono ?_
    rintro e w' ⟨he, hb⟩
    exact ⟨he, Qd.stay hr hi ha hb⟩
theorem tot3_abs (L : List Fl3) : totU (abs3 L) = tot3 L := by
  unfold totU abs3 tot3
  rw [List.map_map]
  rfl
theorem qWrite (h : Qd w F wb u) (hg : Gd u) (x : Nm) (hx : x.length ≤ 140737488355328) (ap : Option Addr) (cp : Nat) (ps : List Int) (hb : Bs w (.slice ap ps.length cp) ps) (hby : Byt ps) (hap : ps ≠ [] → ∀ k, (Value.slice ap ps.length cp).ownBlock = some k → ¬ F k) (hpl : ps.length ≤ 140737488355328) :
    Calls Tryz.prog 30 #[.pointer (some ⟨wb, 0, none⟩), encStr x, .slice ap ps.length cp] w fun e w' => e = .returned (.int .i64 (u.five [x] (wrU x ps u.room)).1) ∧ QRes F wb (u.five [x] (wrU x ps u.room)).2 w w' := by
  obtain ⟨v, L, hr, hi, ha⟩ := h
  have hT : tot3 L = totU u.us := by rw [← ha, tot3_abs]
  have hfits := hg.fits
  have hroom := hg.room
  have hT1 : tot3 L ≤ 1099511627776 := by omega
  by_cases hm : mayE u.left [x] = 0
  · by_cases hfull : fullU u.us x ps.length u.room = true
    · rw [five_err [x] (wrU x ps u.room) hm (e := 6) (by unfold wrU; rw [if_pos hfull]) (by decide)]
      have hfl : u.room < (tot3 L : Int) + (ps.length : Int) ∨ ((names3 L)[spotN (names3 L) x]? ≠ some x ∧ 4096 ≤ L.length) := by
        unfold fullU at hfull
        rw [Bool.or_eq_true] at hfull
        rcases hfull with e | e
        · rw [decide_eq_true_eq] at e
          left
          omega
        · rw [Bool.and_eq_true, decide_eq_true_eq] at e
          right
          have hn : lkU u.us x = none := by
            cases hl : lkU u.us x with
            | none => rfl
            | some g => rw [hl] at e; simp at e
          exact ⟨(no_name hg ha hn).1, by rw [← abs3_len, ha]; exact e.2⟩
      refine (write3_full 0 wb v u.room u.left L x ap cp ps w hr hm hx hT1 hpl hfl).mono ?_
      rintro e w' ⟨he, hb⟩
      exact ⟨he, Qd.stay hr hi ha hb⟩
    · have hnf : fullU u.us x ps.length u.room = false := by simpa using hfull
      unfold fullU at hnf
      rw [Bool.or_eq_false_iff, decide_eq_false_iff_not] at hnf
      have hfit : (tot3 L : Int) + (ps.length : Int) ≤ u.room := by omega
      rw [five_ok [x] (wrU x ps u.room) hm (us' := ptU u.us x ((at0U u.us x).1 ++ ps, (at0U u.us x).2)) (by unfold wrU; rw [if_neg hfull])]
      cases hl : lkU u.us x with
      | some g =>
        have h0 : at0U u.us x = g := by unfold at0U; rw [hl]; rfl
        rw [h0]
        obtain ⟨f, hf, hn, hz, hll, _, hp⟩ := at_name hg ha hl
        obtain ⟨gb, cap, rfl⟩ := row_some hr hf
        refine (write3_old 0 wb gb cap u.room u.left L x ap cp ps f w hr hf hn hm hx hT1 (by omega) hfit hb hby hg.lefts.1 hg.lefts.2).mono ?_
        rintro e w' ⟨he, v', hr', hq, hgr⟩
        refine ⟨he, ⟨_, _, hr', hi.set _ _ (fun q e => Or.inr (hq q e)) _ (by simp [Value.ownBlock]), ?_⟩, hgr.grows hi.b hi.v⟩
        rw [← hp ⟨f.nm, v', f.zs ++ ps, f.l⟩ hn, hz, hll]
      | none =>
        have h0 : at0U u.us x = ([], 0) := by unfold at0U; rw [hl]; rfl
        rw [h0]
        obtain ⟨hne, hp⟩ := no_name hg ha hl
        have hcnt : L.length < 4096 := by
          have := hnf.2
          rw [hl] at this
          simp at this
          rw [← abs3_len, ha]
          exact this
        refine (write3_new 0 wb v u.room u.left L x ap cp ps w hr hne hcnt hm hx hT1 (by omega) hfit hb hby hg.lefts.1 hg.lefts.2 (fun hne k e he => hap hne k e (he ▸ hi.b))).mono ?_
        rintro e w' ⟨he, v', v1, hr', hq, hq1, hgr⟩
        refine ⟨he, ⟨v', _, hr', ⟨Or.inl hi.b, fun k e => Or.inr (hq k e), fun f' hf' k e => ?_⟩, ?_⟩, hgr.grows hi.b nilBlock⟩
        · rcases List.mem_append.1 hf' with hm' | hm'
          · exact Or.inl (hi.each f' (List.mem_of_mem_take hm') k e)
          · rcases List.mem_cons.1 hm' with rfl | hm'
            · exact Or.inr (hq1 k e)
            · exact Or.inl (hi.each f' (List.mem_of_mem_drop hm') k e)
        · rw [← hp ⟨x, v1, ps, 0⟩ rfl]
          simp
  · rw [five_may [x] _ hm]
    refine (write3_may 0 wb v u.room u.left L x ap cp ps w hr hm hx).mono ?_
    rintro e w' ⟨he, hb⟩
    exact ⟨he, Qd.stay hr hi ha hb⟩
theorem rmL_abs {L : List Fl3} {us : Us} (hr : RisU us) (ha : abs3 L = us) (x : Nm) : abs3 (rmL L x) = dlU us x := by
  unfold rmL
  cases hl : lkU us x with
  | some g =>
    obtain ⟨h1, h2, _⟩ := spot_some_of hr hl
    rw [← ha, abs3_names] at h1 h2
    rw [if_pos (by
      rw [abs3_get] at h1
      obtain ⟨f, hf, he⟩ := Option.map_eq_some_iff.1 h1
      simp only [Prod.mk.injEq] at he
      simp [names3] at hf ⊢
      exact ⟨f, hf, he.1⟩), ← ha, h2]
    simp [abs3, erase_map]
  | none =>
    obtain ⟨h1, h2, _⟩ := spot_none_of hr hl
    rw [← ha, abs3_names] at h1
    rw [if_neg h1, ha, h2]
theorem qFuse (h : Qd w F wb u) (n : Int) : Calls Tryz.prog 15 #[.pointer (some ⟨wb, 0, none⟩), .int .i64 n] w fun e w' => e = .returned (.tuple #[]) ∧ Qd w' F wb (u.fuse n) ∧ Grows F w w' := by
  obtain ⟨v, L, hr, hi, ha⟩ := h
  refine (fuse3_any wb u.room v u.left n w hr.blk).mono ?_
  rintro e w' ⟨he, rfl⟩
  exact ⟨he, ⟨v, L, hr.setF, hi, ha⟩, Grows.setCell _ _ _ hi.b⟩
theorem qCrash (h : Qd w F wb u) (hg : Gd u) (keep t : Int) (hk : keep < 9223372036854775808) (ht : 0 ≤ t ∧ t < 256) : Calls Tryz.prog 21 #[.pointer (some ⟨wb, 0, none⟩), .int .i64 keep, .int .u8 t] w fun e w' => e = .returned (.tuple #[]) ∧ QRes F wb (u.crash keep t) w w' := by
  obtain ⟨v, L, hr, hi, ha⟩ := h
  have hz : ∀ f ∈ L, f.zs.length ≤ 1073741824 := fun f hf => by
    have h1 : f.zs.length ≤ tot3 L := by
      obtain ⟨i, hi'⟩ := List.getElem?_of_mem hf
      have := tot3_take hi'
      have := tot3_le L (i + 1)
      omega
    have h2 : tot3 L = totU u.us := by rw [← ha, tot3_abs]
    have := hg.fits
    have := hg.room
    omega
  rcases hr.shape with ⟨rfl, rfl⟩ | ⟨g, cap, rfl, _⟩
  · refine (crash3_nil 0 wb u.room u.left keep _ w hr).mono ?_
    rintro e w' ⟨he, hr', hgr⟩
    refine ⟨he, ⟨_, [], hr', ⟨Or.inl hi.b, nilBlock, fun f hf => (by cases hf)⟩, ?_⟩, hgr.grows hi.b nilBlock⟩
    unfold Ud.crash
    rw [← ha]
    rfl
  · refine (crash3_some 0 wb g cap u.room u.left L keep t w hr hz hk ht).mono ?_
    rintro e w' ⟨he, L', hr', ha', hfr, hgr⟩
    refine ⟨he, ⟨_, L', hr', ⟨Or.inl hi.b, fun k e => Or.inl (hi.v k e), fun f hf k e => ?_⟩, by rw [ha', ha]; rfl⟩, hgr.grows hi.b hi.v⟩
    rcases hfr f hf k e with ⟨f0, h1, h2⟩ | h1
    · exact Or.inl (hi.each f0 h1 k h2)
    · exact Or.inr h1
theorem qUsed (h : Qd w F wb u) (hg : Gd u) : Calls Tryz.prog 70 #[.pointer (some ⟨wb, 0, none⟩)] w fun e w' => e = .returned (.int .i64 (totU u.us : Int)) ∧ w' = w := by
  obtain ⟨v, L, hr, hi, ha⟩ := h
  have h2 : tot3 L = totU u.us := by rw [← ha, tot3_abs]
  rw [← h2]
  refine (used_any 0 wb v u.room u.left L w hr (by have := hg.fits; have := hg.room; omega)).mono ?_
  rintro e w' ⟨he, rfl⟩
  exact ⟨he, rfl⟩
theorem qRead (h : Qd w F wb u) (hg : Gd u) (x : Nm) : Calls Tryz.prog 46 #[.pointer (some ⟨wb, 0, none⟩), encStr x] w fun e w' => ∃ ao cap, e = .returned (.tuple #[.slice ao (at0U u.us x).1.length cap, .int .i64 (rdE u.us x)]) ∧ Ow w' w.heap.size (.slice ao (at0U u.us x).1.length cap) (at0U u.us x).1 ∧ Below w.heap.size w w' := by
  obtain ⟨v, L, hr, hi, ha⟩ := h
  cases hl : lkU u.us x with
  | none =>
    have h0 : at0U u.us x = ([], 0) := by unfold at0U; rw [hl]; rfl
    have h1 : rdE u.us x = 7 := by unfold rdE; rw [hl]; rfl
    rw [h0, h1]
    refine (read3_none 0 wb v u.room u.left L x w hr (no_name hg ha hl).1).mono ?_
    rintro e w' ⟨he, hs⟩
    exact ⟨none, 0, he, World.ownsRow_nil _ _ _ _, hs.below _⟩
  | some g =>
    have h0 : at0U u.us x = g := by unfold at0U; rw [hl]; rfl
    have h1 : rdE u.us x = 0 := by unfold rdE; rw [hl]; rfl
    obtain ⟨f, hf, hn, hz, _⟩ := at_name hg ha hl
    rw [h0, h1, ← hz]
    exact read3_some 0 wb v u.room u.left L x f w hr hf hn (by rw [hz]; have := hg.len hl; omega)
theorem qNames (h : Qd w F wb u) : Calls Tryz.prog 45 #[.pointer (some ⟨wb, 0, none⟩)] w fun e w' => ∃ v, e = .returned v ∧ Ot w' w.heap.size v (u.us.map (·.1)) ∧ Below w.heap.size w w' := by
  obtain ⟨v, L, hr, hi, ha⟩ := h
  rw [← ha, abs3_names]
  refine (names3_any 0 wb v u.room u.left L w hr).mono ?_
  rintro e w' ⟨ao, cap, he, ho, hb⟩
  exact ⟨_, he, ho, hb⟩
theorem qNew (room : Int) (w : World) (h : 0 ≤ room ∧ room ≤ 1073741824) : Calls Tryz.prog 36 #[.int .i64 room] w fun e w' => e = .returned (.tuple #[.pointer (some ⟨w.heap.size, 0, none⟩), .int .i64 0]) ∧ Qd w' (fun k => k = w.heap.size) w.heap.size ⟨room, [], -1⟩ ∧ Below w.heap.size w w' := by
  refine (new3_any room w h.1 h.2).mono ?_
  rintro e w' ⟨he, hr, hb⟩
  exact ⟨he, ⟨_, [], ⟨hr.blk, World.ownsRow_nil _ _ _ _, fun f hf => (by cases hf), by simp, Nat.zero_le _, hr.sep⟩, ⟨rfl, nilBlock, fun f hf => (by cases hf)⟩, rfl⟩, hb⟩
end Go.Proofs.YtnkjhooeklodcaaGreatDoor
end

section
/-
  Rows of bytes that came in (Rs), how much they are (wt); a disk of the call's own that holds at most one file.
-/
namespace Go.Proofs.YtnkjhooeklodcaaGreatDoor
open Go.RowKit Go.Maps
variable {w w' w0 : World} {sb : Nat} {room : Int} {fs : Fls} {lit : Bool} {left : Int}

abbrev Rw := Value × List Int
def RwOk (w : World) (r : Rw) : Prop := Bs w r.1 r.2 ∧ Byt r.2 ∧ r.2.length ≤ 140737488355328
def Rs (w : World) (v : Value) (rs : List Rw) : Prop :=
  ∃ ao cap, v = .slice ao rs.length cap ∧ rs.length ≤ 140737488355328 ∧ (∀ r ∈ rs, RwOk w r) ∧
    (rs ≠ [] → ∃ b off, ao = some ⟨b, off, none⟩ ∧ ∀ i r, rs[i]? = some r → w.cell? ⟨b, off + i, none⟩ = some r.1)
theorem RwOk.below {r : Rw} (h : RwOk w r) (hb : Below w.heap.size w w') : RwOk w' r := ⟨h.1.below hb (Nat.le_refl _), h.2⟩
theorem Rs.below {v : Value} {rs : List Rw} (h : Rs w v rs) (hb : Below w.heap.size w w') : Rs w' v rs := by
  obtain ⟨ao, cap, hv, hl, hr, hc⟩ := h
  refine ⟨ao, cap, hv, hl, fun r hm => (hr r hm).below hb, fun hne => ?_⟩
  obtain ⟨b, off, e, hcell⟩ := hc hne
  refine ⟨b, off, e, fun i r hi => ?_⟩
  have h1 := hcell i r hi
  rw [World.cell?_of_block (w := w) (hb.block b (World.block_lt_of_cell? w _ h1))]
  exact h1
theorem Rs.form {v : Value} {rs : List Rw} (h : Rs w v rs) : ∃ ao cap, v = .slice ao rs.length cap ∧ rs.length ≤ 140737488355328 ∧ True := by
  obtain ⟨ao, cap, hv, hl, _⟩ := h
  exact ⟨ao, cap, hv, hl, trivial⟩
theorem Rs.get {rs : List Rw} {ao : Option Addr} {cap : Nat} (h : Rs w (.slice ao rs.length cap) rs) {i : Nat} (hi : i < rs.length) :
    ∃ b off ap cp zs, ao = some ⟨b, off, none⟩ ∧ rs[i]? = some (.slice ap zs.length cp, zs) ∧ w.cell? ⟨b, off + i, none⟩ = some (.slice ap zs.length cp) ∧ Bs w (.slice ap zs.length cp) zs ∧ Byt zs ∧ zs.length ≤ 140737488355328 := by
  obtain ⟨ao', cap', hv, hl, hr, hc⟩ := h
  simp only [Value.slice.injEq] at hv
  obtain ⟨rfl, _, rfl⟩ := hv
  obtain ⟨b, off, e, hcell⟩ := hc (fun e => by rw [e] at hi; simp at hi)
  have hg : rs[i]? = some rs[i] := List.getElem?_eq_getElem hi
  obtain ⟨hb, hby, hlen⟩ := hr _ (List.getElem_mem hi)
  obtain ⟨ap, cp, hsv, _⟩ := hb.len
  generalize rs[i] = r at *
  obtain ⟨v, zs⟩ := r
  simp only at hsv hb hby hlen
  subst hsv
  exact ⟨b, off, ap, cp, zs, e, hg, hcell i _ hg, hb, hby, hlen⟩
def sl (rs : List Rw) : Nat := (rs.map fun r => r.2.length).sum
theorem sl_take {rs : List Rw} {i : Nat} {r : Rw} (h : rs[i]? = some r) : sl (rs.take (i + 1)) = sl (rs.take i) + r.2.length := by
  obtain ⟨hi, e⟩ := List.getElem?_eq_some_iff.1 h
  rw [List.take_succ_eq_append_getElem hi, e]
  simp [sl]
theorem sl_append (a b : List Rw) : sl (a ++ b) = sl a + sl b := by simp [sl]
theorem sl_take_le (rs : List Rw) (i : Nat) : sl (rs.take i) ≤ sl rs := by
  have := sl_append (rs.take i) (rs.drop i)
  rw [List.take_append_drop] at this
  omega
theorem sl_all (rs : List Rw) : sl (rs.take rs.length) = sl rs := by rw [List.take_length]
end Go.Proofs.YtnkjhooeklodcaaGreatDoor
end

section
/-
  The law's texts: two lists of the same texts.
-/
namespace Go.Proofs.YtnkjhooeklodcaaGreatDoor
open Go.RowKit Go.Maps
variable {w w' w0 : World}

def St (w : World) (v : Value) (xs : List Nm) : Prop := ∃ ao cap, v = .slice ao xs.length cap ∧ (xs ≠ [] → ∃ b off, ao = some ⟨b, off, none⟩ ∧ ∀ i x, xs[i]? = some x → w.cell? ⟨b, off + i, none⟩ = some (encStr x))
theorem St.below {v : Value} {xs : List Nm} (h : St w v xs) (hb : Below w.heap.size w w') : St w' v xs := by
  obtain ⟨ao, cap, hv, hc⟩ := h
  refine ⟨ao, cap, hv, fun hne => ?_⟩
  obtain ⟨b, off, e, hcell⟩ := hc hne
  refine ⟨b, off, e, fun i x hi => ?_⟩
  have h1 := hcell i x hi
  rw [World.cell?_of_block (w := w) (hb.block b (World.block_lt_of_cell? w _ h1))]
  exact h1
theorem St.sm {v : Value} {xs : List Nm} (h : St w v xs) (hs : Sm w w') : St w' v xs := h.below (hs.below _)
theorem St_row {base : Nat} {v : Value} {xs : List Nm} (h : w.ownsRow base 9 1 v xs.length (xs.map encStr)) : St w v xs := by
  rcases row_str h with ⟨e1, e2⟩ | ⟨g, cap, e1, _, _, e4⟩
  · subst e2
    exact ⟨none, 0, e1, fun e => absurd rfl e⟩
  · exact ⟨_, cap, e1, fun _ => ⟨g, 0, rfl, fun i x hi => by rw [Nat.zero_add]; exact e4 i x hi⟩⟩
theorem St_one (x : Nm) (w : World) : St (w.alloc (.cells #[encStr x] 9)) (.slice (some ⟨w.heap.size, 0, none⟩) 1 1) [x] := by
  refine ⟨_, 1, rfl, fun _ => ⟨w.heap.size, 0, rfl, fun i y hi => ?_⟩⟩
  have h0 : i = 0 := by have := (List.getElem?_eq_some_iff.1 hi).1; simp at this; exact this
  subst h0
  simp at hi
  subst hi
  simp
set_option maxHeartbeats 800000 in
theorem texts_same (va vb : Value) (xs : List Nm) (w : World) (ha : St w va xs) (hb : St w vb xs) (hl : xs.length ≤ 100000000) :
    Calls Tryz.prog 35 #[va, vb] w fun e w' => e = .returned (.bool true) ∧ Sm w w' := by
  obtain ⟨a1, c1, h1, hc1⟩ := ha
  obtain ⟨a2, c2, h2, hc2⟩ := hb
  subst h1; subst h2
  have HC1 := hid_into hc1
  have HC2 := hid_into hc2
  clear hc1 hc2
  have hne : ((xs.length : Int) != (xs.length : Int)) = false := by simp
  go_enter Tryz.func35, Tryz.ntmps35
  go_wp2
  go_loopw [5] (fun i wr => ∃ k : Nat, k ≤ xs.length ∧ i = .int .i64 k ∧ Sm w wr) (fun i _ => xs.length - (intOf i).toNat)
  case atStart => exact ⟨0, Nat.zero_le _, rfl, Sm.refl _⟩
  case round =>
    obtain ⟨k, hk, rfl, hsm⟩ := hrel
    by_cases hlt : k < xs.length
    · have hxne : xs ≠ [] := fun e => by rw [e] at hlt; simp at hlt
      obtain ⟨b1, o1, rfl, hcell1⟩ := HC1.out hxne
      obtain ⟨b2, o2, rfl, hcell2⟩ := HC2.out hxne
      have hg : xs[k]? = some xs[k] := List.getElem?_eq_getElem hlt
      have hx : wr.cell? ⟨b1, o1 + k, none⟩ = some (encStr xs[k]) := by rw [World.cell?_of_block (w := w) (by rw [hsm.heap])]; exact hcell1 k _ hg
      have hy : wr.cell? ⟨b2, o2 + k, none⟩ = some (encStr xs[k]) := by rw [World.cell?_of_block (w := w) (by rw [hsm.heap])]; exact hcell2 k _ hg
      generalize xs[k] = x at *
      clear hcell1 hcell2 hg hxne
      go_wp2
      go_quiet (fail)
      go_wp2
      go_roundw
      case rel => exact ⟨k + 1, by omega, by go_num, hsm.trans (Sm.drewN _ _)⟩
      case measure => simp [intOf]; omega
    · go_wp2
      go_ret
      exact ⟨rfl, hsm⟩
end Go.Proofs.YtnkjhooeklodcaaGreatDoor
end

section
/-
  DiskPlays: both disks side by side (T2); a step of a script (Sp).
-/
namespace Go.Proofs.YtnkjhooeklodcaaGreatDoor
open Go.RowKit Go.Maps Go.Sort

structure T2 (w : World) (F G : Nat → Prop) (sb wb : Nat) (u v : Ud) : Prop where
  p : Pd w F sb u
  q : Qd w G wb v
  fl : ∀ k, F k → k < w.heap.size
  gl : ∀ k, G k → k < w.heap.size
  ap : ∀ k, F k → ¬ G k
variable {w w' : World} {F G : Nat → Prop} {sb wb : Nat} {u v : Ud}
theorem T2.keep (h : T2 w F G sb wb u v) (hs : w.heap.size ≤ w'.heap.size) (hk : ∀ k, F k ∨ G k → w'.heap[k]? = w.heap[k]?) : T2 w' F G sb wb u v :=
  ⟨h.p.keep fun k hf _ => hk k (Or.inl hf), h.q.keep fun k hg _ => hk k (Or.inr hg), fun k hf => Nat.lt_of_lt_of_le (h.fl k hf) hs, fun k hg => Nat.lt_of_lt_of_le (h.gl k hg) hs, h.ap⟩
theorem T2.to (h : T2 w F G sb wb u v) (hb : Below w.heap.size w w') : T2 w' F G sb wb u v := h.keep hb.size fun k hk => hb.block k (by rcases hk with hk | hk; exact h.fl k hk; exact h.gl k hk)
theorem T2.drew (h : T2 w F G sb wb u v) : T2 w.drew F G sb wb u v := h.keep (Nat.le_refl _) fun _ _ => rfl
theorem T2.sm (h : T2 w F G sb wb u v) (hs : Sm w w') : T2 w' F G sb wb u v := h.keep (by rw [hs.size]; exact Nat.le_refl _) fun k _ => by rw [hs.heap]
theorem T2.pcall (h : T2 w F G sb wb u v) {fn : FuncId} {args : Array Value} {r : Value} {u' : Ud} (C : Calls Tryz.prog fn args w fun e w' => e = .returned r ∧ PRes F sb u' w w') :
    Calls Tryz.prog fn args w fun e w' => e = .returned r ∧ ∃ F', T2 w' F' G sb wb u' v ∧ (∀ k, F' k → F k ∨ w.heap.size ≤ k) ∧ Grows F w w' := by
  refine C.mono ?_
  rintro e w' ⟨he, hp, hg⟩
  have hG : ∀ k, G k → ¬ F k := fun k hg hf => h.ap k hf hg
  refine ⟨he, fun k => (F k ∨ w.heap.size ≤ k) ∧ k < w'.heap.size, ⟨hp.more fun k hk hl => ⟨hk, hl⟩, h.q.keep fun k hk hl => hg.block k hl (hG k hk), fun k hk => hk.2, fun k hk => Nat.lt_of_lt_of_le (h.gl k hk) hg.size, fun k hk hgk => ?_⟩, fun k hk => hk.1, hg⟩
  rcases hk.1 with h1 | h1
  · exact h.ap k h1 hgk
  · have := h.gl k hgk
    omega
theorem T2.qcall (h : T2 w F G sb wb u v) {fn : FuncId} {args : Array Value} {r : Value} {v' : Ud} (C : Calls Tryz.prog fn args w fun e w' => e = .returned r ∧ QRes G wb v' w w') :
    Calls Tryz.prog fn args w fun e w' => e = .returned r ∧ ∃ G', T2 w' F G' sb wb u v' ∧ (∀ k, G' k → G k ∨ w.heap.size ≤ k) ∧ Grows G w w' := by
  refine C.mono ?_
  rintro e w' ⟨he, hq, hg⟩
  refine ⟨he, fun k => (G k ∨ w.heap.size ≤ k) ∧ k < w'.heap.size, ⟨h.p.keep fun k hk hl => hg.block k hl (h.ap k hk), hq.more fun k hk hl => ⟨hk, hl⟩, fun k hk => Nat.lt_of_lt_of_le (h.fl k hk) hg.size, fun k hk => hk.2, fun k hk hgk => ?_⟩, fun k hk => hk.1, hg⟩
  rcases hgk.1 with h1 | h1
  · exact h.ap k hk h1
  · have := h.fl k hk
    omega
def DRes (F G : Nat → Prop) (sb wb : Nat) (w w' : World) : Prop :=
  ∃ F' G' u', T2 w' F' G' sb wb u' u' ∧ (∀ k, F' k → F k ∨ w.heap.size ≤ k) ∧ (∀ k, G' k → G k ∨ w.heap.size ≤ k) ∧ Grows (fun k => F k ∨ G k) w w'
theorem Grows.below0 {F : Nat → Prop} (h : Below w.heap.size w w') : Grows F w w' := ⟨h.os, h.tape, h.output, h.size, fun k hk _ => h.block k hk⟩
theorem DRes.both {w1 w2 w3 w4 : World} {F' G' : Nat → Prop} {u' : Ud} (hb : Below w.heap.size w w1) (h1 : ∀ k, F' k → F k ∨ w1.heap.size ≤ k) (g1 : Grows F w1 w2) (h2 : ∀ k, G' k → G k ∨ w2.heap.size ≤ k) (g2 : Grows G w2 w3) (hT : T2 w4 F' G' sb wb u' u') (g3 : Grows (fun k => w.heap.size ≤ k) w3 w4) : DRes F G sb wb w w4 := by
  refine ⟨F', G', u', hT, fun k hk => ?_, fun k hk => ?_, ?_⟩
  · rcases h1 k hk with e | e
    · exact Or.inl e
    · exact Or.inr (Nat.le_trans hb.size e)
  · rcases h2 k hk with e | e
    · exact Or.inl e
    · exact Or.inr (Nat.le_trans hb.size (Nat.le_trans g1.size e))
  · refine ((Grows.below0 hb).trans (F' := fun k => F k ∨ G k ∨ w.heap.size ≤ k) ?_ fun k hk => ?_)
    · have a1 : Grows (fun k => F k ∨ G k ∨ w.heap.size ≤ k) w1 w2 := g1.mono fun k hk => Or.inl hk
      have a2 : Grows (fun k => F k ∨ G k ∨ w.heap.size ≤ k) w2 w3 := g2.mono fun k hk => Or.inr (Or.inl hk)
      have a3 : Grows (fun k => F k ∨ G k ∨ w.heap.size ≤ k) w3 w4 := g3.mono fun k hk => Or.inr (Or.inr hk)
      exact (a1.trans a2 fun _ hk => Or.inl hk).trans a3 fun _ hk => Or.inl hk
    · rcases hk with hk | hk | hk
      · exact Or.inl (Or.inl hk)
      · exact Or.inl (Or.inr hk)
      · exact Or.inr hk
theorem DRes.none (hT : T2 w F G sb wb u u) (g : Grows (fun k => w.heap.size ≤ k) w w') : DRes F G sb wb w w' :=
  ⟨F, G, u, hT.keep g.size fun k hk => g.block k (by rcases hk with hk | hk; exact hT.fl k hk; exact hT.gl k hk) (fun e => by rcases hk with hk | hk; have := hT.fl k hk; omega; have := hT.gl k hk; omega), fun k hk => Or.inl hk, fun k hk => Or.inl hk, ⟨g.os, g.tape, g.output, g.size, fun k hk _ => g.block k hk (fun e => by omega)⟩⟩
structure Sp where
  k : Int
  n : Int
  a : Nm
  t : Nm
  v : Value
  zs : List Int
  x : Int
def Sp.cells (s : Sp) : List Value := [.int .i64 s.k, .int .i64 s.n, encStr s.a, encStr s.t, s.v, .int .u8 s.x]
structure Sp.ok (s : Sp) (w : World) : Prop where
  bs : Bs w s.v s.zs
  by8 : Byt s.zs
  len : s.zs.length ≤ 140737488355328
  n : (Lit.int .i64 s.n).wf = true
  a : s.a.length ≤ 140737488355328
  t : s.t.length ≤ 140737488355328
  x : 0 ≤ s.x ∧ s.x < 256
theorem cell_grows2 {w w' : World} {b i : Nat} {c : Value} (hG : Grows F w w') (hc : w.cell? ⟨b, i, none⟩ = some c) (hn : ¬ F b) : w'.cell? ⟨b, i, none⟩ = some c := cell_grows hG hc hn
theorem Bs.grows {w w' : World} {x : Value} {zs : List Int} (h : Bs w x zs) (hG : Grows F w w') (hn : zs ≠ [] → ∀ k, x.ownBlock = some k → ¬ F k) : Bs w' x zs := h.keep0 fun hne k e hl => hG.block k hl (hn hne k e)
theorem Ow.grows {w w' : World} {base : Nat} {x : Value} {zs : List Int} (h : Ow w base x zs) (hG : Grows F w w') (hn : ∀ k, x.ownBlock = some k → ¬ F k) : Ow w' base x zs := ownsRow_keepB h fun k e hl => hG.block k hl (hn k e)
end Go.Proofs.YtnkjhooeklodcaaGreatDoor
end

section
/-
  Numbers that came in (Is).
-/
namespace Go.Proofs.YtnkjhooeklodcaaGreatDoor
open Go.RowKit
def Is (w : World) (v : Value) (ns : List Int) : Prop :=
  ∃ ao cap, v = .slice ao ns.length cap ∧ ns.length ≤ maxLen ∧ (∀ n ∈ ns, (Lit.int .i64 n).wf = true) ∧ (ns ≠ [] → ∃ b off, ao = some ⟨b, off, none⟩ ∧ ∀ i n, ns[i]? = some n → w.cell? ⟨b, off + i, none⟩ = some (.int .i64 n))
end Go.Proofs.YtnkjhooeklodcaaGreatDoor
end
