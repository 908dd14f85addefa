/-
  Joined from: SegAp, SegSl, SegHs.
-/
import Derived.Test.YtnkjhooeklodcaaGreatDoorM45
import Derived.Test.YtnkjhooeklodcaaGreatDoorM12
section
/-
  Append and Sync of both logs: one answer, one state behind it, in plain words.
-/
namespace Go.Proofs.YtnkjhooeklodcaaGreatDoor
open Go.RowKit Go.Maps Go.Sort
open Fr (entN)

variable {w w' w1 : World} {B pb sb wb lb xb : Nat} {D F G H : Nat → Prop} {pre : List UInt8} {u u' : Ud} {es fs : List En} {las : Nat} {sz k : Nat} {dead : Bool} {ss : List Nat} {ps : List (List Int)}
structure ApO where
  n : Int
  er : Int
  u : Ud
  ps : List (List Int)
  las : Nat
  ss : List Nat
  sz : Nat
  dead : Bool
def apW (r : Int × Ud) (ps : List (List Int)) (p : List Int) (las : Nat) (ss ss' : List Nat) (sz sz' : Nat) : ApO :=
  if r.1 = 0 then ⟨(ps.length : Int) + 1, 0, r.2, ps ++ [p], las, ss', sz', false⟩ else ⟨0, r.1, r.2, ps, las, ss, sz, decide (r.1 ≠ 6)⟩
def syS (u : Ud) (n las : Nat) (x : Nm) (ss : List Nat) : Int × Ud × Nat × Bool := if ss = [] then (0, u, las, false) else syL u n las x false
def apO (pre : List UInt8) (u : Ud) (ps : List (List Int)) (las : Nat) (ss : List Nat) (sz : Nat) (dead : Bool) (p : List Int) : ApO :=
  if dead = true then ⟨0, 9, u, ps, las, ss, sz, true⟩
  else if 65526 < p.length then ⟨0, 5, u, ps, las, ss, sz, false⟩
  else if ss ≠ [] ∧ sz < 512 then apW (u.five [nameN pre (lastS ss)] (wrU (nameN pre (lastS ss)) (entN ((ps.length : Int) + 1) p) u.room)) ps p las ss ss sz (sz + (entN ((ps.length : Int) + 1) p).length)
  else if (syS u ps.length las (nameN pre (lastS ss)) ss).1 ≠ 0 then ⟨0, (syS u ps.length las (nameN pre (lastS ss)) ss).1, (syS u ps.length las (nameN pre (lastS ss)) ss).2.1, ps, (syS u ps.length las (nameN pre (lastS ss)) ss).2.2.1, ss, sz, (syS u ps.length las (nameN pre (lastS ss)) ss).2.2.2⟩
  else apW ((syS u ps.length las (nameN pre (lastS ss)) ss).2.1.five [nameN pre (ps.length + 1)] (wrU (nameN pre (ps.length + 1)) (entN ((ps.length : Int) + 1) p) (syS u ps.length las (nameN pre (lastS ss)) ss).2.1.room)) ps p (syS u ps.length las (nameN pre (lastS ss)) ss).2.2.1 ss (ss ++ [ps.length + 1]) sz (entN ((ps.length : Int) + 1) p).length
theorem lastN_names {ss : List Nat} (h : ss ≠ []) : lastN (namesN pre ss) = nameN pre (lastS ss) := by
  unfold lastN namesN lastS
  rw [List.getLast?_map]
  cases hl : ss.getLast? with
  | none => exact absurd (List.getLast?_eq_none_iff.1 hl) h
  | some n => rfl
theorem sync_no6 (u : Ud) (x : Nm) : (u.five [x] (syU x)).1 ≠ 6 := by
  by_cases hm : mayE u.left [x] ≠ 0
  · rw [five_may _ _ hm]
    show mayE u.left [x] ≠ 6
    unfold mayE
    split
    · decide
    · split <;> decide
  · unfold Ud.five
    rw [if_neg hm]
    show (syU x u.us).1 ≠ 6
    unfold syU
    cases lkU u.us x with
    | none => show (7 : Int) ≠ 6; decide
    | some f => show (0 : Int) ≠ 6; decide
theorem syL_false {u : Ud} {n las : Nat} {x : Nm} (h : (syL u n las x false).1 = 0) : (syL u n las x false).2.2.2 = false := by
  unfold syL at h ⊢
  simp only [Bool.false_eq_true, if_false] at h ⊢
  split at h
  · rw [if_pos (by assumption)]
  · rw [if_neg (by assumption)]
    simp only at h ⊢
    rw [if_pos (Or.inl h)]
theorem syL_syX (u : Ud) (n las : Nat) (x : Nm) : syX u n (las + 1) x false = ((syL u n las x false).1, (syL u n las x false).2.1, (syL u n las x false).2.2.1 + 1, (syL u n las x false).2.2.2) := by
  have h6 := sync_no6 u x
  unfold syL syX
  simp only [Bool.false_eq_true, if_false]
  by_cases hl : las = n
  · have hl' : las + 1 = n + 1 := by omega
    simp [hl]
  · have hl' : ¬ las + 1 = n + 1 := by omega
    rw [if_neg hl', if_neg hl]
    by_cases h0 : (u.five [x] (syU x)).1 = 0
    · simp [h0]
    · simp [h0, h6]
theorem syS_false {u : Ud} {n las : Nat} {x : Nm} {ss : List Nat} (h : (syS u n las x ss).1 = 0) : (syS u n las x ss).2.2.2 = false := by
  unfold syS at h ⊢
  split
  · rfl
  · rename_i hs
    rw [if_neg hs] at h
    exact syL_false h
theorem ent_ok {p : List Int} {n : Nat} (hp : Epl p) (hn : n ≤ 10000000) : (entN ((n : Int) + 1) p).length ≤ 70000 ∧ Byt (entN ((n : Int) + 1) p) := by
  have := (ent_le n p).2
  have := hp.2
  exact ⟨by omega, ent_byt hp hn⟩
theorem Sl.last_lt (h : Sl pre u ps las ss sz k) (hk : k ≤ 1000) (hs : ss ≠ []) : lastS ss < 100000000 := by
  obtain ⟨m, _, hm⟩ := lastS_get hs
  have := h.num _ (List.mem_of_getElem? hm)
  omega
theorem LAp (w : World) (h : Ld w D F lb sb u pre es las (namesN pre ss) sz dead) (hps : es.map (·.2) = ps) (hsl : Sl pre u ps las ss sz k) (hk : k ≤ 1000) (hpl : pre.length ≤ 50) (ao : Option Addr) (cap : Nat) (p : List Int) (hb : Bs w (.slice ao p.length cap) p) (hy : Byt p)
    (hown : p ≠ [] → ∀ j, (Value.slice ao p.length cap).ownBlock = some j → ¬ D j ∧ ¬ F j) (ht : Fr.Tab w) (hp : Pw w) (h8 : 8 ≤ w.heap.size) :
    Calls Tryz.prog 16 #[.pointer (some ⟨lb, 0, none⟩), .slice ao p.length cap] w fun e w' => e = .returned (.tuple #[.int .i64 (apO pre u ps las ss sz dead p).n, .int .i64 (apO pre u ps las ss sz dead p).er]) ∧
      ∃ es', es'.map (·.2) = (apO pre u ps las ss sz dead p).ps ∧ LRes w D F lb sb pre (apO pre u ps las ss sz dead p).u es' (apO pre u ps las ss sz dead p).las (namesN pre (apO pre u ps las ss sz dead p).ss) (apO pre u ps las ss sz dead p).sz (apO pre u ps las ss sz dead p).dead w' := by
  obtain ⟨ev, nv, hl⟩ := h.l
  have hel : es.length = ps.length := by rw [← hps]; simp
  unfold apO
  cases dead with
  | true =>
    rw [if_pos rfl]
    refine (LAppend_dead _ w hl).mono ?_
    rintro e w' ⟨rfl, rfl⟩
    exact ⟨rfl, es, hps, LRes.refl h (Sm.refl _)⟩
  | false =>
    rw [if_neg (by decide)]
    by_cases hlong : 65526 < p.length
    · rw [if_pos hlong]
      refine (LAppend_long ao _ cap hlong w hl).mono ?_
      rintro e w' ⟨rfl, rfl⟩
      exact ⟨rfl, es, hps, LRes.refl h (Sm.refl _)⟩
    · rw [if_neg hlong]
      have hf := hsl.few
      have hnl : (namesN pre ss).length = ss.length := by simp [namesN]
      have hn8 : ps.length + 1 < 100000000 := by omega
      have hE : Epl p := ⟨hy, by omega⟩
      obtain ⟨b1, b2⟩ := ent_ok hE (show ps.length ≤ 10000000 by omega)
      have hx2 : (nameN pre (es.length + 1)).length ≤ maxLen := names_le (by rw [hel, nameN_len pre _ hn8]; omega)
      have hxl : (lastN (namesN pre ss)).length ≤ maxLen := by
        by_cases hs : ss = []
        · subst hs; exact Nat.zero_le _
        · rw [lastN_names hs]
          exact names_le (by rw [nameN_len pre _ (hsl.last_lt hk hs)]; omega)
      have C := LAppend_any (.slice ao p.length cap) p w h hb hy (by omega) hown ht hp h8 hxl hx2 (by omega) (by omega) _ rfl (by rw [hel]; exact b1) (by rw [hel]; exact b2)
      rw [hel] at C
      have key : ∀ (y : Ly) (o : ApO), (∀ (e : Ending) (w' : World), ((y.er ≠ 0 ∧ e = .returned (.tuple #[.int .i64 0, .int .i64 y.er]) ∧ LRes w D F lb sb pre y.u es y.las y.ns y.sz y.dead w') ∨
          (y.er = 0 ∧ e = .returned (.tuple #[.int .i64 ((ps.length : Int) + 1), .int .i64 0]) ∧ ∃ cv, LRes w D F lb sb pre y.u (es ++ [(cv, p)]) y.las y.ns y.sz y.dead w')) → e = .returned (.tuple #[.int .i64 o.n, .int .i64 o.er]) ∧ ∃ es', es'.map (·.2) = o.ps ∧ LRes w D F lb sb pre o.u es' o.las (namesN pre o.ss) o.sz o.dead w') → lyL u ps.length las (namesN pre ss) sz false pre (entN ((ps.length : Int) + 1) p) = y →
          Calls Tryz.prog 16 #[.pointer (some ⟨lb, 0, none⟩), .slice ao p.length cap] w fun e w' => e = .returned (.tuple #[.int .i64 o.n, .int .i64 o.er]) ∧ ∃ es', es'.map (·.2) = o.ps ∧ LRes w D F lb sb pre o.u es' o.las (namesN pre o.ss) o.sz o.dead w' := by
        intro y o hyo hy2
        rw [hy2] at C
        exact C.mono hyo
      have hres : ∀ (r : Int × Ud) (las' : Nat) (ss' : List Nat) (sz' : Nat) (y : Ly), (r.1 = 0 → y = ⟨0, r.2, las', namesN pre ss', sz', false⟩) → (r.1 ≠ 0 → y = ⟨r.1, r.2, las', namesN pre ss, sz, if r.1 = 0 ∨ r.1 = 6 then false else true⟩) → ∀ (e : Ending) (w' : World), ((y.er ≠ 0 ∧ e = .returned (.tuple #[.int .i64 0, .int .i64 y.er]) ∧ LRes w D F lb sb pre y.u es y.las y.ns y.sz y.dead w') ∨
          (y.er = 0 ∧ e = .returned (.tuple #[.int .i64 ((ps.length : Int) + 1), .int .i64 0]) ∧ ∃ cv, LRes w D F lb sb pre y.u (es ++ [(cv, p)]) y.las y.ns y.sz y.dead w')) → e = .returned (.tuple #[.int .i64 (apW r ps p las' ss ss' sz sz').n, .int .i64 (apW r ps p las' ss ss' sz sz').er]) ∧ ∃ es', es'.map (·.2) = (apW r ps p las' ss ss' sz sz').ps ∧ LRes w D F lb sb pre (apW r ps p las' ss ss' sz sz').u es' (apW r ps p las' ss ss' sz sz').las (namesN pre (apW r ps p las' ss ss' sz sz').ss) (apW r ps p las' ss ss' sz sz').sz (apW r ps p las' ss ss' sz sz').dead w' := by
        intro r las' ss' sz' y h1 h2 e w' hc
        unfold apW
        by_cases h0 : r.1 = 0
        · rw [if_pos h0]
          rw [h1 h0] at hc
          rcases hc with ⟨c1, _⟩ | ⟨_, c2, cv, c3⟩
          · exact absurd rfl c1
          · exact ⟨c2, es ++ [(cv, p)], by simp [hps], c3⟩
        · rw [if_neg h0]
          rw [h2 h0] at hc
          rcases hc with ⟨_, c2, c3⟩ | ⟨c1, _⟩
          · refine ⟨c2, es, hps, ?_⟩
            have : (if r.1 = 0 ∨ r.1 = 6 then false else true) = decide (r.1 ≠ 6) := by
              by_cases h6 : r.1 = 6 <;> simp [h0, h6]
            simp only [this] at c3
            exact c3
          · exact absurd c1 h0
      by_cases hA : ss ≠ [] ∧ sz < 512
      · rw [if_pos hA]
        have hns : namesN pre ss ≠ [] := fun e => hA.1 (by simpa [namesN] using e)
        refine key _ _ (hres _ las ss (sz + (entN ((ps.length : Int) + 1) p).length) _ (fun h0 => ?_) (fun h0 => ?_)) rfl
        · unfold lyL lyOld
          rw [if_pos ⟨hns, hA.2⟩, lastN_names hA.1]
          simp [h0]
        · unfold lyL lyOld
          rw [if_pos ⟨hns, hA.2⟩, lastN_names hA.1]
          simp [h0]
      · rw [if_neg hA]
        have hA' : ¬ (namesN pre ss ≠ [] ∧ sz < 512) := fun e => hA ⟨fun e2 => e.1 (by rw [e2]; rfl), e.2⟩
        have hss : syL u ps.length las (lastN (namesN pre ss)) false = syS u ps.length las (nameN pre (lastS ss)) ss := by
          unfold syS
          by_cases hs : ss = []
          · rw [if_pos hs]
            obtain ⟨e1, e2⟩ := hsl.nil hs
            unfold syL
            rw [if_neg (by decide), if_pos (by rw [e1, e2]; rfl)]
          · rw [if_neg hs, lastN_names hs]
        have hfs := @syS_false u ps.length las (nameN pre (lastS ss)) ss
        generalize syS u ps.length las (nameN pre (lastS ss)) ss = s at *
        by_cases hs0 : s.1 ≠ 0
        · rw [if_pos hs0]
          refine key _ _ (fun e w' hc => ?_) rfl
          unfold lyL lyNew at hc
          rw [if_neg hA', hss, if_pos hs0] at hc
          rcases hc with ⟨_, c2, c3⟩ | ⟨c1, _⟩
          · exact ⟨c2, es, hps, c3⟩
          · exact absurd c1 hs0
        · rw [if_neg hs0]
          have hsf := hfs (Classical.byContradiction hs0)
          refine key _ _ (hres _ s.2.2.1 (ss ++ [ps.length + 1]) (entN ((ps.length : Int) + 1) p).length _ (fun h0 => ?_) (fun h0 => ?_)) rfl
          · unfold lyL lyNew
            rw [if_neg hA', hss, if_neg hs0, if_neg (fun e => e h0), namesN_snoc, hsf]
          · unfold lyL lyNew
            rw [if_neg hA', hss, if_neg hs0, if_pos h0, hsf]
theorem ApP.apw {r : Int × Ud} {p : List Int} {ss' : List Nat} {sz' : Nat} {e : Ending} (h : ApP w G H xb wb pre fs p ss ss' (las + 1) r e w') (hps : fs.map (·.2) = ps) : e = .returned (.tuple #[.int .i64 (apW r ps p las ss ss' sz sz').n, .int .i64 (apW r ps p las ss ss' sz sz').er]) ∧ ∃ fs', fs'.map (·.2) = (apW r ps p las ss ss' sz sz').ps ∧ XRes w G H xb wb pre (apW r ps p las ss ss' sz sz').u fs' (apW r ps p las ss ss' sz sz').ss ((apW r ps p las ss ss' sz sz').las + 1) (apW r ps p las ss ss' sz sz').dead w' := by
  have hel : fs.length = ps.length := by rw [← hps]; simp
  unfold apW
  rcases h with ⟨h0, he, hx⟩ | ⟨h0, he, cv, hx⟩
  · rw [if_neg h0]
    refine ⟨he, fs, hps, ?_⟩
    have : (if r.1 = 6 then false else true) = decide (r.1 ≠ 6) := by by_cases h6 : r.1 = 6 <;> simp [h6]
    rw [this] at hx
    exact hx
  · rw [if_pos h0]
    exact ⟨by rw [he, hel], fs ++ [(cv, p)], by simp [hps], hx⟩
theorem syL_good (hg : Gd u) (n las : Nat) (x : Nm) : Gd (syL u n las x false).2.1 := by
  unfold syL
  simp only [Bool.false_eq_true, if_false]
  split
  · exact hg
  · exact hg.sync x
theorem XAp (w : World) (h : Xd w G H xb wb u pre fs ss (las + 1) dead) (hg : Gd u) (hps : fs.map (·.2) = ps) (hsl : Sl pre u ps las ss sz k) (hk : k ≤ 1000) (ao : Option Addr) (cap : Nat) (p : List Int) (hb : Bs w (.slice ao p.length cap) p) (hy : Byt p)
    (hown : p ≠ [] → ∀ j, (Value.slice ao p.length cap).ownBlock = some j → ¬ G j ∧ ¬ H j) :
    Calls Tryz.prog 17 #[.pointer (some ⟨xb, 0, none⟩), .slice ao p.length cap] w fun e w' => e = .returned (.tuple #[.int .i64 (apO pre u ps las ss sz dead p).n, .int .i64 (apO pre u ps las ss sz dead p).er]) ∧
      ∃ fs', fs'.map (·.2) = (apO pre u ps las ss sz dead p).ps ∧ XRes w G H xb wb pre (apO pre u ps las ss sz dead p).u fs' (apO pre u ps las ss sz dead p).ss ((apO pre u ps las ss sz dead p).las + 1) (apO pre u ps las ss sz dead p).dead w' := by
  obtain ⟨ev, sv, hl⟩ := h.l
  have hel : fs.length = ps.length := by rw [← hps]; simp
  unfold apO
  cases dead with
  | true =>
    rw [if_pos rfl]
    refine (XAppend_dead _ w hl).mono ?_
    rintro e w' ⟨rfl, rfl⟩
    exact ⟨rfl, fs, hps, XRes.refl h (Below.refl _ _)⟩
  | false =>
    rw [if_neg (by decide)]
    by_cases hlong : 65526 < p.length
    · rw [if_pos hlong]
      refine (XAppend_long ao _ cap w hl hlong).mono ?_
      rintro e w' ⟨rfl, rfl⟩
      exact ⟨rfl, fs, hps, XRes.refl h (Below.refl _ _)⟩
    · rw [if_neg hlong]
      have hf := hsl.few
      have hE : Epl p := ⟨hy, by omega⟩
      obtain ⟨b1, b2⟩ := ent_ok hE (show ps.length ≤ 10000000 by omega)
      rw [← hel] at b1 b2
      by_cases hA : ss ≠ [] ∧ sz < 512
      · rw [if_pos hA]
        have h5 : (at0U u.us (nameN pre (lastS ss))).1.length < 512 := by
          have := hsl.szq hA.1
          unfold lenU at this
          omega
        refine (XAppend_old ao cap p w h hg hb hy (by omega) hown hA.1 h5 (by omega) _ rfl b2 b1).mono fun e w' hP => ?_
        have := hP.apw (sz := sz) (sz' := sz + (entN ((ps.length : Int) + 1) p).length) hps
        rw [hel] at this
        exact this
      · rw [if_neg hA]
        by_cases hs : ss = []
        · have e1 : syS u ps.length las (nameN pre (lastS ss)) ss = (0, u, las, false) := if_pos hs
          rw [e1, if_neg (fun e => e rfl)]
          refine (XAppend_first ao cap p w h hg hb hy (by omega) hown hs (by omega) _ rfl b2 b1).mono fun e w' hP => ?_
          have := hP.apw (sz := sz) (sz' := (entN ((ps.length : Int) + 1) p).length) hps
          rw [hel] at this
          exact this
        · have e1 : syS u ps.length las (nameN pre (lastS ss)) ss = syL u ps.length las (nameN pre (lastS ss)) false := if_neg hs
          have h5 : ¬ (at0U u.us (nameN pre (lastS ss))).1.length < 512 := fun e => by
            have := hsl.szq hs
            unfold lenU at this
            exact hA ⟨hs, by omega⟩
          have e2 := syL_syX u fs.length las (nameN pre (lastS ss))
          have hg1 := syL_good hg ps.length las (nameN pre (lastS ss))
          rw [e1]
          rw [hel] at e2
          generalize syL u ps.length las (nameN pre (lastS ss)) false = a at *
          by_cases h0 : a.1 ≠ 0
          · rw [if_pos h0]
            refine (XAppend_nosync ao cap p w h hg (by omega) hs h5 (a.1, a.2.1, a.2.2.1 + 1, a.2.2.2) (by rw [hel]; exact e2) h0).mono ?_
            rintro e w' ⟨rfl, hx⟩
            exact ⟨rfl, fs, hps, hx⟩
          · rw [if_neg h0]
            refine (XAppend_next ao cap p w h hg hb hy (by omega) hown hs h5 (a.1, a.2.1, a.2.2.1 + 1, a.2.2.2) (by rw [hel]; exact e2) (Classical.byContradiction h0) hg1 (by omega) (by omega) _ rfl b2 b1).mono fun e w' hP => ?_
            have := hP.apw (sz := sz) (sz' := (entN ((ps.length : Int) + 1) p).length) hps
            rw [hel] at this
            exact this
end Go.Proofs.YtnkjhooeklodcaaGreatDoor
end

section
/-
  A log's state stays one: behind Append, behind Sync. Plain facts; no walk.
-/
namespace Go.Proofs.YtnkjhooeklodcaaGreatDoor
open Go.RowKit Go.Maps Go.Sort
open Fr (entN)

variable {pre : List UInt8} {u u' : Ud} {las las' sz sz' k : Nat} {dead : Bool} {ss : List Nat} {ps : List (List Int)}
theorem five_room (u : Ud) (ns : List Nm) (f : Us → Int × Us) : (u.five ns f).2.room = u.room := by
  unfold Ud.five
  split <;> rfl
theorem isSeg_name (pre : List UInt8) {n : Nat} (h : n < 100000000) : isSeg (nameN pre n) pre = true := by
  obtain ⟨t, e1, e2, e3, _⟩ := nameN_form pre n h
  rw [e1]
  have hp : Lib.hasPrefix (pre ++ t) pre = true := by simp [Lib.hasPrefix]
  have ht : Lib.trimPrefix (pre ++ t) pre = t := by unfold Lib.trimPrefix; rw [if_pos hp, List.drop_left]
  unfold isSeg
  rw [hp, ht, e2, seg_all, List.all_eq_true.2 e3]
  rfl
def Alike (us us' : Us) : Prop := ∀ y, (lkU us' y).isSome = (lkU us y).isSome ∧ lenU us' y = lenU us y
theorem Alike.refl (us : Us) : Alike us us := fun _ => ⟨rfl, rfl⟩
theorem Alike.trans {a b c : Us} (h : Alike a b) (k : Alike b c) : Alike a c := fun y => ⟨(k y).1.trans (h y).1, (k y).2.trans (h y).2⟩
theorem sync_alike (u : Ud) (x : Nm) : Alike u.us (u.five [x] (syU x)).2.us := by
  intro y
  refine ⟨?_, by unfold lenU; rw [sync_bytes]⟩
  rcases five_us u [x] (syU x) with e | e
  · rw [e]
  · rw [e]
    unfold syU
    cases hl : lkU u.us x with
    | none => rfl
    | some f =>
      simp only
      rw [lkU_pt]
      by_cases hy : y = x
      · rw [if_pos hy, hy, hl]; rfl
      · rw [if_neg hy]
theorem syS_alike (u : Ud) (n las : Nat) (x : Nm) (ss : List Nat) : Alike u.us (syS u n las x ss).2.1.us ∧ (syS u n las x ss).2.1.room = u.room ∧ (ss = [] → (syS u n las x ss).2.2.1 = las) := by
  unfold syS
  split
  · exact ⟨Alike.refl _, rfl, fun _ => rfl⟩
  · rename_i hs
    refine ⟨?_, ?_, fun e => absurd e hs⟩
    · unfold syL
      simp only [Bool.false_eq_true, if_false]
      split
      · exact Alike.refl _
      · exact sync_alike u x
    · unfold syL
      simp only [Bool.false_eq_true, if_false]
      split
      · rfl
      · exact five_room _ _ _
theorem Sl.same (h : Sl pre u ps las ss sz k) (hu : Alike u.us u'.us) (hr : u'.room = u.room) (hl : ss = [] → las' = las) : Sl pre u' ps las' ss sz (k + 1) :=
  ⟨fun hs => by rw [(hu _).2]; exact h.szq hs, fun hs => ⟨(h.nil hs).1, by rw [hl hs]; exact (h.nil hs).2⟩, fun n hn => by have := h.num n hn; omega, by have := h.few; omega, fun x hx => h.nl x (by rw [← (hu x).1]; exact hx), by rw [hr]; exact h.rm, fun x h1 h2 => h.seg x h1 (by rw [← (hu x).1]; exact h2), h.top⟩
theorem wr_err {u : Ud} {x : Nm} {b : List Int} {room : Int} (h : (u.five [x] (wrU x b room)).1 ≠ 0) : (u.five [x] (wrU x b room)).2.us = u.us := by
  rcases five_us u [x] (wrU x b room) with e | e
  · exact e
  · rw [e]
    unfold Ud.five at h
    split at h
    · unfold wrU
      split
      · rfl
      · rename_i h1 h2
        unfold Ud.five at e
        rw [if_pos h1] at e
        unfold wrU at e
        rw [if_neg h2] at e
        exact e.symm
    · unfold wrU at h ⊢
      split
      · rfl
      · rename_i h2
        rw [if_neg h2] at h
        exact absurd rfl h
theorem wr_ok {u : Ud} {x : Nm} {b : List Int} {room : Int} (h : (u.five [x] (wrU x b room)).1 = 0) : badN x = false ∧ (u.five [x] (wrU x b room)).2.us = ptU u.us x ((at0U u.us x).1 ++ b, (at0U u.us x).2) := by
  have hm : mayE u.left [x] = 0 := Classical.byContradiction fun e => by rw [five_may _ _ e] at h; exact e h
  obtain ⟨h1, h2⟩ := five_done h
  refine ⟨?_, ?_⟩
  · unfold mayE at hm
    split at hm
    · exact absurd hm (by decide)
    · split at hm
      · exact absurd hm (by decide)
      · rename_i hb
        simpa using hb
  · rw [h2]
    unfold wrU at h1 ⊢
    split at h1
    · exact absurd (show (6 : Int) = 0 from h1) (by decide)
    · rename_i hf
      rw [if_neg hf]
theorem Sl.wrote {x : Nm} {b p : List Int} {ss' : List Nat} (h : Sl pre u ps las ss sz k) (hu : Alike u.us u'.us) (hr : u'.room = u.room) (h0 : (u'.five [x] (wrU x b u'.room)).1 = 0) (hss : ∀ n, n ∈ ss' → n ∈ ss ∨ n = ps.length + 1) (hxs : x = nameN pre (lastS ss')) (hne : ss' ≠ []) (hlast : lenU u.us x + b.length = sz') (hin : ∀ n ∈ ss, n ∈ ss') (hlen : ss'.length ≤ ss.length + 1) : Sl pre (u'.five [x] (wrU x b u'.room)).2 (ps ++ [p]) las' ss' sz' (k + 1) := by
  obtain ⟨hb, hus⟩ := wr_ok h0
  have hf := h.few
  have hx64 : x.length ≤ 64 := by
    unfold badN at hb
    simp at hb
    omega
  have hlk : ∀ y, (lkU (u'.five [x] (wrU x b u'.room)).2.us y).isSome = true → y = x ∨ (lkU u.us y).isSome = true := fun y hy => by
    rw [hus, lkU_pt] at hy
    by_cases e : y = x
    · exact Or.inl e
    · rw [if_neg e, (hu y).1] at hy
      exact Or.inr hy
  refine ⟨fun _ => ?_, fun e => absurd e hne, fun n hn => ?_, ⟨by simp; omega, by omega⟩, fun y hy => ?_, by rw [five_room, hr]; exact h.rm, fun y h1 h2 => ?_, fun n hn => ?_⟩
  · rw [← hxs, ← hlast, ← (hu x).2]
    unfold lenU
    rw [hus]
    unfold at0U
    rw [lkU_pt, if_pos rfl]
    simp
  · rcases hss n hn with e | e
    · have := h.num n e; omega
    · omega
  · rcases hlk y hy with e | e
    · rw [e]; exact hx64
    · exact h.nl y e
  · rcases hlk y h2 with e | e
    · obtain ⟨m, _, hm⟩ := lastS_get hne
      exact ⟨lastS ss', List.mem_of_getElem? hm, by rw [e, hxs]⟩
    · obtain ⟨n, h3, h4⟩ := h.seg y h1 e
      exact ⟨n, hin n h3, h4⟩
  · have hl : (ps ++ [p]).length = ps.length + 1 := by simp
    rw [hl]
    rcases hss n hn with e | e
    · have := h.top n e; omega
    · omega
theorem Sl.append (h : Sl pre u ps las ss sz k) (hk : k ≤ 1000) (dead : Bool) (p : List Int) : Sl pre (apO pre u ps las ss sz dead p).u (apO pre u ps las ss sz dead p).ps (apO pre u ps las ss sz dead p).las (apO pre u ps las ss sz dead p).ss (apO pre u ps las ss sz dead p).sz (k + 1) := by
  have hf := h.few
  unfold apO
  split
  · exact h.same (Alike.refl _) rfl fun _ => rfl
  · split
    · exact h.same (Alike.refl _) rfl fun _ => rfl
    · split
      · rename_i hA
        unfold apW
        split
        · rename_i h0
          exact h.wrote (Alike.refl _) rfl h0 (fun n hn => Or.inl hn) rfl hA.1 (by rw [h.szq hA.1]) (fun n hn => hn) (Nat.le_succ _)
        · rename_i h0
          exact h.same (by rw [wr_err h0]; exact Alike.refl _) (five_room _ _ _) fun _ => rfl
      · rename_i hA
        obtain ⟨a1, a2, a3⟩ := syS_alike u ps.length las (nameN pre (lastS ss)) ss
        generalize syS u ps.length las (nameN pre (lastS ss)) ss = s at *
        split
        · exact h.same a1 a2 a3
        · unfold apW
          split
          · rename_i h0
            have hn8 : ps.length + 1 < 100000000 := by omega
            have hl0 : lenU u.us (nameN pre (ps.length + 1)) = 0 := by
              unfold lenU at0U
              cases hl : lkU u.us (nameN pre (ps.length + 1)) with
              | none => rfl
              | some f =>
                obtain ⟨m, hm, e⟩ := h.seg _ (isSeg_name pre hn8) (by rw [hl]; rfl)
                have h1 := h.num m hm
                have e2 := nameN_inj hn8 (by omega) e
                have hs : ss ≠ [] := List.ne_nil_of_mem hm
                have hz : ¬ sz < 512 := fun e => hA ⟨hs, e⟩
                have := (h.top m hm).2 (by omega)
                omega
            exact h.wrote a1 a2 h0 (fun n hn => (List.mem_append.1 hn).imp id fun e => List.mem_singleton.1 e) (by unfold lastS; simp) (by simp) (by rw [hl0, Nat.zero_add]) (fun n hn => List.mem_append_left _ hn) (by simp)
          · rename_i h0
            exact h.same (a1.trans (by rw [wr_err h0]; exact Alike.refl _)) (by rw [five_room]; exact a2) a3
theorem Sl.sync (h : Sl pre u ps las ss sz k) (x : Nm) (dead : Bool) : Sl pre (syL u ps.length las x dead).2.1 ps (syL u ps.length las x dead).2.2.1 ss sz (k + 1) := by
  unfold syL
  split
  · exact h.same (Alike.refl _) rfl fun _ => rfl
  · split
    · exact h.same (Alike.refl _) rfl fun _ => rfl
    · rename_i hl
      refine h.same (sync_alike u x) (five_room _ _ _) fun e => ?_
      obtain ⟨e1, e2⟩ := h.nil e
      rw [e1, e2] at hl
      exact absurd rfl hl
end Go.Proofs.YtnkjhooeklodcaaGreatDoor
end

section
/-
  Both logs in one state (Hs): what Append and Sync do to both, one behind the other.
-/
namespace Go.Proofs.YtnkjhooeklodcaaGreatDoor
open Go.RowKit Go.Maps Go.Sort

variable {w w' w1 w2 : World} {B N pb sb wb lb xb : Nat} {Z D F G H : Nat → Prop} {u u' : Ud} {es fs : List En} {las : Nat} {sz k : Nat} {dead : Bool} {ss : List Nat} {ps : List (List Int)}
theorem Tq.lcall2 {pre : List UInt8} {ns ns' : List Nm} {es' : List En} {las' sz' : Nat} {dead' dead2 : Bool} {v : Ud} {sure : Nat} (h : Tq w B pb sb wb lb xb D F G H pre u es las ns sz dead v fs ss sure dead2) (hB : B ≤ w.heap.size) (hr : LRes w D F lb sb pre u' es' las' ns' sz' dead' w') : (∃ D' F', Tq w' B pb sb wb lb xb D' F' G H pre u' es' las' ns' sz' dead' v fs ss sure dead2 ∧ ∀ j, D' j ∨ F' j → (D j ∨ F j) ∨ w.heap.size ≤ j) ∧ Below B w w' ∧ Grows (fun j => D j ∨ F j) w w' := by
  obtain ⟨D', F', h1, h2, h3, h4⟩ := hr
  have hpl := h.p.lt
  have hno : ∀ k, k < w.heap.size → ¬ (D k ∨ F k) → w'.heap[k]? = w.heap[k]? := fun k hk hn => h4.block k hk hn
  have hnew : ∀ k, D' k ∨ F' k → (D k ∨ F k) ∨ w.heap.size ≤ k := fun k hk => by
    rcases hk with e | e
    · exact (h2 k e).imp Or.inl id
    · exact (h3 k e).imp Or.inr id
  refine ⟨⟨D', F', ⟨h.p.keep (hno pb hpl fun e => (h.lo pb (Or.inl e)).2 rfl), h1, h.x.keep h4.size fun k hk hlt => hno k hlt fun e => h.ap k e hk, fun k hk => ?_, h.pB, fun k hk hx => ?_⟩, hnew⟩, ⟨h4.os, h4.tape, h4.output, h4.size, fun k hk => hno k (by omega) fun e => by have := (h.lo k (Or.inl e)).1; omega⟩, h4⟩
  · rcases hk with e | e
    · rcases hnew k e with e | e
      · exact h.lo k (Or.inl e)
      · exact ⟨by omega, by omega⟩
    · exact h.lo k (Or.inr e)
  · rcases hnew k hk with e | e
    · exact h.ap k e hx
    · have : k < w.heap.size := hx.elim (h.x.dl k) (h.x.fl k)
      omega
theorem Tq.xcall2 {pre : List UInt8} {ns : List Nm} {fs' : List En} {ss' : List Nat} {sure sure' : Nat} {dead2 dead2' : Bool} {v v' : Ud} (h : Tq w B pb sb wb lb xb D F G H pre u es las ns sz dead v fs ss sure dead2) (hB : B ≤ w.heap.size) (hr : XRes w G H xb wb pre v' fs' ss' sure' dead2' w') : (∃ G' H', Tq w' B pb sb wb lb xb D F G' H' pre u es las ns sz dead v' fs' ss' sure' dead2' ∧ ∀ j, G' j ∨ H' j → (G j ∨ H j) ∨ w.heap.size ≤ j) ∧ Below B w w' ∧ Grows (fun j => G j ∨ H j) w w' := by
  obtain ⟨D', F', h1, h2, h3, h4⟩ := hr
  have hpl := h.p.lt
  have hno : ∀ k, k < w.heap.size → ¬ (G k ∨ H k) → w'.heap[k]? = w.heap[k]? := fun k hk hn => h4.block k hk hn
  have hnew : ∀ k, D' k ∨ F' k → (G k ∨ H k) ∨ w.heap.size ≤ k := fun k hk => by
    rcases hk with e | e
    · exact (h2 k e).imp Or.inl id
    · exact (h3 k e).imp Or.inr id
  refine ⟨⟨D', F', ⟨h.p.keep (hno pb hpl fun e => (h.lo pb (Or.inr e)).2 rfl), h.l.keepL h4.size fun k hk hlt => hno k hlt fun e => h.ap k hk e, h1, fun k hk => ?_, h.pB, fun k hk hx => ?_⟩, hnew⟩, ⟨h4.os, h4.tape, h4.output, h4.size, fun k hk => hno k (by omega) fun e => by have := (h.lo k (Or.inr e)).1; omega⟩, h4⟩
  · rcases hk with e | e
    · exact h.lo k (Or.inl e)
    · rcases hnew k e with e | e
      · exact h.lo k (Or.inr e)
      · exact ⟨by omega, by omega⟩
  · rcases hnew k hx with e | e
    · exact h.ap k hk e
    · have : k < w.heap.size := hk.elim (h.l.dl k) (h.l.fl k)
      omega
def Zn (B : Nat) (Z : Nat → Prop) (pb : Nat) : Nat → Prop := fun j => (B ≤ j ∧ Z j) ∧ j ≠ pb
def Hs (w : World) (B : Nat) (Z : Nat → Prop) (pb sb wb lb xb : Nat) (u : Ud) (ps : List (List Int)) (las : Nat) (ss : List Nat) (sz : Nat) (dead : Bool) (k : Nat) : Prop :=
  ∃ D F G H es fs, Tq w B pb sb wb lb xb D F G H [97] u es las (namesN [97] ss) sz dead u fs ss (las + 1) dead ∧ es.map (·.2) = ps ∧ fs.map (·.2) = ps ∧ Sl [97] u ps las ss sz k ∧ (∀ j, (D j ∨ F j) ∨ (G j ∨ H j) → Z j)
def Hm (w : World) (B : Nat) (Z : Nat → Prop) (N pb sb wb lb xb : Nat) (o : ApO) (u : Ud) (ps : List (List Int)) (las : Nat) (ss : List Nat) (sz : Nat) (dead : Bool) (k : Nat) : Prop :=
  ∃ D F G H es fs, Tq w B pb sb wb lb xb D F G H [97] o.u es o.las (namesN [97] o.ss) o.sz o.dead u fs ss (las + 1) dead ∧ es.map (·.2) = o.ps ∧ fs.map (·.2) = ps ∧ Sl [97] o.u o.ps o.las o.ss o.sz (k + 1) ∧ Sl [97] u ps las ss sz k ∧ (∀ j, G j ∨ H j → Z j) ∧ (∀ j, D j ∨ F j → Z j ∨ N ≤ j) ∧ Gd u
structure Cx (w : World) (B : Nat) : Prop where
  tab : Fr.Tab w
  pw : Pw w
  b8 : 8 ≤ B
  bw : B ≤ w.heap.size
theorem Cx.grows {X : Nat → Prop} (h : Cx w B) (hg : Grows X w w') (hx : ∀ j, X j → B ≤ j) : Cx w' B := by
  have hb := h.b8
  have hw := h.bw
  have hk : ∀ j, j < 8 → w'.heap[j]? = w.heap[j]? := fun j hj => hg.block j (by omega) fun e => by have := hx j e; omega
  exact ⟨tab_keep h.tab (hk 0 (by omega)), h.pw.keep hk, hb, Nat.le_trans hw hg.size⟩
theorem Cx.below (h : Cx w B) (hb : Below B w w') : Cx w' B := h.grows (X := fun j => B ≤ j) ⟨hb.os, hb.tape, hb.output, hb.size, fun j _ hn => hb.block j (by omega)⟩ fun j e => e
theorem Hs.below (h : Hs w B Z pb sb wb lb xb u ps las ss sz dead k) (hb : Below w.heap.size w w') : Hs w' B Z pb sb wb lb xb u ps las ss sz dead k := by
  obtain ⟨D, F, G, H, es, fs, h1, h2⟩ := h
  exact ⟨D, F, G, H, es, fs, h1.below hb, h2⟩
theorem Hm.below {o : ApO} (h : Hm w B Z N pb sb wb lb xb o u ps las ss sz dead k) (hb : Below w.heap.size w w') : Hm w' B Z N pb sb wb lb xb o u ps las ss sz dead k := by
  obtain ⟨D, F, G, H, es, fs, h1, h2⟩ := h
  exact ⟨D, F, G, H, es, fs, h1.below hb, h2⟩
theorem Hs.more {Y : Nat → Prop} (h : Hs w B Z pb sb wb lb xb u ps las ss sz dead k) (hm : ∀ j, B ≤ j → j < w.heap.size → Z j → Y j) : Hs w B Y pb sb wb lb xb u ps las ss sz dead k := by
  obtain ⟨D, F, G, H, es, fs, h1, h2, h3, h4, h5⟩ := h
  refine ⟨D, F, G, H, es, fs, h1, h2, h3, h4, fun j hj => hm j (h1.lo j hj).1 ?_ (h5 j hj)⟩
  rcases hj with (e | e) | (e | e)
  · exact h1.l.dl j e
  · exact h1.l.fl j e
  · exact h1.x.dl j e
  · exact h1.x.fl j e
theorem Hs.tight (h : Hs w B Z pb sb wb lb xb u ps las ss sz dead k) : Hs w B (fun j => j < w.heap.size) pb sb wb lb xb u ps las ss sz dead k := h.more fun _ _ hj _ => hj
theorem Hs.pair (h : Hs w B Z pb sb wb lb xb u ps las ss sz dead k) : Cw w pb [.pointer (some ⟨sb, 0, none⟩), .pointer (some ⟨wb, 0, none⟩), .pointer (some ⟨lb, 0, none⟩), .pointer (some ⟨xb, 0, none⟩)] 37 := by
  obtain ⟨D, F, G, H, es, fs, h1, _⟩ := h
  exact h1.p
theorem Hs.keep (h : Hs w B Z pb sb wb lb xb u ps las ss sz dead k) (hs : w.heap.size ≤ w'.heap.size) (hk : ∀ j, B ≤ j → j < w.heap.size → Z j ∨ j = pb → w'.heap[j]? = w.heap[j]?) : Hs w' B Z pb sb wb lb xb u ps las ss sz dead k := by
  obtain ⟨D, F, G, H, es, fs, h1, h2, h3, h4, h5⟩ := h
  exact ⟨D, F, G, H, es, fs, ⟨h1.p.keep (hk pb h1.pB h1.p.lt (Or.inr rfl)), h1.l.keepL hs fun j hj hlt => hk j (h1.lo j (Or.inl hj)).1 hlt (Or.inl (h5 j (Or.inl hj))), h1.x.keep hs fun j hj hlt => hk j (h1.lo j (Or.inr hj)).1 hlt (Or.inl (h5 j (Or.inr hj))), h1.lo, h1.pB, h1.ap⟩, h2, h3, h4, h5⟩
def Out (B : Nat) (Z : Nat → Prop) (v : Value) : Prop := ∀ j, v.ownBlock = some j → j < B ∨ ¬ Z j
theorem LAp2 (h : Hs w B Z pb sb wb lb xb u ps las ss sz dead k) (hk : k ≤ 1000) (hc : Cx w B) (ao : Option Addr) (cap : Nat) (p : List Int) (hb : Bs w (.slice ao p.length cap) p) (hy : Byt p) (ho : p ≠ [] → Out B Z (.slice ao p.length cap)) :
    Calls Tryz.prog 16 #[.pointer (some ⟨lb, 0, none⟩), .slice ao p.length cap] w fun e w' => e = .returned (.tuple #[.int .i64 (apO [97] u ps las ss sz dead p).n, .int .i64 (apO [97] u ps las ss sz dead p).er]) ∧ Grows (Zn B Z pb) w w' ∧ Hm w' B Z w.heap.size pb sb wb lb xb (apO [97] u ps las ss sz dead p) u ps las ss sz dead k := by
  obtain ⟨D, F, G, H, es, fs, h1, h2, h3, h4, h5⟩ := h
  have hno : p ≠ [] → ∀ j, (Value.slice ao p.length cap).ownBlock = some j → ¬ D j ∧ ¬ F j := fun hne j hj => ⟨fun e => by
    have h7 := (h1.lo j (Or.inl (Or.inl e))).1
    rcases ho hne j hj with e2 | e2
    · omega
    · exact e2 (h5 j (Or.inl (Or.inl e))), fun e => by
    have h7 := (h1.lo j (Or.inl (Or.inr e))).1
    rcases ho hne j hj with e2 | e2
    · omega
    · exact e2 (h5 j (Or.inl (Or.inr e)))⟩
  refine (LAp w h1.l h2 h4 hk (by decide) ao cap p hb hy hno hc.tab hc.pw (Nat.le_trans hc.b8 hc.bw)).mono ?_
  rintro e w' ⟨rfl, es', he, hr⟩
  obtain ⟨⟨D', F', hT, hnew⟩, _, hg⟩ := h1.lcall2 hc.bw hr
  refine ⟨rfl, hg.mono fun j hj => ⟨⟨(h1.lo j (Or.inl hj)).1, h5 j (Or.inl hj)⟩, (h1.lo j (Or.inl hj)).2⟩, D', F', G, H, es', fs, hT, he, h3, h4.append hk dead p, h4, fun j hj => h5 j (Or.inr hj), fun j hj => (hnew j hj).imp (fun e => h5 j (Or.inl e)) id, h1.l.d.good⟩
theorem XAp2 {p : List Int} (h : Hm w B Z N pb sb wb lb xb (apO [97] u ps las ss sz dead p) u ps las ss sz dead k) (hk : k ≤ 1000) (hbw : B ≤ w.heap.size) (hN : N ≤ w.heap.size) (ao : Option Addr) (cap : Nat) (hb : Bs w (.slice ao p.length cap) p) (hy : Byt p) (ho : p ≠ [] → Out B Z (.slice ao p.length cap)) :
    Calls Tryz.prog 17 #[.pointer (some ⟨xb, 0, none⟩), .slice ao p.length cap] w fun e w' => e = .returned (.tuple #[.int .i64 (apO [97] u ps las ss sz dead p).n, .int .i64 (apO [97] u ps las ss sz dead p).er]) ∧ Grows (Zn B Z pb) w w' ∧ Hs w' B (fun j => Z j ∨ N ≤ j) pb sb wb lb xb (apO [97] u ps las ss sz dead p).u (apO [97] u ps las ss sz dead p).ps (apO [97] u ps las ss sz dead p).las (apO [97] u ps las ss sz dead p).ss (apO [97] u ps las ss sz dead p).sz (apO [97] u ps las ss sz dead p).dead (k + 1) := by
  obtain ⟨D, F, G, H, es, fs, h1, h2, h3, h4, h4', h5, h6, h7⟩ := h
  have hno : p ≠ [] → ∀ j, (Value.slice ao p.length cap).ownBlock = some j → ¬ G j ∧ ¬ H j := fun hne j hj => ⟨fun e => by
    have h8 := (h1.lo j (Or.inr (Or.inl e))).1
    rcases ho hne j hj with e2 | e2
    · omega
    · exact e2 (h5 j (Or.inl e)), fun e => by
    have h8 := (h1.lo j (Or.inr (Or.inr e))).1
    rcases ho hne j hj with e2 | e2
    · omega
    · exact e2 (h5 j (Or.inr e))⟩
  refine (XAp w h1.x h7 h3 h4' hk ao cap p hb hy hno).mono ?_
  rintro e w' ⟨rfl, fs', he, hr⟩
  obtain ⟨⟨G', H', hT, hnew⟩, _, hg⟩ := h1.xcall2 hbw hr
  refine ⟨rfl, hg.mono fun j hj => ⟨⟨(h1.lo j (Or.inr hj)).1, h5 j hj⟩, (h1.lo j (Or.inr hj)).2⟩, ?_⟩
  have : Hs w' B (fun j => Z j ∨ N ≤ j) pb sb wb lb xb (apO [97] u ps las ss sz dead p).u (apO [97] u ps las ss sz dead p).ps (apO [97] u ps las ss sz dead p).las (apO [97] u ps las ss sz dead p).ss (apO [97] u ps las ss sz dead p).sz (apO [97] u ps las ss sz dead p).dead (k + 1) := by
    refine ⟨D, F, G', H', es, fs', hT, h2, he, h4, fun j hj => ?_⟩
    rcases hj with e | e
    · exact h6 j e
    · rcases hnew j e with e | e
      · exact Or.inl (h5 j e)
      · exact Or.inr (Nat.le_trans hN e)
  exact this
def syO (pre : List UInt8) (u : Ud) (ps : List (List Int)) (las : Nat) (ss : List Nat) (sz : Nat) (dead : Bool) : ApO :=
  ⟨0, (syL u ps.length las (nameN pre (lastS ss)) dead).1, (syL u ps.length las (nameN pre (lastS ss)) dead).2.1, ps, (syL u ps.length las (nameN pre (lastS ss)) dead).2.2.1, ss, sz, (syL u ps.length las (nameN pre (lastS ss)) dead).2.2.2⟩
theorem syL_nm {pre : List UInt8} (h : Sl pre u ps las ss sz k) (dead : Bool) : syL u ps.length las (lastN (namesN pre ss)) dead = syL u ps.length las (nameN pre (lastS ss)) dead := by
  by_cases hs : ss = []
  · obtain ⟨e1, e2⟩ := h.nil hs
    unfold syL
    have hl : las = ps.length := by rw [e1, e2]; rfl
    rw [if_pos hl, if_pos hl]
  · rw [lastN_names hs]
theorem syX_all (u : Ud) (n las : Nat) (x : Nm) (dead : Bool) : syX u n (las + 1) x dead = ((syL u n las x dead).1, (syL u n las x dead).2.1, (syL u n las x dead).2.2.1 + 1, (syL u n las x dead).2.2.2) := by
  cases dead with
  | false => exact syL_syX u n las x
  | true => rfl
theorem LSy2 (h : Hs w B Z pb sb wb lb xb u ps las ss sz dead k) (hk : k ≤ 1000) (hc : Cx w B) :
    Calls Tryz.prog 18 #[.pointer (some ⟨lb, 0, none⟩)] w fun e w' => e = .returned (.int .i64 (syO [97] u ps las ss sz dead).er) ∧ Grows (Zn B Z pb) w w' ∧ Hm w' B Z w.heap.size pb sb wb lb xb (syO [97] u ps las ss sz dead) u ps las ss sz dead k := by
  obtain ⟨D, F, G, H, es, fs, h1, h2, h3, h4, h5⟩ := h
  have hel : es.length = ps.length := by rw [← h2]; simp
  have hxl : (lastN (namesN [97] ss)).length ≤ maxLen := by
    by_cases hs : ss = []
    · subst hs; exact Nat.zero_le _
    · rw [lastN_names hs]
      exact names_le (by rw [nameN_len [97] _ (h4.last_lt hk hs)]; simp)
  have C := LSync_any w h1.l hxl
  rw [hel, syL_nm h4] at C
  refine C.mono ?_
  rintro e w' ⟨rfl, hr⟩
  obtain ⟨⟨D', F', hT, hnew⟩, _, hg⟩ := h1.lcall2 hc.bw hr
  exact ⟨rfl, hg.mono fun j hj => ⟨⟨(h1.lo j (Or.inl hj)).1, h5 j (Or.inl hj)⟩, (h1.lo j (Or.inl hj)).2⟩, D', F', G, H, es, fs, hT, h2, h3, h4.sync _ dead, h4, fun j hj => h5 j (Or.inr hj), fun j hj => (hnew j hj).imp (fun e => h5 j (Or.inl e)) id, h1.l.d.good⟩
theorem XSy2 (h : Hm w B Z N pb sb wb lb xb (syO [97] u ps las ss sz dead) u ps las ss sz dead k) (hbw : B ≤ w.heap.size) (hN : N ≤ w.heap.size) :
    Calls Tryz.prog 19 #[.pointer (some ⟨xb, 0, none⟩)] w fun e w' => e = .returned (.int .i64 (syO [97] u ps las ss sz dead).er) ∧ Grows (Zn B Z pb) w w' ∧ Hs w' B (fun j => Z j ∨ N ≤ j) pb sb wb lb xb (syO [97] u ps las ss sz dead).u (syO [97] u ps las ss sz dead).ps (syO [97] u ps las ss sz dead).las (syO [97] u ps las ss sz dead).ss (syO [97] u ps las ss sz dead).sz (syO [97] u ps las ss sz dead).dead (k + 1) := by
  obtain ⟨D, F, G, H, es, fs, h1, h2, h3, h4, h4', h5, h6, h7⟩ := h
  have hel : fs.length = ps.length := by rw [← h3]; simp
  have C := XSync_any w h1.x h7 (fun e hs => by
    obtain ⟨e1, e2⟩ := h4'.nil hs
    rw [hel, e1, e2] at e
    exact e rfl)
  rw [hel, syX_all] at C
  refine C.mono ?_
  rintro e w' ⟨rfl, hr⟩
  obtain ⟨⟨G', H', hT, hnew⟩, _, hg⟩ := h1.xcall2 hbw hr
  refine ⟨rfl, hg.mono fun j hj => ⟨⟨(h1.lo j (Or.inr hj)).1, h5 j hj⟩, (h1.lo j (Or.inr hj)).2⟩, D, F, G', H', es, fs, hT, h2, h3, h4, fun j hj => ?_⟩
  rcases hj with e | e
  · exact h6 j e
  · rcases hnew j e with e | e
    · exact Or.inl (h5 j e)
    · exact Or.inr (Nat.le_trans hN e)
theorem Hs.pa (h : Hs w B Z pb sb wb lb xb u ps las ss sz dead k) : ∃ D G, Pa w B pb sb wb (.pointer (some ⟨lb, 0, none⟩)) (.pointer (some ⟨xb, 0, none⟩)) D G u u ∧ (∀ x, (lkU u.us x).isSome = true → x.length ≤ 64) ∧ u.room ≤ 4000000 := by
  obtain ⟨D, F, G, H, es, fs, h1, _, _, h4, _⟩ := h
  exact ⟨D, G, h1.pa, h4.nl, h4.rm⟩
theorem open_two {l x : Value} (h : Pa w B pb sb wb l x D G u u) (hnl : ∀ x, (lkU u.us x).isSome = true → x.length ≤ 64) (hrm : u.room ≤ 4000000) (hl : u.left = -1) (hc : Cx w B) :
    Calls Tryz.prog 31 #[.pointer (some ⟨pb, 0, none⟩)] w fun e w' => e = .returned (.bool true) ∧ Below B w w' ∧ (openF [97] u).1.2.left = -1 ∧ ∃ lb xb sz, Hs w' B (fun j => j < w'.heap.size) pb sb wb lb xb (openF [97] u).1.2 (openF [97] u).2.1 (openF [97] u).2.1.length (openF [97] u).2.2 sz false 0 := by
  have hu : Du u := ⟨h.d.good, hnl, hrm⟩
  obtain ⟨o1, o2, o3⟩ := openF_free (pre := [97]) hu hl
  refine (open_any w h hu o1 hc.tab hc.pw hc.b8 hc.bw).mono ?_
  rintro e w' ⟨rfl, hb, lb, xb, D', F', G', H', es, fs, he, hf, hT⟩
  have e1 : es.length = (openF [97] u).2.1.length := by rw [← he]; simp
  have e2 : fs.length = (openF [97] u).2.1.length := by rw [← hf]; simp
  rw [e1, e2] at hT
  refine ⟨rfl, hb, o2.left, lb, xb, _, D', F', G', H', es, fs, hT, he, hf, o3, fun j hj => ?_⟩
  rcases hj with (e | e) | (e | e)
  · exact hT.l.dl j e
  · exact hT.l.fl j e
  · exact hT.x.dl j e
  · exact hT.x.fl j e
end Go.Proofs.YtnkjhooeklodcaaGreatDoor
end
