/-
  Joined from: SegHo, SegHo2, SegHg.
-/
import Derived.Test.YtnkjhooeklodcaaGreatDoorM49
import Derived.Test.YtnkjhooeklodcaaGreatDoorM47
section
/-
  The program's log alone (Ho): Append, Names, a segment's Read.
-/
namespace Go.Proofs.YtnkjhooeklodcaaGreatDoor
open Go.RowKit Go.Maps Go.Sort

variable {w w' : World} {B N pb sb wb lb xb : Nat} {u : Ud} {ps : List (List Int)} {las : Nat} {ss : List Nat} {sz k : Nat}
/-- The pair's program side: its disk and log, all their blocks from B on, below N, and none of them the pair's own. -/
def Ho (w : World) (B N pb sb lb : Nat) (u : Ud) (ps : List (List Int)) (las : Nat) (ss : List Nat) (sz k : Nat) : Prop :=
  ∃ D F es x y, Cw w pb [.pointer (some ⟨sb, 0, none⟩), x, .pointer (some ⟨lb, 0, none⟩), y] 37 ∧ Ld w D F lb sb u [97] es las (namesN [97] ss) sz false ∧ es.map (·.2) = ps ∧ Sl [97] u ps las ss sz k ∧ (∀ j, D j ∨ F j → B ≤ j ∧ j < N ∧ j ≠ pb) ∧ B ≤ pb ∧ pb < N
theorem Ho.of_hs {Z : Nat → Prop} (h : Hs w B Z pb sb wb lb xb u ps las ss sz false k) : Ho w B w.heap.size pb sb lb u ps las ss sz k := by
  obtain ⟨D, F, G, H, es, fs, h1, h2, h3, h4, h5⟩ := h
  exact ⟨D, F, es, _, _, h1.p, h1.l, h2, h4, fun j hj => ⟨(h1.lo j (Or.inl hj)).1, hj.elim (h1.l.dl j) (h1.l.fl j), (h1.lo j (Or.inl hj)).2⟩, h1.pB, h1.p.lt⟩
theorem Ho.below (h : Ho w B N pb sb lb u ps las ss sz k) (hb : Below N w w') : Ho w' B N pb sb lb u ps las ss sz k := by
  obtain ⟨D, F, es, x, y, h1, h2, h3, h4, h5, h6, h7⟩ := h
  exact ⟨D, F, es, x, y, h1.keep (hb.block pb h7), h2.keepL hb.size fun j hj _ => hb.block j (h5 j hj).2.1, h3, h4, h5, h6, h7⟩
theorem Ho.pair (h : Ho w B N pb sb lb u ps las ss sz k) : w.cell? ⟨pb, 0, none⟩ = some (.pointer (some ⟨sb, 0, none⟩)) ∧ w.cell? ⟨pb, 2, none⟩ = some (.pointer (some ⟨lb, 0, none⟩)) := by
  obtain ⟨D, F, es, x, y, h1, _⟩ := h
  exact ⟨h1.cell 0, h1.cell 2⟩
theorem Ho.sl (h : Ho w B N pb sb lb u ps las ss sz k) : Sl [97] u ps las ss sz k := by
  obtain ⟨D, F, es, x, y, h1, h2, h3, h4, _⟩ := h
  exact h4
theorem Ho.res {D F : Nat → Prop} {es' : List En} {u' : Ud} {las' : Nat} {ss' : List Nat} {sz' k' : Nat} {ps' : List (List Int)} {x y : Value} (h1 : Cw w pb [.pointer (some ⟨sb, 0, none⟩), x, .pointer (some ⟨lb, 0, none⟩), y] 37) (h5 : ∀ j, D j ∨ F j → B ≤ j ∧ j < N ∧ j ≠ pb) (h6 : B ≤ pb) (_hBw : B ≤ w.heap.size)
    (hr : LRes w D F lb sb [97] u' es' las' (namesN [97] ss') sz' false w') (he : es'.map (·.2) = ps') (hsl : Sl [97] u' ps' las' ss' sz' k') : Ho w' B w'.heap.size pb sb lb u' ps' las' ss' sz' k' ∧ Below B w w' := by
  obtain ⟨D', F', a1, a2, a3, a4⟩ := hr
  have hpl := h1.lt
  have hno : ∀ j, j < w.heap.size → ¬ (D j ∨ F j) → w'.heap[j]? = w.heap[j]? := fun j hj hn => a4.block j hj hn
  refine ⟨⟨D', F', es', x, y, h1.keep (hno pb hpl fun e => (h5 pb e).2.2 rfl), a1, he, hsl, fun j hj => ?_, h6, Nat.lt_of_lt_of_le hpl a4.size⟩, ⟨a4.os, a4.tape, a4.output, a4.size, fun j hj => hno j (by omega) fun e => by have := (h5 j e).1; omega⟩⟩
  have hnew : (D j ∨ F j) ∨ w.heap.size ≤ j := by
    rcases hj with e | e
    · exact (a2 j e).imp Or.inl id
    · exact (a3 j e).imp Or.inr id
  refine ⟨?_, hj.elim (a1.dl j) (a1.fl j), ?_⟩
  · rcases hnew with e | e
    · exact (h5 j e).1
    · omega
  · rcases hnew with e | e
    · exact (h5 j e).2.2
    · omega
/-- Append of bytes that lie behind N. -/
theorem HoAp {E : Nat} {cs : List (List (List Int))} (h : Ho w B N pb sb lb u ps las ss sz k) (hm : My E u ps las ss sz cs) (hk : k ≤ 1000) (hc : Cx w B) (hn : ps.length < 300) (hE : E ≤ 222) (p : List Int) (hp : Epl p) (hpE : p.length + 22 ≤ E) (cap : Nat) (ab : Nat) (hab : N ≤ ab) (hb : Bs w (.slice (some ⟨ab, 0, none⟩) p.length cap) p) :
    Calls Tryz.prog 16 #[.pointer (some ⟨lb, 0, none⟩), .slice (some ⟨ab, 0, none⟩) p.length cap] w fun e w' => e = .returned (.tuple #[.int .i64 ((ps.length : Int) + 1), .int .i64 0]) ∧ Below B w w' ∧ ∃ u' las' ss' sz' cs', Ho w' B w'.heap.size pb sb lb u' (ps ++ [p]) las' ss' sz' (k + 1) ∧ My E u' (ps ++ [p]) las' ss' sz' cs' := by
  obtain ⟨D, F, es, x, y, h1, h2, h3, h4, h5, h6, h7⟩ := h
  obtain ⟨u', las', ss', sz', cs', ho, hm'⟩ := hm.step h4 hn hE hp hpE
  have hno : ∀ j, (Value.slice (some ⟨ab, 0, none⟩) p.length cap).ownBlock = some j → ¬ D j ∧ ¬ F j := fun j hj => by
    have e : j = ab := (Option.some.inj hj).symm
    exact ⟨fun q => by have := (h5 j (Or.inl q)).2.1; omega, fun q => by have := (h5 j (Or.inr q)).2.1; omega⟩
  have hsl := h4.append hk false p
  refine (LAp w h2 h3 h4 hk (by decide) (some ⟨ab, 0, none⟩) cap p hb hp.1 hno hc.tab hc.pw (Nat.le_trans hc.b8 hc.bw)).mono ?_
  rintro e w' ⟨rfl, es', he, hr⟩
  rw [ho] at he hr hsl ⊢
  obtain ⟨a1, a2⟩ := Ho.res h1 h5 h6 hc.bw hr he hsl
  exact ⟨rfl, a2, u', las', ss', sz', cs', a1, hm'⟩
theorem HoNames (h : Ho w B N pb sb lb u ps las ss sz k) : Calls Tryz.prog 33 #[.pointer (some ⟨lb, 0, none⟩)] w fun e w' => ∃ v', e = .returned v' ∧ Ot w' w.heap.size v' (namesN [97] ss) ∧ Below w.heap.size w w' := by
  obtain ⟨D, F, es, x, y, h1, h2, h3, h4, h5, h6, h7⟩ := h
  obtain ⟨ev, nv, hl⟩ := h2.l
  exact LNames_any w hl
theorem HoRead (h : Ho w B N pb sb lb u ps las ss sz k) (x : Nm) (hx : x.length ≤ maxLen) : Calls Tryz.prog 34 #[.pointer (some ⟨sb, 0, none⟩), encStr x] w fun e w' => ∃ ao cap, e = .returned (.tuple #[.slice ao (lenU u.us x) cap, .int .i64 (rdE u.us x)]) ∧ Below w.heap.size w w' := by
  obtain ⟨D, F, es, x', y, h1, h2, h3, h4, h5, h6, h7⟩ := h
  refine (pRead h2.d x hx).mono ?_
  rintro e w' ⟨ao, cap, rfl, _, hb⟩
  exact ⟨ao, cap, rfl, hb⟩
end Go.Proofs.YtnkjhooeklodcaaGreatDoor
end

section
/-
  What a log that was opened tells.
-/
namespace Go.Proofs.YtnkjhooeklodcaaGreatDoor
open Go.RowKit Go.Maps Go.Sort

variable {w w' : World} {B N pb sb wb lb xb : Nat} {u : Ud} {ps : List (List Int)} {las : Nat} {ss : List Nat} {sz k : Nat}
/-- A log that has these entries and segments. -/
def Lo (w : World) (lb : Nat) (ps : List (List Int)) (ss : List Nat) : Prop := ∃ F sb ev nv es las sz, Lg w F lb sb [97] ev nv es las (namesN [97] ss) sz false ∧ es.map (·.2) = ps
theorem Lo.below (h : Lo w lb ps ss) (hb : Below w.heap.size w w') : Lo w' lb ps ss := by
  obtain ⟨F, sb, ev, nv, es, las, sz, h1, h2⟩ := h
  exact ⟨F, sb, ev, nv, es, las, sz, h1.below hb, h2⟩
theorem crash_names (us : Us) (keep : Nat) (t : Int) (x : Nm) : (lkU (us.map (crA keep t)) x).isSome = (lkU us x).isSome := by
  rw [lkU_crashed]
  cases lkU us x <;> rfl
theorem LoNext (h : Lo w lb ps ss) : Calls Tryz.prog 24 #[.pointer (some ⟨lb, 0, none⟩)] w fun e w' => ∃ m : Int, e = .returned (.tuple #[.int .i64 ((ps.length : Int) + 1), .int .i64 m]) ∧ Below w.heap.size w w' := by
  obtain ⟨F, sb, ev, nv, es, las, sz, h1, h2⟩ := h
  have hel : es.length = ps.length := by rw [← h2]; simp
  refine (LNext_any w h1).mono ?_
  rintro e w' ⟨rfl, hs⟩
  exact ⟨_, by rw [hel], hs.below _⟩
theorem LoEntry (h : Lo w lb ps ss) {i : Nat} {p : List Int} (hp : ps[i]? = some p) : Calls Tryz.prog 25 #[.pointer (some ⟨lb, 0, none⟩), .int .i64 ((i : Int) + 1)] w fun e w' => ∃ ao cap, e = .returned (.tuple #[.slice ao p.length cap, .int .i64 0]) ∧ Ow w' w.heap.size (.slice ao p.length cap) p ∧ Below w.heap.size w w' := by
  obtain ⟨F, sb, ev, nv, es, las, sz, h1, h2⟩ := h
  rw [← h2, List.getElem?_map] at hp
  cases he : es[i]? with
  | none => rw [he] at hp; cases hp
  | some r =>
    rw [he] at hp
    have e : r.2 = p := Option.some.inj hp
    subst e
    exact LEntry_any i r w h1 he
theorem LoNames (h : Lo w lb ps ss) : Calls Tryz.prog 33 #[.pointer (some ⟨lb, 0, none⟩)] w fun e w' => ∃ v', e = .returned v' ∧ Ot w' w.heap.size v' (namesN [97] ss) ∧ Below w.heap.size w w' := by
  obtain ⟨F, sb, ev, nv, es, las, sz, h1, h2⟩ := h
  exact LNames_any w h1
end Go.Proofs.YtnkjhooeklodcaaGreatDoor
end

section
/-
  Sync, a crash and an opening leave a block (g) that is none of the disk's or the log's as it was.
-/
namespace Go.Proofs.YtnkjhooeklodcaaGreatDoor
open Go.RowKit Go.Maps Go.Sort

variable {w w' : World} {B N pb sb wb lb xb g : Nat} {u : Ud} {ps : List (List Int)} {las : Nat} {ss : List Nat} {sz k : Nat}
theorem Ho.wide {w : World} {B N pb sb lb : Nat} {u : Ud} {ps : List (List Int)} {las : Nat} {ss : List Nat} {sz k : Nat} (h : Ho w B N pb sb lb u ps las ss sz k) : Ho w B w.heap.size pb sb lb u ps las ss sz k := by
  obtain ⟨D, F, es, x, y, h1, h2, h3, h4, h5, h6, h7⟩ := h
  exact ⟨D, F, es, x, y, h1, h2, h3, h4, fun j hj => ⟨(h5 j hj).1, hj.elim (h2.dl j) (h2.fl j), (h5 j hj).2.2⟩, h6, h1.lt⟩
def Hg (w : World) (B pb sb lb g : Nat) (u : Ud) (ps : List (List Int)) (las : Nat) (ss : List Nat) (sz k : Nat) : Prop :=
  ∃ D F es x y, Cw w pb [.pointer (some ⟨sb, 0, none⟩), x, .pointer (some ⟨lb, 0, none⟩), y] 37 ∧ Ld w D F lb sb u [97] es las (namesN [97] ss) sz false ∧ es.map (·.2) = ps ∧ Sl [97] u ps las ss sz k ∧ (∀ j, D j ∨ F j → B ≤ j ∧ j ≠ g ∧ j ≠ pb) ∧ g < w.heap.size
theorem Ho.hg (h : Ho w B N pb sb lb u ps las ss sz k) (hg : N ≤ g) (hg2 : g < w.heap.size) : Hg w B pb sb lb g u ps las ss sz k := by
  obtain ⟨D, F, es, x, y, h1, h2, h3, h4, h5, h6, h7⟩ := h
  exact ⟨D, F, es, x, y, h1, h2, h3, h4, fun j hj => ⟨(h5 j hj).1, by have := (h5 j hj).2.1; omega, (h5 j hj).2.2⟩, hg2⟩
theorem Hg.pair (h : Hg w B pb sb lb g u ps las ss sz k) : w.cell? ⟨pb, 0, none⟩ = some (.pointer (some ⟨sb, 0, none⟩)) ∧ w.cell? ⟨pb, 2, none⟩ = some (.pointer (some ⟨lb, 0, none⟩)) := by
  obtain ⟨D, F, es, x, y, h1, _⟩ := h
  exact ⟨h1.cell 0, h1.cell 2⟩
theorem Hg.sl (h : Hg w B pb sb lb g u ps las ss sz k) : Sl [97] u ps las ss sz k := by
  obtain ⟨D, F, es, x, y, h1, h2, h3, h4, _⟩ := h
  exact h4
theorem HgSync {E : Nat} {cs : List (List (List Int))} (h : Hg w B pb sb lb g u ps las ss sz k) (hm : My E u ps las ss sz cs) (hk : k ≤ 1000) (hc : Cx w B) (hn : 1 ≤ ps.length) (hn2 : ps.length ≤ 300) :
    Calls Tryz.prog 18 #[.pointer (some ⟨lb, 0, none⟩)] w fun e w' => e = .returned (.int .i64 0) ∧ Below B w w' ∧ w'.heap[g]? = w.heap[g]? ∧ ∃ u' las', Hg w' B pb sb lb g u' ps las' ss sz (k + 1) ∧ Wh [97] u' ps ss cs ∧ (∀ m ∈ strt 0 cs, Lasts u'.us (nameN [97] m)) := by
  obtain ⟨D, F, es, x, y, h1, h2, h3, h4, h5, h6⟩ := h
  have hel : es.length = ps.length := by rw [← h3]; simp
  have hcs : cs ≠ [] := fun e => by have := hm.wh.pe; rw [e] at this; rw [this] at hn; simp at hn
  obtain ⟨ds, c, hdc⟩ : ∃ ds c, cs = ds ++ [c] := by
    rcases List.eq_nil_or_concat cs with e | ⟨ds, c, e⟩
    · exact absurd e hcs
    · exact ⟨ds, c, by rw [e]; simp⟩
  have hss : ss ≠ [] := by rw [hm.wh.se, hdc, strt_append]; simp [strt]
  have hxl : (lastN (namesN [97] ss)).length ≤ maxLen := by
    rw [lastN_names hss]
    exact names_le (by rw [nameN_len [97] _ (h4.last_lt hk hss)]; simp)
  have hlas : las ≠ ps.length := fun e => by rw [hm.lb e] at hn; simp at hn
  have hw := hm.wh
  rw [hdc] at hw
  obtain ⟨u1, s1, s2, s3, s4, s5, s6, s7⟩ := hw.sync (by omega) (by decide)
  have C := LSync_any w h2 hxl
  have hsl := h4.sync (nameN [97] (lastS ss)) false
  have hsy : syL u ps.length las (nameN [97] (lastS ss)) false = (0, u1, ps.length, false) := by
    unfold syL
    rw [if_neg (by decide), if_neg hlas, s1]
    simp
  rw [hel, lastN_names hss, hsy] at C
  rw [hsy] at hsl
  refine C.mono ?_
  rintro e w' ⟨rfl, D', F', a1, a2, a3, a4⟩
  have hbw := hc.bw
  have hpl := h1.lt
  have hno : ∀ j, j < w.heap.size → ¬ (D j ∨ F j) → w'.heap[j]? = w.heap[j]? := fun j hj hn => a4.block j hj hn
  refine ⟨rfl, ⟨a4.os, a4.tape, a4.output, a4.size, fun j hj => hno j (by omega) fun e => by have := (h5 j e).1; omega⟩, hno g h6 fun e => (h5 g e).2.1 rfl, u1, ps.length, ⟨D', F', es, x, y, h1.keep (hno pb hpl fun e => (h5 pb e).2.2 rfl), a1, h3, hsl, fun j hj => ?_, Nat.lt_of_lt_of_le h6 a4.size⟩, by rw [hdc]; exact s2, by rw [hdc]; exact s3⟩
  have hnew : (D j ∨ F j) ∨ w.heap.size ≤ j := by
    rcases hj with e | e
    · exact (a2 j e).imp Or.inl id
    · exact (a3 j e).imp Or.inr id
  rcases hnew with e | e
  · exact h5 j e
  · exact ⟨by omega, by omega, by omega⟩
def Eg (w : World) (B sb g : Nat) (u : Ud) : Prop := ∃ D, Pd w D sb u ∧ (∀ j, D j → j < w.heap.size) ∧ (∀ j, D j → B ≤ j ∧ j ≠ g) ∧ g < w.heap.size
theorem HgCrash (h : Hg w B pb sb lb g u ps las ss sz k) (hBw : B ≤ w.heap.size) :
    Calls Tryz.prog 20 #[.pointer (some ⟨sb, 0, none⟩), .int .i64 0, .int .u8 1] w fun e w' => e = .returned (.tuple #[]) ∧ Below B w w' ∧ w'.heap[g]? = w.heap[g]? ∧ Eg w' B sb g (u.crash 0 1) ∧ w'.cell? ⟨pb, 0, none⟩ = some (.pointer (some ⟨sb, 0, none⟩)) := by
  obtain ⟨D, F, es, x, y, h1, h2, h3, h4, h5, h6⟩ := h
  refine (pCrash h2.d 0 1 (by decide) (by decide)).mono ?_
  rintro e w' ⟨rfl, hp, hg⟩
  refine ⟨rfl, ⟨hg.os, hg.tape, hg.output, hg.size, fun j hj => hg.block j (by omega) fun e => by have := (h5 j (Or.inl e)).1; omega⟩, hg.block g h6 fun e => (h5 g (Or.inl e)).2.1 rfl, ⟨fun j => Pl D w.heap.size j ∧ j < w'.heap.size, ?_, fun j hj => hj.2, fun j hj => ?_, Nat.lt_of_lt_of_le h6 hg.size⟩, (h1.keep (hg.block pb h1.lt fun e => (h5 pb (Or.inl e)).2.2 rfl)).cell 0⟩
  · exact Pd.more hp fun j hj hlt => ⟨hj, hlt⟩
  · rcases hj.1 with e | e
    · exact ⟨(h5 j (Or.inl e)).1, (h5 j (Or.inl e)).2.1⟩
    · exact ⟨by omega, by omega⟩
theorem EgOpen {cs : List (List (List Int))} (h : Eg w B sb g (u.crash 0 1)) (hw : Wh [97] u ps ss cs) (hl : ∀ m ∈ strt 0 cs, Lasts u.us (nameN [97] m)) (hsl : Sl [97] u ps las ss sz k) (hn : ps.length ≤ 300) (hc : Cx w B) :
    Calls Tryz.prog 22 #[.pointer (some ⟨sb, 0, none⟩), encStr [97]] w fun e w' => ∃ lb, e = .returned (.tuple #[.pointer (some ⟨lb, 0, none⟩), .int .i64 0]) ∧ Below B w w' ∧ w'.heap[g]? = w.heap[g]? ∧ Lo w' lb ps ss := by
  obtain ⟨D, h1, h2, h3, h4⟩ := h
  have hg : Gd (u.crash 0 1) := h1.good
  have hsome : ∀ x, (lkU (u.crash 0 1).us x).isSome = (lkU u.us x).isSome := fun x => crash_names u.us _ _ x
  have hdu : Du (u.crash 0 1) := ⟨hg, fun x hx => hsl.nl x (by rw [← hsome]; exact hx), hsl.rm⟩
  have hfree := openF_free (pre := [97]) hdu rfl
  have hseg : Seg [97] (u.crash 0 1).us 0 cs := hw.seg.crash hl _ _
  have hwhole := openF_whole hg hseg hw.epl (by rw [← hw.pe]; omega) fun x hx hs => by
    rw [← hw.se]
    exact hsl.seg x hx (by rw [← hsome]; exact hs)
  rw [← hw.pe, ← hw.se] at hwhole
  have hb8 := hc.b8
  refine (LOpen_any (pre := [97]) w h1 h2 (by decide) (by decide) hdu.names hdu.tot hc.tab hc.pw (Nat.le_trans hc.b8 hc.bw) fun j hj e => by have := (h3 j e).1; omega).mono ?_
  intro e w' hL
  obtain ⟨lb, es, D', F', he, hm, a1, a2, a3, a4⟩ := hL.ok hfree.1
  obtain ⟨ev, nv, hlg⟩ := a1.l
  rw [hwhole] at hlg hm
  exact ⟨lb, he, ⟨a4.os, a4.tape, a4.output, a4.size, fun j hj => a4.block j (by have := hc.bw; omega) fun e => by have := (h3 j e).1; omega⟩, a4.block g h4 fun e => (h3 g e).2 rfl, F', sb, ev, nv, es, es.length, _, hlg, hm⟩
end Go.Proofs.YtnkjhooeklodcaaGreatDoor
end
