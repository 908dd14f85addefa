/-
  Joined from: SegTv, SegTwice.
-/
import Derived.Test.YtnkjhooeklodcaaGreatDoorM50
import Derived.Test.YtnkjhooeklodcaaGreatDoorM48
section
/-
  SeglogTwice's states: while it lays (Kt), the disk alone (Kd); what each call makes of them.
-/
namespace Go.Proofs.YtnkjhooeklodcaaGreatDoor
open Go.RowKit Go.Maps Go.Sort

variable {W w w' w1 w2 : World} {B N pb sb lb i k : Nat} {l0 x0 y0 : Value} {rs : List Rw} {q : List (List Int)} {u : Ud}
theorem five_room2 (u : Ud) (ns : List (List UInt8)) (f : Us → Int × Us) : (u.five ns f).2.room = u.room := by
  unfold Ud.five
  split <;> rfl
theorem allU_room (f : Nm → Us → Int × Us) : ∀ (xs : List Nm) (u : Ud), (allU f u xs).2.room = u.room
  | [], _ => rfl
  | x :: xs, u => by
    by_cases h0 : (u.five [x] (f x)).1 = 0
    · rw [allU_ok h0, allU_room f xs, five_room2]
    · rw [allU_err h0, five_room2]
theorem opF_room (pre : List UInt8) (u : Ud) : ∀ (xs : List Nm) (n : Nat), (opF pre u xs n).1.2.room = u.room
  | [], _ => rfl
  | x :: xs, n => by
    rw [opF]
    split
    · exact opF_room pre u xs _
    · split
      · exact allU_room _ _ _
      · split
        · show ((allU rmU u xs.reverse).2.five [x] (rmU x)).2.room = _
          rw [five_room2, allU_room]
        · show ((allU rmU u xs.reverse).2.five [x] _).2.room = _
          rw [five_room2, allU_room]
theorem openF_room (pre : List UInt8) (u : Ud) : (openF pre u).1.2.room = u.room := by
  unfold openF
  split
  · exact opF_room _ _ _ _
  · show (allU syU _ _).2.room = _
    rw [allU_room, opF_room]
def Kt (W w : World) (pb sb lb i k : Nat) : Prop :=
  Below W.heap.size W w ∧ Cx W W.heap.size ∧ W.heap.size ≤ pb ∧ ∃ D F u es ps las ss sz dead kk cs wv xv, Cw w pb [.pointer (some ⟨sb, 0, none⟩), wv, .pointer (some ⟨lb, 0, none⟩), xv] 37 ∧ Ld w D F lb sb u [97] es las (namesN [97] ss) sz dead ∧ es.map (·.2) = ps ∧ Sl [97] u ps las ss sz kk ∧ kk ≤ k ∧ Kq [97] u.us ps las ss cs ∧ ps.length ≤ i ∧ ∀ j, D j ∨ F j → W.heap.size ≤ j ∧ j ≠ pb
theorem Kt.below (h : Kt W w pb sb lb i k) (hb : Below w.heap.size w w') : Kt W w' pb sb lb i k := by
  obtain ⟨h1, hc, h0, D, F, u, es, ps, las, ss, sz, dead, kk, cs, wv, xv, h2, h3, h4⟩ := h
  exact ⟨h1.trans (hb.mono h1.size), hc, h0, D, F, u, es, ps, las, ss, sz, dead, kk, cs, wv, xv, h2.below hb h2.lt, h3.below hb, h4⟩
theorem Kt.pair (h : Kt W w pb sb lb i k) : w.cell? ⟨pb, 0, none⟩ = some (.pointer (some ⟨sb, 0, none⟩)) ∧ w.cell? ⟨pb, 2, none⟩ = some (.pointer (some ⟨lb, 0, none⟩)) := by
  obtain ⟨h1, hc, h0, D, F, u, es, ps, las, ss, sz, dead, kk, cs, wv, xv, h2, _⟩ := h
  exact ⟨h2.cell 0, h2.cell 2⟩
theorem Kt.call {D F : Nat → Prop} {u' : Ud} {es' : List En} {ps' : List (List Int)} {las' sz' k' : Nat} {ss' : List Nat} {dead' : Bool} {cs' : List (List (List Int))} {wv xv : Value} {i' : Nat} (h1 : Below W.heap.size W w) (hc : Cx W W.heap.size) (h0 : W.heap.size ≤ pb) (h2 : Cw w pb [.pointer (some ⟨sb, 0, none⟩), wv, .pointer (some ⟨lb, 0, none⟩), xv] 37) (h10 : ∀ j, D j ∨ F j → W.heap.size ≤ j ∧ j ≠ pb)
    (hr : LRes w D F lb sb [97] u' es' las' (namesN [97] ss') sz' dead' w') (h4 : es'.map (·.2) = ps') (h5 : Sl [97] u' ps' las' ss' sz' k') (h6 : Kq [97] u'.us ps' las' ss' cs') (h7 : ps'.length ≤ i') : Kt W w' pb sb lb i' k' := by
  obtain ⟨D', F', a1, a2, a3, a4⟩ := hr
  have hlt := h2.lt
  have hw := h1.size
  refine ⟨h1.trans (a4.under (fun j hj => (h10 j hj).1) hw), hc, h0, D', F', u', es', ps', las', ss', sz', dead', k', cs', wv, xv, h2.keep (a4.block pb hlt fun e => (h10 pb e).2 rfl), a1, h4, h5, Nat.le_refl _, h6, h7, fun j hj => ?_⟩
  rcases hj with e | e
  · rcases a2 j e with e | e
    · exact h10 j (Or.inl e)
    · exact ⟨by omega, by omega⟩
  · rcases a3 j e with e | e
    · exact h10 j (Or.inr e)
    · exact ⟨by omega, by omega⟩
theorem Kt.more {k' : Nat} (h : Kt W w pb sb lb i k) (hk : k ≤ k') : Kt W w pb sb lb i k' := by
  obtain ⟨h1, hc, h0, D, F, u, es, ps, las, ss, sz, dead, kk, cs, wv, xv, h2, h3, h4, h5, h6, h7⟩ := h
  exact ⟨h1, hc, h0, D, F, u, es, ps, las, ss, sz, dead, kk, cs, wv, xv, h2, h3, h4, h5, Nat.le_trans h6 hk, h7⟩
theorem Kt.append {ap : Option Addr} {cp : Nat} {zs : List Int} (h : Kt W w pb sb lb i k) (hi : i ≤ 1000) (hk : k ≤ 990) (hb : Bs W (.slice ap zs.length cp) zs) (hy : Byt zs) :
    Calls Tryz.prog 16 #[.pointer (some ⟨lb, 0, none⟩), .slice ap zs.length cp] w fun e w1 => ∃ n er, e = .returned (.tuple #[.int .i64 n, .int .i64 er]) ∧ Kt W w1 pb sb lb (i + 1) (k + 1) := by
  obtain ⟨h1, hc, h0, D, F, u, es, ps, las, ss, sz, dead, kk, cs, wv, xv, h2, h3, h4, h5, h6, h7, h8, h10⟩ := h
  have hcx := hc.below h1
  obtain ⟨cs', a1, a2, a3⟩ := h7.append (p := zs) h5 (by omega) hy dead
  refine (LAp w h3 h4 h5 (by omega) (by decide) ap cp zs (hb.below h1 (Nat.le_refl _)) hy (fun hne j hj => ?_) hcx.tab hcx.pw (Nat.le_trans hcx.b8 hcx.bw)).mono ?_
  · have hlt : j < W.heap.size := by
      rcases hb with ⟨e, _⟩ | ⟨_, b, off, c, e, _, _, h3⟩
      · exact absurd e hne
      · rw [e] at hj
        have hkb : b = j := by simpa [Value.ownBlock] using hj
        rw [← hkb]
        exact World.block_lt_of_cell? W _ (h3 0 (List.length_pos_iff.2 hne))
    exact ⟨fun e => by have := (h10 j (Or.inl e)).1; omega, fun e => by have := (h10 j (Or.inr e)).1; omega⟩
  rintro e w1 ⟨rfl, es', he, hr⟩
  refine ⟨_, _, rfl, (Kt.call h1 hc h0 h2 h10 hr he (h5.append (by omega) dead zs) a1 ?_).more (by omega)⟩
  rw [a2]
  split
  · rw [List.length_append]; simp; omega
  · omega
theorem Kt.sync (h : Kt W w pb sb lb i k) (hk : k ≤ 990) :
    Calls Tryz.prog 18 #[.pointer (some ⟨lb, 0, none⟩)] w fun e w1 => ∃ er, e = .returned (.int .i64 er) ∧ Kt W w1 pb sb lb i (k + 1) := by
  obtain ⟨h1, hc, h0, D, F, u, es, ps, las, ss, sz, dead, kk, cs, wv, xv, h2, h3, h4, h5, h6, h7, h8, h10⟩ := h
  have hel : es.length = ps.length := by rw [← h4]; simp
  have hxl : (lastN (namesN [97] ss)).length ≤ maxLen := by
    by_cases hs : ss = []
    · subst hs; exact Nat.zero_le _
    · rw [lastN_names hs]
      exact names_le (by rw [nameN_len [97] _ (h5.last_lt (by omega) hs)]; simp)
  have C := LSync_any w h3 hxl
  rw [hel, syL_nm h5] at C
  refine C.mono ?_
  rintro e w1 ⟨rfl, hr⟩
  have hq : Kq [97] (syL u ps.length las (nameN [97] (lastS ss)) dead).2.1.us ps (syL u ps.length las (nameN [97] (lastS ss)) dead).2.2.1 ss cs := by
    by_cases hs : ss = []
    · obtain ⟨e1, e2⟩ := h5.nil hs
      unfold syL
      split
      · exact h7
      · rw [if_pos (by rw [e1, e2]; rfl)]
        exact h7
    · exact (h7.syL hs dead).1
  exact ⟨_, rfl, (Kt.call h1 hc h0 h2 h10 hr h4 (h5.sync _ dead) hq h8).more (by omega)⟩
def Kd (W w : World) (S : Nat → Prop) (pb sb : Nat) (u : Ud) : Prop :=
  Below W.heap.size W w ∧ Cx W W.heap.size ∧ W.heap.size ≤ pb ∧ w.cell? ⟨pb, 0, none⟩ = some (.pointer (some ⟨sb, 0, none⟩)) ∧ ∃ D, Pd w D sb u ∧ ∀ j, D j → W.heap.size ≤ j ∧ j ≠ pb ∧ ¬ S j ∧ j < w.heap.size
theorem Kd.below {S : Nat → Prop} (h : Kd W w S pb sb u) (hb : Below w.heap.size w w') : Kd W w' S pb sb u := by
  obtain ⟨h1, hc, h0, h2, D, h3, h4⟩ := h
  exact ⟨h1.trans (hb.mono h1.size), hc, h0, cell_below hb h2 (World.block_lt_of_cell? w _ h2), D, h3.to hb, fun j hj => ⟨(h4 j hj).1, (h4 j hj).2.1, (h4 j hj).2.2.1, Nat.lt_of_lt_of_le (h4 j hj).2.2.2 hb.size⟩⟩
def Ks (S : Nat → Prop) (w w' : World) : Prop := w.heap.size ≤ w'.heap.size ∧ ∀ j, S j → w'.heap[j]? = w.heap[j]?
theorem Kd.step {S D : Nat → Prop} {u' : Ud} (h1 : Below W.heap.size W w) (hc : Cx W W.heap.size) (h0 : W.heap.size ≤ pb) (h2 : w.cell? ⟨pb, 0, none⟩ = some (.pointer (some ⟨sb, 0, none⟩))) (h4 : ∀ j, D j → W.heap.size ≤ j ∧ j ≠ pb ∧ ¬ S j ∧ j < w.heap.size) (hS : ∀ j, S j → j < w.heap.size) {D' : Nat → Prop} (hp : Pd w' D' sb u') (hd : ∀ j, D' j → (D j ∨ w.heap.size ≤ j) ∧ j < w'.heap.size) (hg : Grows D w w') : Kd W w' S pb sb u' ∧ Ks S w w' := by
  have hw := h1.size
  have hpl : pb < w.heap.size := World.block_lt_of_cell? w _ h2
  refine ⟨⟨h1.trans (hg.under (fun j hj => (h4 j hj).1) hw), hc, h0, ?_, D', hp, fun j hj => ?_⟩, hg.size, fun j hj => hg.block j (hS j hj) fun e => (h4 j e).2.2.1 hj⟩
  · rw [World.cell?_of_block (w := w) (hg.block pb hpl fun e => (h4 pb e).2.1 rfl)]
    exact h2
  · obtain ⟨e, hlt⟩ := hd j hj
    rcases e with e | e
    · exact ⟨(h4 j e).1, (h4 j e).2.1, (h4 j e).2.2.1, hlt⟩
    · exact ⟨by omega, fun e2 => by subst e2; omega, fun e2 => by have := hS j e2; omega, hlt⟩
theorem Kd.crash {S : Nat → Prop} (h : Kd W w S pb sb u) (hS : ∀ j, S j → j < w.heap.size) (n t : Int) (hn : (Lit.int .i64 n).wf = true) (ht : 0 ≤ t ∧ t < 256) : Calls Tryz.prog 20 #[.pointer (some ⟨sb, 0, none⟩), .int .i64 n, .int .u8 t] w fun e w' => e = .returned (.tuple #[]) ∧ Kd W w' S pb sb (u.crash n t) ∧ Ks S w w' := by
  obtain ⟨h1, hc, h0, h2, D, h3, h4⟩ := h
  have hn2 := (bounds_i64 hn).2
  refine (pCrash h3 n t (by omega) ht).mono ?_
  rintro e w' ⟨rfl, hp, hg⟩
  exact ⟨rfl, Kd.step h1 hc h0 h2 h4 hS (hp.more (G := fun j => (D j ∨ w.heap.size ≤ j) ∧ j < w'.heap.size) fun k hk hlt => ⟨hk, hlt⟩) (fun j hj => hj) hg⟩
theorem Kd.fuse {S : Nat → Prop} (h : Kd W w S pb sb u) (hS : ∀ j, S j → j < w.heap.size) (n : Int) (hn : (Lit.int .i64 n).wf = true) : Calls Tryz.prog 14 #[.pointer (some ⟨sb, 0, none⟩), .int .i64 n] w fun e w' => e = .returned (.tuple #[]) ∧ Kd W w' S pb sb (u.fuse n) ∧ Ks S w w' := by
  obtain ⟨h1, hc, h0, h2, D, h3, h4⟩ := h
  refine (pFuse h3 n hn).mono ?_
  rintro e w' ⟨rfl, hp, hg⟩
  exact ⟨rfl, Kd.step h1 hc h0 h2 h4 hS (D' := D) hp (fun j hj => ⟨Or.inl hj, Nat.lt_of_lt_of_le (h4 j hj).2.2.2 hg.size⟩) hg⟩
def Lo4 (w : World) (lb : Nat) (q : List (List Int)) (T : Nat → Prop) : Prop := ∃ F sb ev nv es ns sz dead, es.map (·.2) = q ∧ Lg w F lb sb [97] ev nv es es.length ns sz dead ∧ (∀ j, F j → T j)
theorem Lo4.lo3 {T : Nat → Prop} (h : Lo4 w lb q T) : Lo3 w lb q := by
  obtain ⟨F, sb, ev, nv, es, ns, sz, dead, h1, h2, _⟩ := h
  exact ⟨F, sb, ev, nv, es, ns, sz, dead, h1, h2⟩
theorem Lo4.keep {T : Nat → Prop} (h : Lo4 w lb q T) (hs : w.heap.size ≤ w'.heap.size) (hk : ∀ j, T j → w'.heap[j]? = w.heap[j]?) : Lo4 w' lb q T := by
  obtain ⟨F, sb, ev, nv, es, ns, sz, dead, h1, h2, h3⟩ := h
  exact ⟨F, sb, ev, nv, es, ns, sz, dead, h1, h2.keep hs fun k hf _ => hk k (h3 k hf), h3⟩
theorem Kd.open {S : Nat → Prop} (h : Kd W w S pb sb u) (hS : ∀ j, S j → j < w.heap.size) (hu : Du u) : Calls Tryz.prog 22 #[.pointer (some ⟨sb, 0, none⟩), encStr [97]] w fun e w' => (∃ p er, e = .returned (.tuple #[.pointer p, .int .i64 er]) ∧ ((openF [97] u).1.1 = 0 → ∃ lb2, p = some ⟨lb2, 0, none⟩ ∧ er = 0 ∧ Lo3 w' lb2 (openF [97] u).2.1)) ∧ Kd W w' S pb sb (openF [97] u).1.2 ∧ Ks S w w' := by
  obtain ⟨h1, hc, h0, h2, D, h3, h4⟩ := h
  have hcx := hc.below h1
  have hB8 := hc.b8
  have hbw := hcx.bw
  refine (LOpen_any (pre := [97]) w h3 (fun j hj => (h4 j hj).2.2.2) (by decide) (by decide) hu.names hu.tot hcx.tab hcx.pw (by omega) fun k hk e => by have := (h4 k e).1; omega).mono ?_
  intro e w' hL
  have hOk := hL.ok
  obtain ⟨w2, lb, es, hb, hlb1, hlb2, hL⟩ := hL
  have hs2 := hb.size
  have key : ∀ {es' : List En} {las' sz' : Nat} {ns' : List Nm} {dd : Bool}, LRes w2 D (fun k => k = lb) lb sb [97] (openF [97] u).1.2 es' las' ns' sz' dd w' → Kd W w' S pb sb (openF [97] u).1.2 ∧ Ks S w w' := fun hr => by
    obtain ⟨D', F', a1, a2, a3, a4⟩ := hr
    have hs3 := a4.size
    refine Kd.step h1 hc h0 h2 h4 hS a1.d (fun j hj => ⟨(a2 j hj).imp id fun e => by omega, a1.dl j hj⟩) ⟨a4.os.trans hb.os, a4.tape.trans hb.tape, a4.output.trans hb.output, by omega, fun j hj hn => ?_⟩
    rw [a4.block j (by omega) fun e => by
      rcases e with e | e
      · exact hn e
      · omega]
    exact hb.block j hj
  rcases hL with ⟨he, rfl, ns, sz, dd, hr⟩ | ⟨he, rfl, hm, hr⟩
  · exact ⟨⟨_, _, rfl, fun e => absurd e he⟩, key hr⟩
  · refine ⟨⟨_, _, rfl, fun _ => ⟨lb, rfl, rfl, ?_⟩⟩, key hr⟩
    obtain ⟨D', F', a1, _⟩ := hr
    obtain ⟨ev, nv, hl⟩ := a1.l
    exact ⟨_, _, _, _, es, _, _, _, hm, hl⟩
theorem Kd.twin (h : Kd W w (fun _ => False) pb sb u) (hu : Du u) (h00 : (openF [97] u).1.1 = 0) (hl : u.left = -1) :
    Calls Tryz.prog 27 #[.pointer (some ⟨sb, 0, none⟩)] w fun e w1 => ∃ db, e = .returned (.pointer (some ⟨db, 0, none⟩)) ∧ Kd W w1 (fun _ => False) pb sb u ∧
      ∀ W1, Below w1.heap.size w1 W1 → Calls Tryz.prog 22 #[.pointer (some ⟨db, 0, none⟩), encStr [97]] W1 fun e w2 => ∃ lb2, e = .returned (.tuple #[.pointer (some ⟨lb2, 0, none⟩), .int .i64 0]) ∧ ∃ T, (∀ j, T j → j < w2.heap.size) ∧ Lo4 w2 lb2 (openF [97] u).2.1 T ∧ Kd W w2 T pb sb u := by
  have hK := h
  obtain ⟨h1, hc, h0, h2, D, h3, h4⟩ := h
  have hcp : u.copy = u := by
    unfold Ud.copy
    rw [← hl]
  refine (pCopy h3).mono ?_
  rintro e w1 ⟨rfl, hp, hb⟩
  rw [hcp] at hp
  refine ⟨_, rfl, hK.below hb, fun W1 hW1 => ?_⟩
  have hbW : Below w.heap.size w W1 := hb.trans (hW1.mono hb.size)
  have hsW := hbW.size
  have hKW := hK.below hbW
  have hcx := hc.below hKW.1
  have hw := h1.size
  have hB8 := hc.b8
  have hp1 : Pd W1 (fun k => w.heap.size ≤ k ∧ k < W1.heap.size) w.heap.size u := (hp.to hW1).more fun k hk hlt => ⟨hk, hlt⟩
  refine (LOpen_any (pre := [97]) W1 hp1 (fun j hj => hj.2) (by decide) (by decide) hu.names hu.tot hcx.tab hcx.pw (by omega) fun k hk e => by have := e.1; omega).mono ?_
  intro e w2 hL
  obtain ⟨lb2, es, D1, F1, rfl, hes, hld, hd1, hf1, hg1⟩ := hL.ok h00
  have hs2 := hg1.size
  obtain ⟨ev, nv, hlg⟩ := hld.l
  refine ⟨lb2, rfl, fun j => w.heap.size ≤ j ∧ j < w2.heap.size, fun j hj => hj.2, ⟨F1, _, ev, nv, es, _, _, _, hes, hlg, fun j hj => ⟨?_, hld.fl j hj⟩⟩, ?_⟩
  · have := hf1 j hj
    omega
  · have hpl : pb < w.heap.size := World.block_lt_of_cell? w _ h2
    have hD : ∀ j, j < w.heap.size → w2.heap[j]? = W1.heap[j]? := fun j hj => hg1.block j (by omega) fun e => by have := e.1; omega
    refine ⟨hKW.1.trans (hg1.under (fun j hj => by have := hj.1; omega) (by omega)), hc, h0, ?_, D, (h3.to hbW).keep fun j hj _ => hD j (h4 j hj).2.2.2, fun j hj => ⟨(h4 j hj).1, (h4 j hj).2.1, fun e => ?_, ?_⟩⟩
    · rw [World.cell?_of_block (w := W1) (hD pb hpl)]
      exact hKW.2.2.2.1
    · have h5 := (h4 j hj).2.2.2
      have := e.1
      omega
    · have h5 := (h4 j hj).2.2.2
      omega
theorem Ks.lt {S : Nat → Prop} (h : Ks S w w') (hS : ∀ j, S j → j < w.heap.size) : ∀ j, S j → j < w'.heap.size := fun j hj => Nat.lt_of_lt_of_le (hS j hj) h.1
theorem Kd.good {S : Nat → Prop} (h : Kd W w S pb sb u) : Gd u := by
  obtain ⟨h1, hc, h0, h2, D, h3, h4⟩ := h
  exact h3.good
def Nsub (us2 us : Us) : Prop := ∀ x, (lkU us2 x).isSome = true → (lkU us x).isSome = true
theorem nsub_five {u : Ud} {ns : List (List UInt8)} {f : Us → Int × Us} (h : Nsub (f u.us).2 u.us) : Nsub (u.five ns f).2.us u.us := by
  rcases five_us2 u ns f with e | e
  · rw [e]; exact fun _ h => h
  · rw [e]; exact h
theorem nsub_rm (x : Nm) (us : Us) : Nsub (rmU x us).2 us := fun y hy => by
  unfold rmU at hy
  cases hl : lkU us x with
  | none => rw [hl] at hy; exact hy
  | some f =>
    rw [hl] at hy
    have hy2 : (lkU (dlU us x) y).isSome = true := hy
    rw [lkU_dl] at hy2
    by_cases e : y = x
    · rw [if_pos e] at hy2; cases hy2
    · rw [if_neg e] at hy2; exact hy2
theorem nsub_pt {x : Nm} {us : Us} (hl : (lkU us x).isSome = true) (g : List Int × Nat) : Nsub (ptU us x g) us := fun y hy => by
  rw [lkU_pt] at hy
  by_cases e : y = x
  · rw [e]; exact hl
  · rw [if_neg e] at hy; exact hy
theorem nsub_sy (x : Nm) (us : Us) : Nsub (syU x us).2 us := by
  unfold syU
  cases hl : lkU us x with
  | none => exact fun _ h => h
  | some f => exact nsub_pt (by rw [hl]; rfl) _
theorem nsub_cu (x : Nm) (n : Int) (us : Us) : Nsub (cuU x n us).2 us := by
  unfold cuU
  cases hl : lkU us x with
  | none => exact fun _ h => h
  | some f =>
    dsimp only
    split
    · exact fun _ h => h
    · exact nsub_pt (by rw [hl]; rfl) _
theorem nsub_all {f : Nm → Us → Int × Us} (hf : ∀ x us, Nsub (f x us).2 us) : ∀ (xs : List Nm) (u : Ud), Nsub (allU f u xs).2.us u.us
  | [], _ => fun _ h => h
  | x :: xs, u => by
    have h1 := nsub_five (u := u) (ns := [x]) (hf x u.us)
    by_cases h0 : (u.five [x] (f x)).1 = 0
    · rw [allU_ok h0]
      exact fun y hy => h1 y (nsub_all hf xs _ y hy)
    · rw [allU_err h0]
      exact h1
theorem nsub_op (pre : List UInt8) (u : Ud) : ∀ (xs : List Nm) (n : Nat), Nsub (opF pre u xs n).1.2.us u.us
  | [], _ => fun _ h => h
  | x :: xs, n => by
    have h1 := nsub_all nsub_rm xs.reverse u
    rw [opF]
    split
    · exact nsub_op pre u xs _
    · split
      · exact h1
      · split
        · exact fun y hy => h1 y (nsub_five (nsub_rm _ _) y hy)
        · exact fun y hy => h1 y (nsub_five (nsub_cu _ _ _) y hy)
theorem nsub_open (pre : List UInt8) (u : Ud) : Nsub (openF pre u).1.2.us u.us := by
  unfold openF
  split
  · exact nsub_op _ _ _ _
  · exact fun y hy => nsub_op _ _ _ _ y (nsub_all nsub_sy _ _ y hy)
theorem Kt.crash (h : Kt W w pb sb lb i k) (hi : i ≤ 1000) (keep t : Int) (hkw : (Lit.int .i64 keep).wf = true) (ht : 0 ≤ t ∧ t < 256) : ∃ u, u.left = -1 ∧ (∀ fuse again, (openF [97] ((openF [97] (u.fuse fuse)).1.2.crash again 0)).2.1 = (openF [97] u).2.1) ∧ u.room ≤ 4000000 ∧ (∀ x, (lkU u.us x).isSome = true → x.length ≤ 64) ∧
    Calls Tryz.prog 20 #[.pointer (some ⟨sb, 0, none⟩), .int .i64 keep, .int .u8 t] w fun e w1 => e = .returned (.tuple #[]) ∧ Kd W w1 (fun _ => False) pb sb u := by
  obtain ⟨h1, hc, h0, D, F, u, es, ps, las, ss, sz, dead, kk, cs, wv, xv, h2, h3, h4, h5, h6, h7, h8, h10⟩ := h
  refine ⟨u.crash keep t, rfl, fun fuse again => h7.twice (by omega) h5.seg (fun p hp => (h3.d.good.each p hp).1) keep t fuse again, h5.rm, fun x hx => h5.nl x (by rw [← lkU_crash keep.toNat t]; exact hx), ?_⟩
  have hn2 := (bounds_i64 hkw).2
  refine (pCrash h3.d keep t (by omega) ht).mono ?_
  rintro e w' ⟨rfl, hp, hg⟩
  exact ⟨rfl, (Kd.step (S := fun _ => False) h1 hc h0 (h2.cell 0) (fun j hj => ⟨(h10 j (Or.inl hj)).1, (h10 j (Or.inl hj)).2, fun e => e, h3.dl j hj⟩) (fun j hj => hj.elim) (hp.more (G := fun j => (D j ∨ w.heap.size ≤ j) ∧ j < w'.heap.size) fun k hk hlt => ⟨hk, hlt⟩) (fun j hj => hj) hg).1⟩
end Go.Proofs.YtnkjhooeklodcaaGreatDoor
end

section
/-
  SeglogTwice, walked.
-/
namespace Go.Proofs.YtnkjhooeklodcaaGreatDoor
open Go.RowKit Go.Maps Go.Sort

theorem Cx.to {B : Nat} {w w' : World} (h : Cx w B) (hb : Below B w w') : Cx w' w'.heap.size := by
  have h1 := h.below hb
  exact ⟨h1.tab, h1.pw, Nat.le_trans h1.b8 h1.bw, Nat.le_refl _⟩
set_option maxHeartbeats 8000000 in
set_option maxRecDepth 100000 in
theorem twice_walk (a : Option Addr) (n cap : Nat) (rs : List Rw) (synced keep tear fuse again : Int) (W : World) (hrs : Rs W (.slice a n cap) rs) (ht : 0 ≤ tear ∧ tear < 256) (hk : (Lit.int .i64 keep).wf = true) (hag : (Lit.int .i64 again).wf = true) (hcx : Cx W W.heap.size) :
    Calls Tryz.prog 5 #[.slice a n cap, .int .i64 synced, .int .i64 keep, .int .u8 tear, .int .i64 fuse, .int .i64 again] W fun e w' => e = .returned (.bool true) ∧ Below W.heap.size W w' := by
  obtain ⟨a', cap', hv, hl, _⟩ := hrs.form
  injection hv with e1 e2 e3
  subst e1 e3
  rw [e2] at hrs ⊢
  clear e2
  have HRS := hid_into hrs
  have HCX := hid_into hcx
  have HKW := hid_into hk
  have HAW := hid_into hag
  clear hrs hcx hk hag
  go_enter Tryz.func5, Tryz.ntmps5
  go_wp2_with fail
  go_loopw [13, 14] (fun nv iv wr => ∃ k m : Nat, k ≤ rs.length ∧ iv = .int .i64 (k : Int) ∧ nv = .int .i64 (m : Int) ∧ m ≤ 140737488367338 ∧ Hid (m ≤ 12000 → ∀ (i : Nat) (s : Rw), i < k → rs[i]? = some s → s.2.length ≤ 12000) ∧ Sm W wr) (fun _ iv _ => rs.length - (intOf iv).toNat)
  case atStart => exact ⟨0, 0, Nat.zero_le _, rfl, rfl, by omega, hid_into fun _ i s hi => by omega, Sm.refl _⟩
  case round =>
    obtain ⟨k, m, hk, rfl, rfl, hm, HT, hs⟩ := hrel
    by_cases hlt : k < rs.length ∧ m ≤ 12000
    · obtain ⟨b, off, ap, cp, zs, rfl, hgk, hcell, hbz, hyz, hzl⟩ := HRS.out.get hlt.1
      have e0 := hs.cellH hcell
      have f1 : (0 : Int) ≤ (k : Int) := by omega
      have f2 : (k : Int) < (rs.length : Int) := by omega
      have f3 : (m : Int) ≤ 12000 := by omega
      have q2 : IntKind.i64.wrap ((m : Int) + 5) = ((m + 5 : Nat) : Int) := by rw [IntKind.wrap_i64]; omega
      have q3 : IntKind.i64.wrap (((m + 5 : Nat) : Int) + (zs.length : Int)) = ((m + 5 + zs.length : Nat) : Int) := by rw [IntKind.wrap_i64]; omega
      have HN : Hid (m + 5 + zs.length ≤ 12000 → ∀ (i : Nat) (s' : Rw), i < k + 1 → rs[i]? = some s' → s'.2.length ≤ 12000) := fun hle i s' hi hs' => by
        by_cases e : i = k
        · rw [e, hgk] at hs'
          cases hs'
          show zs.length ≤ _
          omega
        · exact HT.out (by omega) i s' (by omega) hs'
      clear hcell hgk HT hbz hyz
      go_wp2_with fail
      go_roundw
      case rel => exact ⟨k + 1, m + 5 + zs.length, by omega, by go_num, by go_num, by omega, HN, hs⟩
      case measure => simp [intOf]; omega
    · have CK := known_any wr (HCX.out.to (hs.below _))
      have HKN : Hid (∀ w2, Below wr.heap.size wr w2 → Below W.heap.size W w2) := fun w2 hb => (hs.below _).trans (hb.mono (Nat.le_of_eq hs.size.symm))
      by_cases hm2 : 12000 < m
      · by_cases h1 : k < rs.length
        · have f2 : (k : Int) < (rs.length : Int) := by omega
          have f3 : ¬ (m : Int) ≤ 12000 := by omega
          have f4 : (12000 : Int) < (m : Int) := by omega
          clear hlt HT hm2 h1
          go_wp2_with fail
          refine CK.mono ?_
          rintro e w2 ⟨rfl, hb2⟩
          have hB2 := HKN.out w2 hb2
          go_wp2_with fail
          go_ret
          exact ⟨rfl, hB2⟩
        · have f2 : ¬ (k : Int) < (rs.length : Int) := by omega
          have f4 : (12000 : Int) < (m : Int) := by omega
          clear hlt HT hm2 h1
          go_wp2_with fail
          refine CK.mono ?_
          rintro e w2 ⟨rfl, hb2⟩
          have hB2 := HKN.out w2 hb2
          go_wp2_with fail
          go_ret
          exact ⟨rfl, hB2⟩
      · have f2 : ¬ (k : Int) < (rs.length : Int) := by omega
        have f4 : ¬ (12000 : Int) < (m : Int) := by omega
        have hke : k = rs.length := by omega
        have HL2 : Hid (∀ (i : Nat) (s : Rw), rs[i]? = some s → s.2.length ≤ 12000) := fun i s hi => HT.out (by omega) i s (by have := (List.getElem?_eq_some_iff.1 hi).1; omega) hi
        clear hlt HT hm2
        by_cases g1 : 100 < rs.length
        · have g1' : (100 : Int) < (rs.length : Int) := by omega
          go_wp2_with fail
          refine CK.mono ?_
          rintro e w2 ⟨rfl, hb2⟩
          have hB2 := HKN.out w2 hb2
          go_wp2_with fail
          go_ret
          exact ⟨rfl, hB2⟩
        have g1' : ¬ (100 : Int) < (rs.length : Int) := by omega
        by_cases g2 : fuse < 0
        · go_wp2_with fail
          refine CK.mono ?_
          rintro e w2 ⟨rfl, hb2⟩
          have hB2 := HKN.out w2 hb2
          go_wp2_with fail
          go_ret
          exact ⟨rfl, hB2⟩
        by_cases g3 : 100 < fuse
        · go_wp2_with fail
          refine CK.mono ?_
          rintro e w2 ⟨rfl, hb2⟩
          have hB2 := HKN.out w2 hb2
          go_wp2_with fail
          go_ret
          exact ⟨rfl, hB2⟩
        have CS := start_any 1048576 (by decide) wr (HCX.out.to (hs.below _))
        rw [hs.size] at CS
        clear CK HKN
        go_wp2_with fail
        refine CS.mono ?_
        rintro e w2 ⟨pb, rfl, hb2, sb, wb, lb, xb, sz, hH2⟩
        have HB2 := hid_into (show Below W.heap.size W w2 from (hs.below _).trans hb2)
        have hl2 : rs.length ≤ 100 := by omega
        have hfw : (Lit.int .i64 fuse).wf = true := WalkArith.wf_i64 (by omega)
        have HK0 : Hid (Kt W w2 pb sb lb 0 0) := by
          obtain ⟨D, F, G, H, es, fs, h1, h2, h3, h4, h5⟩ := hH2
          exact ⟨HB2.out, HCX.out, h1.pB, D, F, _, es, [], 0, [], _, false, 0, [], _, _, h1.p, h1.l, h2, h4, Nat.le_refl _, Kq.start [97], Nat.le_refl _, fun j hj => h1.lo j (Or.inl hj)⟩
        clear CS hb2 hH2 hl
        go_wp2_with fail
        go_loopw [17] (fun iv wr => ∃ i : Nat, i ≤ rs.length ∧ iv = .int .i64 (i : Int) ∧ Hid (Kt W wr pb sb lb i (2 * i))) (fun iv _ => rs.length - (intOf iv).toNat)
        case atStart => exact ⟨0, Nat.zero_le _, rfl, HK0⟩
        case round =>
          clear HK0 HB2
          obtain ⟨i, hi, rfl, HK⟩ := hrel
          by_cases hlt : i < rs.length
          · obtain ⟨b, off, ap, cp, zs, hae, hgk, hcell, hbz, hyz, hzl⟩ := HRS.out.get hlt
            subst hae
            have hbl := World.block_lt_of_cell? W _ hcell
            have HRC := hid_into (fun W1 (hB : Below W.heap.size W W1) => cell_below hB hcell hbl)
            have f1 : (0 : Int) ≤ (i : Int) := by omega
            have f2 : (i : Int) < (rs.length : Int) := by omega
            have hKd := HK.out.below (Below.refl wr.heap.size wr).drew
            have d2 := hKd.pair.2
            have r2 := HRC.out _ hKd.1
            have C1 := hKd.append (by omega) (by omega) hbz hyz
            clear hcell hbl hbz hyz hgk hKd
            go_wp2_with fail
            go_region_held3 (fun x => x.cell? ⟨pb, 2, none⟩ = some (.pointer (some ⟨lb, 0, none⟩)) ∧ x.cell? ⟨b, off + i, none⟩ = some (.slice ap zs.length cp)) (first | exact ⟨d2, r2⟩ | assumption)
              (first | (go_at_call 16; refine C1.mono ?_; rintro e w5 ⟨n5, er, rfl, hK5⟩; have S5 := And.intro hK5.pair.2 (HRC.out _ hK5.1)))
            have HK5 := hid_into hK5
            have p5 := hK5.pair.2
            clear C1 S5 d2 r2 hK5 HK HRC
            by_cases hc : (i : Int) < synced
            · have C3 := HK5.out.sync (by omega)
              clear HK5
              go_wp2_with fail
              refine C3.mono ?_
              rintro e w6 ⟨er6, rfl, hK6⟩
              have HK6 := hid_into hK6
              clear C3 hK6 p5
              go_wp2_with fail
              go_roundw
              case rel => exact ⟨i + 1, by omega, by go_num, hid_into (HK6.out.more (by omega))⟩
              case measure => simp [intOf]; omega
            · go_wp2_with fail
              go_roundw
              case rel => exact ⟨i + 1, by omega, by go_num, hid_into (HK5.out.more (by omega))⟩
              case measure => simp [intOf]; omega
          · have f2 : ¬ (i : Int) < (rs.length : Int) := by omega
            obtain ⟨u, hul, hut, hur, hun, C5⟩ := HK.out.crash (by omega) keep tear HKW.out ht
            have t0 := HK.out.pair.1
            have HUT := hid_into hut
            have HUN := hid_into hun
            clear HK hut hun
            go_wp2_with fail
            refine C5.mono ?_
            rintro e t1 ⟨rfl, hd1⟩
            have hDu : Du u := ⟨hd1.good, HUN.out, hur⟩
            have h00 := (openF_free (pre := [97]) hDu hul).1
            have C6 := hd1.twin hDu h00 hul
            have t1c := hd1.2.2.2.1
            have HDU := hid_into hDu
            clear C5 t0 hd1 hDu h00
            go_wp2_with fail
            refine C6.mono ?_
            rintro e t2 ⟨db, rfl, hd2, hC7⟩
            have C7 := hC7 t2 (Below.refl _ _)
            clear C6 hd2 hC7 t1c
            go_wp2_with fail
            refine C7.mono ?_
            rintro e t3 ⟨lb2, rfl, T, hT3, hl3, hd3⟩
            have C8 := hd3.fuse hT3 fuse hfw
            have t3c := hd3.2.2.2.1
            have HT3 := hid_into hT3
            have HL3 := hid_into hl3
            clear C7 hT3 hl3 hd3
            go_wp2_with fail
            refine C8.mono ?_
            rintro e t4 ⟨rfl, hd4, hk4⟩
            have hT4 := hk4.lt HT3.out
            have C9 := hd4.open hT4 ⟨hd4.good, HUN.out, hur⟩
            have t4c := hd4.2.2.2.1
            have HT4 := hid_into hT4
            have HL4 := hid_into (HL3.out.keep hk4.1 hk4.2)
            clear C8 hT4 hd4 hk4 t3c HL3 HT3
            go_wp2_with fail
            refine C9.mono ?_
            rintro e t5 ⟨⟨p5, er5, rfl, _⟩, hd5, hk5⟩
            have hT5 := hk5.lt HT4.out
            have C10 := hd5.crash hT5 again 0 HAW.out (by decide)
            have t5c := hd5.2.2.2.1
            have HT5 := hid_into hT5
            have HL5 := hid_into (HL4.out.keep hk5.1 hk5.2)
            clear C9 hT5 hd5 hk5 t4c HL4 HT4
            go_wp2_with fail
            refine C10.mono ?_
            rintro e t6 ⟨rfl, hd6, hk6⟩
            have hT6 := hk6.lt HT5.out
            have hDu6 : Du ((openF [97] (u.fuse fuse)).1.2.crash again 0) := ⟨hd6.good, fun x hx => HUN.out x (nsub_open [97] (u.fuse fuse) x (by rw [← lkU_crash again.toNat 0]; exact hx)), by show (openF [97] (u.fuse fuse)).1.2.room ≤ _; rw [openF_room]; exact hur⟩
            have h06 := (openF_free (pre := [97]) hDu6 rfl).1
            have C11 := hd6.open hT6 hDu6
            have t6c := hd6.2.2.2.1
            have HL6 := hid_into (HL5.out.keep hk6.1 hk6.2)
            have H06 := hid_into h06
            clear C10 hT6 hd6 hk6 t5c HL5 HT5 hDu6 h06
            rw [HUT.out fuse again] at C11
            go_wp2_with fail
            refine C11.mono ?_
            rintro e t7 ⟨⟨p7, er7, rfl, h7⟩, hd7, hk7⟩
            obtain ⟨lb3, rfl, rfl, hl7⟩ := h7 H06.out
            have hM : Below W.heap.size W t7 := hd7.1
            have hL7 := (HL6.out.keep hk7.1 hk7.2).lo3
            have hq9 : (openF [97] u).2.1.length ≤ 100000000 := by
              obtain ⟨F, sb9, ev, nv, es, ns, sz9, dead, e1, e2⟩ := hL7
              have := e2.few.1
              rw [← e1, List.length_map]
              omega
            generalize (openF [97] u).2.1 = q at *
            have C12 := hL7.next
            have HL7 := hid_into hL7
            have HM7 := hid_into hl7
            have HW7 := hid_into hM
            clear C11 h7 hd7 hk7 hl7 hL7 hM HL6 t6c HUT H06
            go_wp2_with fail
            refine C12.mono ?_
            rintro e t8 ⟨rfl, hs8⟩
            have C13 := (HM7.out.below (hs8.below _)).next
            have HB8 := hid_into (show Below t7.heap.size t7 t8 from hs8.below _)
            clear C12 hs8
            go_wp2_with fail
            refine C13.mono ?_
            rintro e t9 ⟨rfl, hs9⟩
            have HB9 := hid_into (HB8.out.trans ((show Below t8.heap.size t8 t9 from hs9.below _).mono HB8.out.size))
            clear C13 hs9 HB8
            go_wp2_with fail
            go_loopw [27, 28, 29, 30, 31] (fun jv _ _ _ _ wj => ∃ j : Nat, j ≤ q.length ∧ jv = .int .i64 ((j : Int) + 1) ∧ Hid (Below t7.heap.size t7 wj)) (fun jv _ _ _ _ _ => q.length + 1 - (intOf jv).toNat)
            case atStart => exact ⟨0, Nat.zero_le _, rfl, HB9⟩
            case round =>
              clear HB9
              obtain ⟨j, hj, rfl, HBj⟩ := hrel
              by_cases hjl : j < q.length
              · obtain ⟨p, hp⟩ : ∃ p, q[j]? = some p := ⟨_, List.getElem?_eq_getElem hjl⟩
                have C14 := (HL7.out.below HBj.out).entry hp
                have HP := hid_into hp
                have k1 : (j : Int) + 1 < (q.length : Int) + 1 := by omega
                clear hp
                go_wp2_with fail
                refine C14.mono ?_
                rintro e t10 ⟨ao, cp, rfl, ho, hb10⟩
                have HB10 := hid_into (HBj.out.trans (hb10.mono HBj.out.size))
                have C15 := (HM7.out.below HB10.out).entry HP.out
                have HO := hid_into ho
                clear C14 ho hb10
                go_wp2_with fail
                refine C15.mono ?_
                rintro e t11 ⟨ao2, cp2, rfl, ho2, hb11⟩
                have HB11 := hid_into (HB10.out.trans (hb11.mono HB10.out.size))
                have C16 := same_any _ _ p p t11 (HO.out.bs.below hb11 (Nat.le_refl _)) ho2.bs
                rw [eqB_true rfl] at C16
                clear C15 ho2 hb11 HO
                go_wp2_with fail
                refine C16.mono ?_
                rintro e t12 ⟨rfl, hs12⟩
                have HB12 := hid_into (HB11.out.trans ((show Below t11.heap.size t11 t12 from hs12.below _).mono HB11.out.size))
                clear C16 hs12
                go_wp2_with fail
                go_roundw
                case rel => exact ⟨j + 1, by omega, by go_num, HB12⟩
                case measure => simp [intOf]; omega
              · have k1 : ¬ (j : Int) + 1 < (q.length : Int) + 1 := by omega
                have hW := HW7.out.trans (HBj.out.mono HW7.out.size)
                have C17 := known_any _ (HCX.out.to hW)
                have HW := hid_into hW
                clear hW
                go_wp2_with fail
                refine C17.mono ?_
                rintro e t9 ⟨rfl, hb9⟩
                have hB9 := HW.out.trans (hb9.mono HW.out.size)
                go_wp2_with fail
                go_ret
                exact ⟨rfl, hB9⟩
end Go.Proofs.YtnkjhooeklodcaaGreatDoor
end
