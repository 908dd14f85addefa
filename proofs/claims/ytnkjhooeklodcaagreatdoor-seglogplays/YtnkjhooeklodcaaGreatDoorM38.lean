/-
  Joined from: SegRm, SegXl, SegXt, SegGd, SegXu, SegShape.
-/
import Derived.Test.YtnkjhooeklodcaaGreatDoorM32
import Derived.Test.YtnkjhooeklodcaaGreatDoorM37
section
/-
  Remove once more: the disk has no new block behind it (a loop over a function that removes wants it so).
-/
namespace Go.Proofs.YtnkjhooeklodcaaGreatDoor
open Go.RowKit Go.Maps Go.Sort
section
variable {X : Nm → Prop} {w w' : World} {F : Nat → Prop} {sb : Nat} {mb : Option Nat} {room : Int} {fs : Fls} {lit : Bool} {left : Int}

set_option maxRecDepth 20000 in
set_option maxHeartbeats 1600000 in
theorem remove_anyM (h : Dk w F sb mb room fs lit left) (x : Nm) (hx : x.length ≤ maxLen) (o p n : Value) :
    Calls Tryz.prog 131 #[.agg #[.pointer (some ⟨sb, 0, none⟩), encStr x, o, p, n]] w fun e w' => e = .returned (.int .i64 (none7 fs x)) ∧ Dk w' (Pl F w.heap.size) sb mb room (dl fs x) lit left ∧ Grows F w w' := by
  obtain ⟨ao, cap, hf⟩ := at0_form' h x
  go_enter Tryz.func131, Tryz.ntmps131
  refine wp_seq (wp_region_lit (wpList_box_row rfl 118 (.tmp 0) rfl [.pointer (some ⟨sb, 0, none⟩), encStr x, o, p, n] rfl ?_))
  intro W1 hc1 B1 HS1
  have h1 : Dk W1 (Pl F w.heap.size) sb mb room fs lit left := (h.to B1).pl _
  have HLS : Hid (∀ W, Below W1.heap.size W1 W → LookS w.heap.size sb mb x (.agg #[.slice ao (at0 fs x).zs.length cap, .int .i64 ((at0 fs x).l : Int)]) (lk fs x).isSome W) := fun W hW => by
    have := LookS.of h1 hx hc1 hW
    rw [Fl.val, hf] at this
    exact this
  have hz67 := zero67
  go_upto_region 1 with fail
  go_cut [3, 4] (fun pv tv wx => pv = .pointer (some ⟨W1.heap.size, 0, none⟩) ∧ tv = .bool (lk fs x).isSome ∧ Cw wx W1.heap.size [.slice ao (at0 fs x).zs.length cap, .int .i64 ((at0 fs x).l : Int)] 106 ∧ Below W1.heap.size W1 wx)
  case first =>
    go_region_held3 (fun W => W.cell? ⟨w.heap.size, 0, none⟩ = some (.pointer (some ⟨sb, 0, none⟩)) ∧ W.cell? ⟨w.heap.size, 1, none⟩ = some (encStr x) ∧ W.cell? ⟨sb, 2, none⟩ = some (.map mb) ∧
      (Instr.lookup 86 (.map mb) (encStr x) true).run Tryz.prog W = .ok (.tuple #[.agg #[.slice ao (at0 fs x).zs.length cap, .int .i64 ((at0 fs x).l : Int)], .bool (lk fs x).isSome]) W)
      (first | exact HLS.out _ (Below.refl _ _).drew | exact HLS.out _ ((Below.refl _ _).drew.alloc (Nat.le_refl _) _))
      (fail)
    all_goals
      go_wp2_with fail
      go_meet
      exact ⟨rfl, rfl, Cw.new _ _ _, ((Below.refl _ _).alloc (Nat.le_refl _) _).drew⟩
  case rest =>
    rename World => W2
    obtain ⟨rfl, rfl, hc2, B2⟩ := hcut
    have hc12 := hc1.below B2 hc1.lt
    have h2 := h1.to B2
    have d0 : W2.cell? ⟨w.heap.size, 0, none⟩ = some (.pointer (some ⟨sb, 0, none⟩)) := by rw [hc12.cell]; rfl
    have d1 : W2.cell? ⟨w.heap.size, 1, none⟩ = some (encStr x) := by rw [hc12.cell]; rfl
    have d2 : W2.cell? ⟨w.heap.size, 2, none⟩ = some o := by rw [hc12.cell]; rfl
    have d3 : W2.cell? ⟨w.heap.size, 3, none⟩ = some p := by rw [hc12.cell]; rfl
    have d4 : W2.cell? ⟨w.heap.size, 4, none⟩ = some n := by rw [hc12.cell]; rfl
    have g0 : W2.cell? ⟨W1.heap.size, 0, none⟩ = some (.slice ao (at0 fs x).zs.length cap) := by rw [hc2.cell]; rfl
    have g1 : W2.cell? ⟨W1.heap.size, 1, none⟩ = some (.int .i64 ((at0 fs x).l : Int)) := by rw [hc2.cell]; rfl
    have HG2 : Hid (Grows F w W2) := ((Grows.refl F w).bel B1).bel B2
    have hlt := hc1.lt
    clear HLS hz67 h hc1 B1
    cases hl : lk fs x with
    | none =>
      go_wp2_with fail
      go_ret
      exact ⟨by simp [none7, hl], by rw [dl_of_none (lk_none hl)]; exact h2, HG2.out⟩
    | some f =>
      have hp := drop_any h2 x hx
      go_wp2_with fail
      refine hp.mono ?_
      rintro e W4 ⟨rfl, h4, hG4, _⟩
      have HG4 : Hid (Grows F w W4) := HG2.out.pl hG4
      clear hG4
      go_wp2_with fail
      go_ret
      exact ⟨by simp [none7, hl], h4, HG4.out⟩
/-- What the gate leaves where it is gone through. -/
def GResM (P : Int → Fls → Prop) (mb : Option Nat) (F : Nat → Prop) (sb : Nat) (room : Int) (lit : Bool) (left : Int) (w : World) (e : Ending) (w' : World) : Prop :=
  ∃ ev fs', P ev fs' ∧ e = .returned (.int .i64 ev) ∧ Dk w' (Pl F w.heap.size) sb mb room fs' lit (burnL ev lit left) ∧ Grows F w w'
set_option maxHeartbeats 800000 in
theorem gate_doM (P : Int → Fls → Prop) (h : Dk w F sb mb room fs lit left) (fn : FuncId) (en : ∀ (args : Array Value) (w : World), (callFunc fn args).run Tryz.prog w = .ok (.enter fn args) w) (sa sv : Value) (hb : burntB lit left = false) (hn : ∀ w1, Below w.heap.size w w1 → Calls Tryz.prog 94 #[sv, .func (.func 95) #[] #[]] w1 fun e w' => e = .returned (.bool false) ∧ w' = w1)
    (hdo : ∀ w1, Below w.heap.size w w1 → Calls Tryz.prog fn #[sa] w1 fun e w' => ∃ ev fs', P ev fs' ∧ e = .returned (.int .i64 ev) ∧ Dk w' (Pl F w1.heap.size) sb mb room fs' lit left ∧ Grows F w1 w') :
    Calls Tryz.prog 66 #[.pointer (some ⟨sb, 0, none⟩), .func (.func fn) #[sa] #[], sv] w fun e w' => GResM P mb F sb room lit left w e w' := by
  obtain ⟨c0, c1, c2, c3, c4⟩ := h.cell
  have HN := hid_into hn
  have HD := hid_into hdo
  clear hn hdo
  go_enter Tryz.func66, Tryz.ntmps66
  go_wp2_with fail
  refine (burnt_any lit left w).mono ?_
  rintro e W1 ⟨rfl, B1⟩
  rw [hb]
  go_wp2_with fail
  refine (HN.out W1 B1).mono ?_
  rintro e W2 ⟨rfl, rfl⟩
  have HB := hid_into hb
  have HB1 := hid_into B1
  clear hb B1 h c0 c1 c2 c3 c4
  go_wp2_with fail
  refine (HD.out W2 HB1.out).mono ?_
  rintro e W3 ⟨ev, fs', hP, rfl, h3, hG3⟩
  have HG3 : Hid (Grows F w W3) := ((Grows.refl F w).bel HB1.out).trans hG3 fun _ hk => Or.inl hk
  have HS : Hid (w.heap.size ≤ W2.heap.size) := HB1.out.size
  replace hP := hid_into hP
  clear hG3
  by_cases he : ev = 0
  · subst he
    go_wp2_with fail
    refine (burn_any h3 HB.out).mono ?_
    rintro e W4 ⟨rfl, h4, hG4⟩
    have HG4 : Hid (Grows F w W4) := HG3.out.trans hG4 fun k hk => by
      rcases hk with hk | hk
      · exact Or.inl hk
      · exact Or.inr (Nat.le_trans HS.out hk)
    clear hG4
    go_wp2_with fail
    go_ret
    exact ⟨0, fs', hP.out, rfl, h4.more fun k hk _ => (by rcases hk with hk | hk; exact Or.inl hk; exact Or.inr (Nat.le_trans HS.out hk)), HG4.out⟩
  · have HE := hid_into he
    have he2 : (ev == 0) = false := by simp [he]
    go_wp2_with fail
    go_ret
    refine ⟨ev, fs', hP.out, rfl, ?_, HG3.out⟩
    have e1 : burnL ev lit left = left := by simp [burnL, HE.out]
    rw [e1]
    exact h3.more fun k hk _ => (by rcases hk with hk | hk; exact Or.inl hk; exact Or.inr (Nat.le_trans HS.out hk))
theorem GResM.below {P : Int → Fls → Prop} {e : Ending} {W W' : World} (h : GResM P mb F sb room lit left W e W') (hb : Below w.heap.size w W) : GResM P mb F sb room lit left w e W' := by
  obtain ⟨ev, fs', hP, he, h1, hG⟩ := h
  refine ⟨ev, fs', hP, he, h1.more fun k hk _ => ?_, ((Grows.refl F w).bel hb).trans hG fun _ hk => Or.inl hk⟩
  rcases hk with hk | hk
  · exact Or.inl hk
  · exact Or.inr (Nat.le_trans hb.size hk)
theorem GResM.stay {P : Int → Fls → Prop} {e : Ending} {ev : Int} (h : Dk w F sb mb room fs lit left) (hb : Below w.heap.size w w') (he : e = .returned (.int .i64 ev)) (hP : P ev fs) (h0 : ev ≠ 0) : GResM P mb F sb room lit left w e w' := by
  refine ⟨ev, fs, hP, he, ?_, (Grows.refl F w).bel hb⟩
  have e1 : burnL ev lit left = left := by simp [burnL, h0]
  rw [e1]
  exact (h.to hb).pl _
/-- The gate, whatever comes. -/
theorem gate_anyM (P : Int → Fls → Prop) (nn : Bool) (h : Dk w F sb mb room fs lit left) (fn : FuncId) (en : ∀ (args : Array Value) (w : World), (callFunc fn args).run Tryz.prog w = .ok (.enter fn args) w) (sa sv : Value)
    (hn : ∀ w1, Below w.heap.size w w1 → Calls Tryz.prog 94 #[sv, .func (.func 95) #[] #[]] w1 fun e w' => e = .returned (.bool nn) ∧ w' = w1)
    (hdo : ∀ w1, Below w.heap.size w w1 → Calls Tryz.prog fn #[sa] w1 fun e w' => ∃ ev fs', P ev fs' ∧ e = .returned (.int .i64 ev) ∧ Dk w' (Pl F w1.heap.size) sb mb room fs' lit left ∧ Grows F w1 w') :
    Calls Tryz.prog 66 #[.pointer (some ⟨sb, 0, none⟩), .func (.func fn) #[sa] #[], sv] w fun e w' => GResM (fiveP lit left nn fs P) mb F sb room lit left w e w' := by
  cases hb : burntB lit left with
  | true =>
    refine (gate_dead h _ sv hb).mono ?_
    rintro e W ⟨he, hB⟩
    exact GResM.stay h hB he (by simp [fiveP, hb]) (by decide)
  | false =>
    cases nn with
    | true =>
      refine (gate_arg h _ sv hb hn).mono ?_
      rintro e W ⟨he, hB⟩
      exact GResM.stay h hB he (by simp [fiveP, hb]) (by decide)
    | false =>
      refine (gate_doM P h fn en sa sv hb hn hdo).mono ?_
      rintro e W ⟨ev, fs', hP, he, hR⟩
      exact ⟨ev, fs', by simpa [fiveP, hb] using hP, he, hR⟩
set_option maxHeartbeats 800000 in
theorem Remove_anyM (h : Dk w F sb mb room fs lit left) (x : Nm) (hx : x.length ≤ maxLen) :
    Calls Tryz.prog 113 #[.pointer (some ⟨sb, 0, none⟩), encStr x] w fun e w' => GResM (fiveP lit left (noneB x) fs (removeP fs x)) mb F sb room lit left w e w' := by
  have hmf : ∀ (fn : Fn) (first cap : Array Value) (w : World), (Instr.makeFunc fn first cap).run Tryz.prog w = .ok (.func fn first cap) w := fun _ _ _ _ => rfl
  have B0 : Below w.heap.size w (w.alloc (.cells #[encStr x] 9)) := (Below.refl _ _).alloc (Nat.le_refl _) _
  have hg := gate_anyM (removeP fs x) (noneB x) (h.to B0) 131 (enters_of Tryz.func131 (by kernel_rfl) rfl) (.agg #[.pointer (some ⟨sb, 0, none⟩), encStr x, .string ⟨#[]⟩, .slice none 0 0, .int .i64 0]) (.slice (some ⟨w.heap.size, 0, none⟩) 1 1)
    (fun w1 hb => has_one w.heap.size x w1 (below_cw (cs := [encStr x]) hb))
    (fun w1 hb => (remove_anyM ((h.to B0).to hb) x hx _ _ _).mono fun e w' hr => ⟨_, _, ⟨rfl, rfl⟩, hr.1, hr.2⟩)
  have HG := hid_into hg
  have HB := hid_into B0
  clear hg B0
  go_enter Tryz.func113, Tryz.ntmps113
  go_wp2_with fail
  refine HG.out.mono ?_
  rintro e W2 ⟨ev, fs', hP, rfl, hR⟩
  have HR : Hid (GResM (fiveP lit left (noneB x) fs (removeP fs x)) mb F sb room lit left w (.returned (.int .i64 ev)) W2) := GResM.below ⟨ev, fs', hP, rfl, hR⟩ HB.out
  clear hP hR
  go_wp2_with fail
  go_ret
  exact HR.out
theorem fiveP_sub {nn : Bool} {x : Nm} {ev : Int} {fs' : Fls} (h : fiveP lit left nn fs (removeP fs x) ev fs') : ∀ p ∈ fs', p ∈ fs := by
  unfold fiveP at h
  split at h
  · rw [h.2]; exact fun p hp => hp
  · split at h
    · rw [h.2]; exact fun p hp => hp
    · obtain ⟨_, rfl⟩ := h
      exact fun p hp => (dl_mem.1 hp).1
theorem Dx.less (h : Dk w F sb mb room fs lit left) {left' : Int} {n : Nat} {fs' : Fls} (h' : Dk w' (Pl F n) sb mb room fs' lit left') (hs : ∀ p ∈ fs', p ∈ fs) : Dk w' F sb mb room fs' lit left' where
  cells := h'.cells
  sF := h.sF
  nn := h'.nn
  map := fun b hb => ⟨(h.map b hb).1, (h'.map b hb).2⟩
  form := h'.form
  rowsX := fun p hp hn => by
    obtain ⟨h1, h2, h3, _⟩ := h'.rowsX p hp hn
    exact ⟨h1, h2, h3, (h.rowsX p (hs p hp) hn).2.2.2⟩
  apart := h'.apart
  room0 := h'.room0
  fits := h'.fits
  left0 := h'.left0
  cnt := h'.cnt
end
section
variable {w w' : World} {F : Nat → Prop} {sb : Nat} {u : Ud}
theorem five_plain {fs fs' : Fls} {lit : Bool} {lf ev : Int} {P : Int → Fls → Prop} (f : Us → Int × Us) (ns : List Nm) (nn : Bool) (hnn : nn = ns.any badN) (hP : ∀ ev fs', P ev fs' → ev = (f (abs fs)).1 ∧ abs fs' = (f (abs fs)).2)
    (h0 : 0 ≤ lf ∧ lf < 9223372036854775808) (ha : abs fs = u.us) (hl : u.left = if lit then lf else -1) (hp : fiveP lit lf nn fs P ev fs') : ev = (u.five ns f).1 ∧ (u.five ns f).2.room = u.room ∧ abs fs' = (u.five ns f).2.us ∧ (u.five ns f).2.left = if lit then burnL ev lit lf else -1 := by
  have hb : burntB lit lf = decide (u.left = 0) := by
    unfold burntB
    rw [hl]
    cases lit with
    | true => by_cases h : lf = 0 <;> simp [h]
    | false => simp
  unfold fiveP at hp
  unfold Ud.five mayE
  by_cases hz : u.left = 0
  · rw [hb, decide_eq_true hz, if_pos rfl] at hp
    obtain ⟨rfl, rfl⟩ := hp
    simp only [hz, if_true]
    have e1 : burnL 9 lit lf = lf := by simp [burnL]
    rw [e1]
    exact ⟨rfl, rfl, ha, hl⟩
  · rw [hb, decide_eq_false hz, if_neg (by simp)] at hp
    simp only [hz, if_false]
    cases nn with
    | true =>
      rw [if_pos rfl] at hp
      obtain ⟨rfl, rfl⟩ := hp
      simp only [← hnn, if_true]
      have e1 : burnL 1 lit lf = lf := by simp [burnL]
      rw [e1]
      exact ⟨rfl, rfl, ha, hl⟩
    | false =>
      rw [if_neg (by simp)] at hp
      obtain ⟨h1, h2⟩ := hP ev fs' hp
      rw [ha] at h1 h2
      simp only [← hnn, Bool.false_eq_true, if_false, ne_eq, not_true_eq_false]
      refine ⟨h1, trivial, h2, ?_⟩
      show (if (f u.us).1 = 0 then didL u.left else u.left) = _
      rw [← h1, hl]
      unfold burnL didL
      by_cases hev : ev = 0
      · cases lit with
        | true =>
          have : lf ≠ 0 := fun e => hz (by rw [hl]; simpa using e)
          simp only [hev, if_true, and_true]
          rw [if_pos (by omega)]
        | false => simp [hev]
      · cases lit <;> simp [hev]
theorem pRemoveM (h : Pd w F sb u) (x : Nm) (hx : x.length ≤ maxLen) : Calls Tryz.prog 113 #[.pointer (some ⟨sb, 0, none⟩), encStr x] w fun e w' => e = .returned (.int .i64 (u.five [x] (rmU x)).1) ∧ Pd w' F sb (u.five [x] (rmU x)).2 ∧ Grows F w w' := by
  obtain ⟨mb, fs, lit, lf, hd, ha, hl⟩ := h
  refine (Remove_anyM hd x hx).mono fun e w' hG => ?_
  obtain ⟨ev, fs', hp, he, hd', hg⟩ := hG
  have hd2 := hd.less hd' (fiveP_sub hp)
  obtain ⟨r1, r2, r3, r4⟩ := five_plain (u := u) (rmU x) [x] (noneB x) (by simp [noneB_bad]) removeP_u hd.left0 ha hl hp
  rw [← r2] at hd2
  exact ⟨by rw [he, r1], ⟨mb, fs', lit, _, hd2, r3, r4⟩, hg⟩
end
section
variable {w w' : World} {D F : Nat → Prop} {lb sb : Nat} {u : Ud} {pre : List UInt8} {es : List En} {las : Nat} {ns : List (List UInt8)} {sz : Nat} {dead : Bool}
theorem askRemoveM (h : Ld w D F lb sb u pre es las ns sz dead) (x : List UInt8) (hx : x.length ≤ maxLen) :
    Calls Tryz.prog 55 #[.pointer (some ⟨lb, 0, none⟩), .func (.func 113) #[] #[], encStr x] w fun e w' => e = .returned (.int .i64 (u.five [x] (rmU x)).1) ∧ Ld w' D F lb sb (u.five [x] (rmU x)).2 pre es las ns sz (if (u.five [x] (rmU x)).1 = 0 ∨ (u.five [x] (rmU x)).1 = 6 then dead else true) ∧ Grows (fun k => D k ∨ F k) w w' := by
  obtain ⟨ev, nv, hl⟩ := h.l
  refine (lgate_any 113 #[] enters113 x w hl (fun er w2 => er = (u.five [x] (rmU x)).1 ∧ Pd w2 D sb (u.five [x] (rmU x)).2 ∧ Grows D w w2) ?_).mono ?_
  · refine Calls.mono (pRemoveM h.d x hx) ?_
    rintro e w2 ⟨rfl, hp, hg⟩
    exact ⟨_, rfl, ⟨rfl, hp, hg⟩, hg.block lb hl.blk.lt fun e => h.ap lb e hl.lF⟩
  · rintro e w' ⟨er, w2, rfl, ⟨rfl, hp, hg⟩, hc⟩
    have hl2 : Lg w2 F lb sb pre ev nv es las ns sz dead := hl.keep hg.size fun k hk hlt => hg.block k hlt fun hd => h.ap k hd hk
    have hld : Ld w2 D F lb sb (u.five [x] (rmU x)).2 pre es las ns sz dead := ⟨hp, ⟨ev, nv, hl2⟩, fun k hk => Nat.lt_of_lt_of_le (h.dl k hk) hg.size, fun k hk => Nat.lt_of_lt_of_le (h.fl k hk) hg.size, h.ap⟩
    refine ⟨rfl, ?_⟩
    rcases hc with ⟨hc, rfl⟩ | ⟨hc, rfl⟩
    · rw [if_pos hc]
      exact ⟨hld, hg.mono fun k hk => Or.inl hk⟩
    · rw [if_neg hc]
      exact ⟨hld.cell 6 _ fun _ _ h => h.kill, (hg.mono fun k hk => Or.inl hk).trans (Grows.cell (F := fun k => D k ∨ F k) _ _ _ _ (Or.inr hl2.lF)) fun k hk => Or.inl hk⟩
end
end Go.Proofs.YtnkjhooeklodcaaGreatDoor
end

section
/-
  The document's log: entries more, by one append.
-/
namespace Go.Proofs.YtnkjhooeklodcaaGreatDoor
open Go.RowKit Go.Maps Go.Sort

variable {w w' : World} {D F : Nat → Prop} {lb wb : Nat} {u : Ud} {pre : List UInt8} {ev sv : Value} {es : List En} {ss : List Nat} {sure : Nat} {dead : Bool}
/-- Entries more. -/
theorem Xg.addAll (h : Xg w F lb wb pre ev sv es ss sure dead) (rs : List En) (hrs : ∀ r ∈ rs, Bs w r.1 r.2 ∧ Byt r.2 ∧ r.2.length ≤ 65536 ∧ ∀ k, r.1.ownBlock = some k → F k ∧ k ≠ lb ∧ ev.ownBlock ≠ some k ∧ sv.ownBlock ≠ some k ∧ k < w.heap.size)
    (w2 : World) (ev' : Value) (hrow : w2.ownsRow 0 38 1 ev' (es.length + rs.length) (enOf es ++ enOf rs)) (hg : w.grownBy w2 ev.ownBlock) (hat : ev'.ownBlock = ev.ownBlock ∨ ev'.ownBlock = some w.heap.size) (hF : F w.heap.size) (hf : es.length + rs.length ≤ 10000000) :
    Xg (w2.setCell ⟨lb, 2, none⟩ ev') F lb wb pre ev' sv (es ++ rs) ss sure dead := by
  have hlb := h.blk.lt
  have hne : ∀ k, ev'.ownBlock = some k → k ≠ lb ∧ (ev.ownBlock = some k ∨ k = w.heap.size) := by
    intro k hk
    rcases hat with e | e
    · rw [e] at hk
      exact ⟨(h.sep.1 k hk).2.1, Or.inl hk⟩
    · rw [e] at hk
      have := Option.some.inj hk
      exact ⟨by omega, Or.inr this.symm⟩
  have hkeep : ∀ k, k < w.heap.size → ev.ownBlock ≠ some k → k ≠ lb → (w2.setCell ⟨lb, 2, none⟩ ev').heap[k]? = w.heap[k]? := fun k h1 h2 h3 => (set_other _ _ _ _ _ h3).trans (hg.block k h1 fun e => h2 e.symm)
  have hb2 : Cw w2 lb _ 32 := h.blk.keep (hg.block lb hlb fun e => (h.sep.1 lb e.symm).2.1 rfl)
  have hsz : w.heap.size ≤ (w2.setCell ⟨lb, 2, none⟩ ev').heap.size := by rw [set_size]; exact hg.size
  have hsv : ∀ k, sv.ownBlock = some k → k < w.heap.size := fun k hk => (World.ownsRow.lt h.seg k hk).2
  refine ⟨hb2.set 2 ev', h.lF, ?_, fun r hr => ?_, ?_, ⟨fun k hk => ?_, h.sep.2⟩, ⟨by simpa using hf, h.few.2⟩⟩
  · have e1 : (es ++ rs).length = es.length + rs.length := by simp
    have e2 : enOf (es ++ rs) = enOf es ++ enOf rs := by simp [enOf]
    rw [e1, e2]
    exact Fr.ownsRow_keep hrow fun k hk _ => set_other _ _ _ _ _ (hne k hk).1
  · have key : Bs w r.1 r.2 ∧ Byt r.2 ∧ r.2.length ≤ 65536 ∧ ∀ k, r.1.ownBlock = some k → F k ∧ k ≠ lb ∧ ev.ownBlock ≠ some k ∧ sv.ownBlock ≠ some k ∧ k < w.heap.size := by
      rcases List.mem_append.1 hr with hm | hm
      · exact h.each r hm
      · exact hrs r hm
    obtain ⟨k1, k2, k3, k4⟩ := key
    refine ⟨k1.keep fun k hk hlt => hkeep k hlt (k4 k hk).2.2.1 (k4 k hk).2.1, k2, k3, fun k hk => ⟨(k4 k hk).1, (k4 k hk).2.1, fun e => ?_, (k4 k hk).2.2.2.1, by have := (k4 k hk).2.2.2.2; omega⟩⟩
    rcases (hne k e).2 with e' | e'
    · exact (k4 k hk).2.2.1 e'
    · have := (k4 k hk).2.2.2.2
      omega
  · exact Fr.ownsRow_keep h.seg fun k hk hlt => hkeep k hlt (fun e => (h.sep.1 k e).2.2 hk) (h.sep.2 k hk).2
  · rcases (hne k hk).2 with e | e
    · exact h.sep.1 k e
    · subst e
      exact ⟨hF, by omega, fun e => by have := hsv _ e; omega⟩
/-- Entries more, of a log over its disk. -/
theorem XRes.addAll {w5 w6 W : World} {D5 F5 : Nat → Prop} (h1 : Xd w5 D5 F5 lb wb u pre es ss sure dead) (h2 : ∀ k, D5 k → D k ∨ w.heap.size ≤ k) (h3 : ∀ k, F5 k → F k ∨ w.heap.size ≤ k) (h4 : Grows (fun k => D k ∨ F k) w w5)
    (hl : Xg w5 F5 lb wb pre ev sv es ss sure dead) (hA : Below w5.heap.size w5 W) (rs : List En) (hrs : ∀ r ∈ rs, Bs W r.1 r.2 ∧ Byt r.2 ∧ r.2.length ≤ 65536 ∧ ∀ k, r.1.ownBlock = some k → w5.heap.size ≤ k ∧ k < W.heap.size)
    (ev' : Value) (hrow : w6.ownsRow 0 38 1 ev' (es.length + rs.length) (enOf es ++ enOf rs)) (hg : W.grownBy w6 ev.ownBlock) (hat : ev'.ownBlock = ev.ownBlock ∨ ev'.ownBlock = some W.heap.size) (hf : es.length + rs.length ≤ 10000000) :
    XRes w D F lb wb pre u (es ++ rs) ss sure dead (w6.setCell ⟨lb, 2, none⟩ ev') := by
  have hWs := hA.size
  have hl2 : Xg W (fun k => F5 k ∨ w5.heap.size ≤ k) lb wb pre ev sv es ss sure dead := (hl.below hA).more fun k hk => Or.inl hk
  have hlb := hl.blk.lt
  have hl3 := (hl2.addAll rs (fun r hr => by
    obtain ⟨a1, a2, a3, a4⟩ := hrs r hr
    refine ⟨a1, a2, a3, fun k hk => ?_⟩
    obtain ⟨k1, k2⟩ := a4 k hk
    refine ⟨Or.inr k1, by omega, fun e => ?_, fun e => ?_, k2⟩
    · have := (World.ownsRow.lt hl.ent k e).2; omega
    · have := (World.ownsRow.lt hl.seg k e).2; omega) w6 ev' hrow hg hat (Or.inr (by omega)) hf).tight
  have hs6 : w5.heap.size ≤ w6.heap.size := by have := hg.size; omega
  have h45 := h4.size
  have hblk : ∀ k, k < w5.heap.size → ¬ F5 k → (w6.setCell ⟨lb, 2, none⟩ ev').heap[k]? = w5.heap[k]? := fun k hk hn => by
    rw [set_other _ _ _ _ _ fun e => hn (by rw [e]; exact hl.lF), hg.block k (by omega) fun e => hn (hl.sep.1 k e.symm).1]
    exact hA.block k hk
  refine ⟨D5, _, ⟨h1.d.keep fun k hk hlt => hblk k hlt (h1.ap k hk), ⟨ev', sv, hl3⟩, fun k hk => by rw [set_size]; have := h1.dl k hk; omega, fun k hk => hk.2, fun k hk hf => ?_⟩, h2, fun k hk => ?_, ⟨?_, ?_, ?_, ?_, fun k hk hn => ?_⟩⟩
  · rcases hf.1 with e | e
    · exact h1.ap k hk e
    · have := h1.dl k hk
      omega
  · rcases hk.1 with e | e
    · exact h3 k e
    · exact Or.inr (by omega)
  · exact hg.os.trans (hA.os.trans h4.os)
  · exact hg.tape.trans (hA.tape.trans h4.tape)
  · exact hg.output.trans (hA.output.trans h4.output)
  · rw [set_size]; omega
  · refine (hblk k (by omega) fun e => ?_).trans (h4.block k hk hn)
    rcases h3 k e with e | e
    · exact hn (Or.inr e)
    · omega
theorem wpList_append_rows (w : World) {ops : Array Oper} {rest : List Oper} {o : Oper} {a : Act} {Q : Exit → Act → World → Prop} (hgd : o.guard = none) (s x : Operand)
    (ho : o.op = .call { callee := .builtin .append, args := #[s, x], argTypes := #[29, 29] })
    (v : Value) (n : Nat) (us : List Value) (hs : a.eval s = v) (hown : w.ownsRow 0 38 1 v n us) (base : Nat) (vx : Value) (ys : List Value) (hx : a.eval x = vx) (hxr : w.ownsRow base 38 1 vx ys.length ys) (hone : ∀ y ∈ ys, y.oneCell' = true)
    (h63 : n + ys.length ≤ 1000000000)
    (h : ∀ ao cap w', w'.ownsRow 0 38 1 (.slice ao (n + ys.length) cap) (n + ys.length) (us ++ ys) → w.grownBy w' v.ownBlock → ((Value.slice ao (n + ys.length) cap).ownBlock = v.ownBlock ∨ (Value.slice ao (n + ys.length) cap).ownBlock = some w.heap.size) →
      wpList Tryz.prog ops Q rest (a.put o.dst (.slice ao (n + ys.length) cap)) w') : wpList Tryz.prog ops Q (o :: rest) a w := by
  obtain ⟨i0, hi, hz0, hz1, hz2⟩ := info_parts Fr.Tz.info22
  have form : ∀ {w' : World} {v' : Value} {k : Nat} {cs : List Value}, w'.ownsRow 0 38 1 v' k cs → ∃ ao cap, v' = .slice ao k cap := by
    intro w' v' k cs h2
    rcases h2.2 with ⟨e, h6⟩ | ⟨g, cap, cur, h6, _⟩
    · exact ⟨none, 0, by rw [e, h6]⟩
    · exact ⟨some ⟨g, 0, none⟩, cap, h6⟩
  have key : ∃ ao cap w', (Builtin.append_ #[29, 29] o.type #[v, vx]).run Tryz.prog w = .ok (.slice ao (n + ys.length) cap) w' ∧ w'.ownsRow 0 38 1 (.slice ao (n + ys.length) cap) (n + ys.length) (us ++ ys) ∧ w.grownBy w' v.ownBlock ∧ ((Value.slice ao (n + ys.length) cap).ownBlock = v.ownBlock ∨ (Value.slice ao (n + ys.length) cap).ownBlock = some w.heap.size) := by
    rcases hxr.2 with ⟨e, h0⟩ | ⟨g, cap, cur, e, _⟩
    · obtain rfl : ys = [] := List.eq_nil_of_length_eq_zero h0
      subst e
      have hr := run_append_owned_none (P := Tryz.prog) w 0 29 o.type 38 i0 1 Tryz.underlying29 hi v n us hown
      obtain ⟨ao, cap, hv⟩ := form hown
      refine ⟨ao, cap, w, ?_, ?_, World.grownBy.refl _ _, Or.inl ?_⟩
      · rw [hr]; simp [hv]
      · simpa [hv] using hown
      · simp [hv]
    · subst e
      obtain ⟨v', w', hrun, h2, h3, _, h5⟩ := run_append_own_at (P := Tryz.prog) w 0 29 o.type 38 i0 (.slice none 0 0) 1 24 Tryz.underlying29 hi hz0 hz1 hz2 rfl (by decide) v n us hown ⟨g, 0, none⟩ ys.length cap ys (by simp)
        (fun j y hy => World.ownsRow.cells hxr (g := g) rfl j y hy) hone (by unfold maxLen; omega) (by omega) (Nat.zero_le _)
      obtain ⟨ao, cap, rfl⟩ := form h2
      exact ⟨ao, cap, w', hrun, h2, h3, h5⟩
  obtain ⟨ao, cap, w', hrun, h2, h3, h5⟩ := key
  refine wpList_plain hgd fun _ hK => ?_
  unfold Oper.wp execOp
  simp only [ho, resolve, invoke, builtin, Sem.run_bind, Sem.run_pure, Result.andThen_ok, List.map_toArray, List.map_cons, List.map_nil, hs, hx, hrun]
  exact hK _ _ (h ao cap w' h2 h3 h5)
end Go.Proofs.YtnkjhooeklodcaaGreatDoor
end

section
/-
  The document's log: a segment is taken in (its number, then its entries).
-/
namespace Go.Proofs.YtnkjhooeklodcaaGreatDoor
open Go.RowKit Go.Maps Go.Sort
open Fr (Rw2 Osl bytesOf2)

variable {w w' wr W5 w8 w9 : World} {D F D1 F1 : Nat → Prop} {lb wb : Nat} {u : Ud} {pre : List UInt8} {ev sv : Value} {es : List En} {ss : List Nat} {sure : Nat} {dead : Bool}
/-- What the log's blocks may be behind it. -/
def More (F1 : Nat → Prop) (wr : World) : Nat → Prop := fun k => F1 k ∨ wr.heap.size ≤ k
/-- The number is laid down: what the log is in between. -/
theorem Xg.segStep (hl : Xg wr F1 lb wb pre ev sv es ss sure dead) (hb5 : Below wr.heap.size wr W5) (n : Nat) (hn8 : n < 100000000) (hf : ss.length + 1 ≤ 10000000) (sv' : Value)
    (hrow : w8.ownsRow 0 3 1 sv' (ss.length + 1) (numsOf ss ++ [.int .i64 (n : Int)])) (hg8 : (W5.alloc (.cells #[.int .i64 (n : Int)] 3)).grownBy w8 sv.ownBlock) (hat8 : sv'.ownBlock = sv.ownBlock ∨ sv'.ownBlock = some (W5.heap.size + 1)) :
    w8.cell? ⟨lb, 3, none⟩ = some sv ∧ w8.frozen? ⟨lb, 3, none⟩ = false ∧ Xg (w8.setCell ⟨lb, 3, none⟩ sv') (More F1 wr) lb wb pre ev sv' es (ss ++ [n]) sure dead ∧
    (∀ k, k < W5.heap.size → k ≠ lb → sv.ownBlock ≠ some k → (w8.setCell ⟨lb, 3, none⟩ sv').heap[k]? = W5.heap[k]?) ∧ W5.heap.size ≤ (w8.setCell ⟨lb, 3, none⟩ sv').heap.size ∧
    (∀ k, sv'.ownBlock = some k → sv.ownBlock = some k ∨ W5.heap.size ≤ k) ∧ (w8.setCell ⟨lb, 3, none⟩ sv').os = W5.os ∧ (w8.setCell ⟨lb, 3, none⟩ sv').tape = W5.tape ∧ (w8.setCell ⟨lb, 3, none⟩ sv').output = W5.output := by
  have hA : Below W5.heap.size W5 (W5.alloc (.cells #[.int .i64 (n : Int)] 3)) := (Below.refl _ _).alloc (Nat.le_refl _) _
  have hWs : (W5.alloc (.cells #[.int .i64 (n : Int)] 3)).heap.size = W5.heap.size + 1 := World.size_alloc _ _
  have hs5 := hb5.size
  have hl7 : Xg (W5.alloc (.cells #[.int .i64 (n : Int)] 3)) (More F1 wr) lb wb pre ev sv es ss sure dead := ((hl.below hb5).below hA).more fun k hk => Or.inl hk
  have hb8 := hl7.blk.keep (hg8.block lb hl7.blk.lt fun e => (hl7.sep.2 lb e.symm).2 rfl)
  refine ⟨hb8.cell 3, hb8.frozen 3, hl7.addS n hn8 w8 sv' hrow hg8 (by rw [hWs]; exact hat8) (Or.inr (by omega)) hf, fun k hk h1 h2 => ?_, ?_, fun k hk => ?_, hg8.os.trans hA.os, hg8.tape.trans hA.tape, hg8.output.trans hA.output⟩
  · rw [set_other _ _ _ _ _ h1, hg8.block k (by omega) fun e => h2 e.symm]
    exact hA.block k hk
  · rw [set_size]
    have := hg8.size
    omega
  · rcases hat8 with e | e
    · exact Or.inl (by rw [← e]; exact hk)
    · rw [e] at hk
      have := Option.some.inj hk
      exact Or.inr (by omega)
/-- The entries are laid behind: the log over its disk. -/
theorem XRes.segment (h1 : Xd wr D1 F1 lb wb u pre es ss sure dead) (hl : Xg wr F1 lb wb pre ev sv es ss sure dead) (hb5 : Below wr.heap.size wr W5) (n : Nat) (sv' : Value) {w7 : World}
    (hl7 : Xg w7 (More F1 wr) lb wb pre ev sv' es (ss ++ [n]) sure dead) (hk7 : ∀ k, k < W5.heap.size → k ≠ lb → sv.ownBlock ≠ some k → w7.heap[k]? = W5.heap[k]?) (hs7 : W5.heap.size ≤ w7.heap.size) (hsv : ∀ k, sv'.ownBlock = some k → sv.ownBlock = some k ∨ W5.heap.size ≤ k) (ho7 : w7.os = W5.os ∧ w7.tape = W5.tape ∧ w7.output = W5.output)
    (rs : List En) (hrs : ∀ r ∈ rs, Bs W5 r.1 r.2 ∧ Byt r.2 ∧ r.2.length ≤ 65536 ∧ ∀ k, r.1.ownBlock = some k → wr.heap.size ≤ k ∧ k < W5.heap.size)
    (ev' : Value) (hrow9 : w9.ownsRow 0 38 1 ev' (es.length + rs.length) (enOf es ++ enOf rs)) (hg9 : w7.grownBy w9 ev.ownBlock) (hat9 : ev'.ownBlock = ev.ownBlock ∨ ev'.ownBlock = some w7.heap.size) (hf : es.length + rs.length ≤ 10000000) :
    w9.cell? ⟨lb, 2, none⟩ = some ev ∧ w9.frozen? ⟨lb, 2, none⟩ = false ∧ XRes wr D1 F1 lb wb pre u (es ++ rs) (ss ++ [n]) sure dead (w9.setCell ⟨lb, 2, none⟩ ev') := by
  have hs5 := hb5.size
  have hlb := hl.blk.lt
  have hev : ∀ k, ev.ownBlock = some k → k < wr.heap.size := fun k hk => (World.ownsRow.lt hl.ent k hk).2
  have hsvl : ∀ k, sv.ownBlock = some k → k < wr.heap.size := fun k hk => (World.ownsRow.lt hl.seg k hk).2
  have hb9 := hl7.blk.keep (hg9.block lb hl7.blk.lt fun e => (hl7.sep.1 lb e.symm).2.1 rfl)
  have hl9 := (hl7.addAll rs (fun r hr => by
    obtain ⟨a1, a2, a3, a4⟩ := hrs r hr
    refine ⟨a1.keep fun k hk hlt => ?_, a2, a3, fun k hk => ?_⟩
    · obtain ⟨k1, k2⟩ := a4 k hk
      exact hk7 k k2 (by omega) fun e => by have := hsvl k e; omega
    · obtain ⟨k1, k2⟩ := a4 k hk
      refine ⟨Or.inr k1, by omega, fun e => ?_, fun e => ?_, by omega⟩
      · have := hev k e; omega
      · rcases hsv k e with e | e
        · have := hsvl k e; omega
        · omega) w9 ev' hrow9 hg9 hat9 (Or.inr (by omega)) hf)
  have hlt9 := hl9.tight
  have hs9 := hg9.size
  have hblk : ∀ k, k < wr.heap.size → ¬ F1 k → (w9.setCell ⟨lb, 2, none⟩ ev').heap[k]? = wr.heap[k]? := fun k hk hn => by
    rw [set_other _ _ _ _ _ fun e => hn (by rw [e]; exact hl.lF), hg9.block k (by omega) fun e => hn (hl.sep.1 k e.symm).1, hk7 k (by omega) (fun e => hn (by rw [e]; exact hl.lF)) fun e => hn (hl.sep.2 k e).1]
    exact hb5.block k hk
  refine ⟨hb9.cell 2, hb9.frozen 2, D1, _, ⟨h1.d.keep fun k hk hlt => hblk k hlt (h1.ap k hk), ⟨ev', sv', hlt9⟩, fun k hk => by rw [set_size]; have := h1.dl k hk; omega, fun k hk => hk.2, fun k hk hf => ?_⟩, fun k hk => Or.inl hk, fun k hk => hk.1, ⟨?_, ?_, ?_, ?_, fun k hk hn => hblk k hk fun e => hn (Or.inr e)⟩⟩
  · rcases hf.1 with e | e
    · exact h1.ap k hk e
    · have := h1.dl k hk
      omega
  · exact hg9.os.trans (ho7.1.trans hb5.os)
  · exact hg9.tape.trans (ho7.2.1.trans hb5.tape)
  · exact hg9.output.trans (ho7.2.2.trans hb5.output)
  · rw [set_size]; omega
end Go.Proofs.YtnkjhooeklodcaaGreatDoor
end

section
/-
  A good disk stays good: Remove, Sync, Cut.
-/
namespace Go.Proofs.YtnkjhooeklodcaaGreatDoor
open Go.RowKit Go.Maps Go.Sort

variable {u : Ud}
theorem totU_set : ∀ (us : Us) (s : Nat) (x : Nm) (f g : List Int × Nat), us[s]? = some (x, f) → totU (us.set s (x, g)) + f.1.length = totU us + g.1.length
  | [], s, _, _, _, h => by simp at h
  | p :: us, 0, x, f, g, h => by
    obtain rfl : p = (x, f) := by simpa using h
    simp [totU]
    omega
  | p :: us, s + 1, x, f, g, h => by
    have ih := totU_set us s x f g (by simpa using h)
    simp only [totU, List.set_cons_succ, List.map_cons, List.sum_cons] at ih ⊢
    omega
theorem totU_dl (x : Nm) : ∀ (us : Us), totU (dlU us x) ≤ totU us
  | [] => by simp [dlU, totU]
  | p :: us => by
    have ih := totU_dl x us
    unfold dlU at ih ⊢
    rw [List.filter_cons]
    split
    · simp only [totU, List.map_cons, List.sum_cons] at ih ⊢
      omega
    · simp only [totU, List.map_cons, List.sum_cons] at ih ⊢
      omega
/-- What must be so of the files behind one of the five. -/
theorem Gd.of (hg : Gd u) (ns : List Nm) (f : Us → Int × Us) (h1 : RisU (f u.us).2) (h2 : totU (f u.us).2 ≤ totU u.us) (h3 : (f u.us).2.length ≤ u.us.length) (h4 : ∀ p ∈ (f u.us).2, p.2.2 ≤ p.2.1.length ∧ (∀ z ∈ p.2.1, 0 ≤ z ∧ z < 256) ∧ p.1.length ≤ maxLen) : Gd (u.five ns f).2 := by
  unfold Ud.five
  split
  · exact hg
  · refine ⟨h1, hg.room, ?_, ?_, Nat.le_trans h3 hg.cnt, h4⟩
    · have := hg.fits
      show ((totU (f u.us).2 : Nat) : Int) ≤ u.room
      omega
    · have := hg.left
      show -1 ≤ (if (f u.us).1 = 0 then didL u.left else u.left) ∧ (if (f u.us).1 = 0 then didL u.left else u.left) < 9223372036854775808
      unfold didL
      split
      · split <;> omega
      · exact this
theorem Gd.remove (hg : Gd u) (x : Nm) : Gd (u.five [x] (rmU x)).2 := by
  refine hg.of [x] (rmU x) ?_ ?_ ?_ ?_
  all_goals
    unfold rmU
    cases hl : lkU u.us x with
    | none => first | exact hg.ris | exact Nat.le_refl _ | exact hg.each
    | some f => first | exact hg.ris.dl x | exact totU_dl x _ | exact List.length_filter_le _ _ | exact fun p hp => hg.each p ((List.mem_filter.1 hp).1)
theorem Gd.sync (hg : Gd u) (x : Nm) : Gd (u.five [x] (syU x)).2 := by
  refine hg.of [x] (syU x) ?_ ?_ ?_ ?_
  all_goals
    unfold syU
    cases hl : lkU u.us x with
    | none => first | exact hg.ris | exact Nat.le_refl _ | exact hg.each
    | some f =>
      obtain ⟨k1, _, k3⟩ := spot_some_of hg.ris hl
      first
        | exact hg.ris.pt x _
        | (show totU (ptU u.us x (f.1, f.1.length)) ≤ _
           rw [k3]
           have := totU_set u.us _ x f (f.1, f.1.length) k1
           simp only at this
           omega)
        | (show (ptU u.us x (f.1, f.1.length)).length ≤ _
           rw [k3]
           simp)
        | (show ∀ p ∈ ptU u.us x (f.1, f.1.length), _
           rw [k3]
           intro p hp
           rcases List.mem_or_eq_of_mem_set hp with h | rfl
           · exact hg.each p h
           · have := hg.each _ (List.mem_of_getElem? k1)
             exact ⟨Nat.le_refl _, this.2⟩)
theorem Gd.cut (hg : Gd u) (x : Nm) (n : Int) : Gd (u.five [x] (cuU x n)).2 := by
  refine hg.of [x] (cuU x n) ?_ ?_ ?_ ?_
  all_goals
    unfold cuU
    cases hl : lkU u.us x with
    | none => first | exact hg.ris | exact Nat.le_refl _ | exact hg.each
    | some f =>
      by_cases hc : n < 0 ∨ (f.1.length : Int) < n
      · simp only [if_pos hc]
        first | exact hg.ris | exact Nat.le_refl _ | exact hg.each
      · simp only [if_neg hc]
        obtain ⟨k1, _, k3⟩ := spot_some_of hg.ris hl
        first
          | exact hg.ris.pt x _
          | (rw [k3]
             have := totU_set u.us _ x f (f.1.take n.toNat, min f.2 n.toNat) k1
             simp only [List.length_take] at this
             omega)
          | (rw [k3]
             simp; done)
          | (rw [k3]
             intro p hp
             rcases List.mem_or_eq_of_mem_set hp with h | rfl
             · exact hg.each p h
             · have := hg.each _ (List.mem_of_getElem? k1)
               refine ⟨?_, fun z hz => this.2.1 z (List.mem_of_mem_take hz), this.2.2⟩
               have h1 := this.1
               simp only [List.length_take]
               omega)
theorem Gd.bytes (hg : Gd u) (x : Nm) : Byt (at0U u.us x).1 := by
  unfold at0U
  cases hl : lkU u.us x with
  | none => exact fun z hz => by cases hz
  | some f =>
    obtain ⟨k1, _, _⟩ := spot_some_of hg.ris hl
    exact (hg.each _ (List.mem_of_getElem? k1)).2.1
end Go.Proofs.YtnkjhooeklodcaaGreatDoor
end

section
/-
  The document's log: a segment that was read ahead of the mending is taken in behind it.
-/
namespace Go.Proofs.YtnkjhooeklodcaaGreatDoor
open Go.RowKit Go.Maps Go.Sort

variable {B wr w7 w9 : World} {D0 F0 D1 F1 : Nat → Prop} {lb wb : Nat} {u : Ud} {pre : List UInt8} {ev sv : Value} {es : List En} {ss : List Nat} {sure : Nat} {dead : Bool}
theorem XRes.segment2 (h1 : Xd wr D1 F1 lb wb u pre es ss sure dead) (j2 : ∀ k, D1 k → D0 k ∨ B.heap.size ≤ k) (j3 : ∀ k, F1 k → F0 k ∨ B.heap.size ≤ k) (j4 : Grows (fun k => D0 k ∨ F0 k) B wr) (hl : Xg wr F1 lb wb pre ev sv es ss sure dead) (n : Nat) (sv' : Value)
    (hl7 : Xg w7 (More F1 wr) lb wb pre ev sv' es (ss ++ [n]) sure dead) (hk7 : ∀ k, k < wr.heap.size → k ≠ lb → sv.ownBlock ≠ some k → w7.heap[k]? = wr.heap[k]?) (hs7 : wr.heap.size ≤ w7.heap.size) (hsv : ∀ k, sv'.ownBlock = some k → sv.ownBlock = some k ∨ wr.heap.size ≤ k) (ho7 : w7.os = wr.os ∧ w7.tape = wr.tape ∧ w7.output = wr.output)
    (rs : List En) (hrs : ∀ r ∈ rs, Bs wr r.1 r.2 ∧ Byt r.2 ∧ r.2.length ≤ 65536 ∧ ∀ k, r.1.ownBlock = some k → B.heap.size ≤ k ∧ ¬ F1 k ∧ ¬ D1 k ∧ k < wr.heap.size)
    (ev' : Value) (hrow9 : w9.ownsRow 0 38 1 ev' (es.length + rs.length) (enOf es ++ enOf rs)) (hg9 : w7.grownBy w9 ev.ownBlock) (hat9 : ev'.ownBlock = ev.ownBlock ∨ ev'.ownBlock = some w7.heap.size) (hf : es.length + rs.length ≤ 10000000) :
    w9.cell? ⟨lb, 2, none⟩ = some ev ∧ w9.frozen? ⟨lb, 2, none⟩ = false ∧ XRes B D0 F0 lb wb pre u (es ++ rs) (ss ++ [n]) sure dead (w9.setCell ⟨lb, 2, none⟩ ev') := by
  have hlb := hl.blk.lt
  have hb9 := hl7.blk.keep (hg9.block lb hl7.blk.lt fun e => (hl7.sep.1 lb e.symm).2.1 rfl)
  have hl8 : Xg w7 (fun k => More F1 wr k ∨ ∃ r ∈ rs, r.1.ownBlock = some k) lb wb pre ev sv' es (ss ++ [n]) sure dead := hl7.more fun k hk => Or.inl hk
  have hl9 := (hl8.addAll rs (fun r hr => by
    obtain ⟨a1, a2, a3, a4⟩ := hrs r hr
    refine ⟨a1.keep fun k hk hlt => ?_, a2, a3, fun k hk => ?_⟩
    · obtain ⟨k1, k2, k3, k4⟩ := a4 k hk
      exact hk7 k k4 (fun e => k2 (by rw [e]; exact hl.lF)) fun e => k2 (hl.sep.2 k e).1
    · obtain ⟨k1, k2, k3, k4⟩ := a4 k hk
      refine ⟨Or.inr ⟨r, hr, hk⟩, fun e => k2 (by rw [e]; exact hl.lF), fun e => k2 (hl.sep.1 k e).1, fun e => ?_, by omega⟩
      rcases hsv k e with e | e
      · exact k2 (hl.sep.2 k e).1
      · omega) w9 ev' hrow9 hg9 hat9 (Or.inl (Or.inr hs7)) hf)
  have hlt9 := hl9.tight
  have hs9 := hg9.size
  have hsB := j4.size
  have hblk : ∀ k, k < wr.heap.size → ¬ F1 k → (w9.setCell ⟨lb, 2, none⟩ ev').heap[k]? = wr.heap[k]? := fun k hk hn => by
    rw [set_other _ _ _ _ _ fun e => hn (by rw [e]; exact hl.lF), hg9.block k (by omega) fun e => hn (hl.sep.1 k e.symm).1, hk7 k hk (fun e => hn (by rw [e]; exact hl.lF)) fun e => hn (hl.sep.2 k e).1]
  refine ⟨hb9.cell 2, hb9.frozen 2, D1, _, ⟨h1.d.keep fun k hk hlt => hblk k hlt (h1.ap k hk), ⟨ev', sv', hlt9⟩, fun k hk => by rw [set_size]; have := h1.dl k hk; omega, fun k hk => hk.2, fun k hk hf => ?_⟩, j2, fun k hk => ?_, ⟨?_, ?_, ?_, ?_, fun k hk hn => ?_⟩⟩
  · rcases hf.1 with (e | e) | ⟨r, hr, e⟩
    · exact h1.ap k hk e
    · have := h1.dl k hk
      omega
    · exact ((hrs r hr).2.2.2 k e).2.2.1 hk
  · rcases hk.1 with (e | e) | ⟨r, hr, e⟩
    · exact j3 k e
    · exact Or.inr (by omega)
    · exact Or.inr ((hrs r hr).2.2.2 k e).1
  · exact hg9.os.trans (ho7.1.trans j4.os)
  · exact hg9.tape.trans (ho7.2.1.trans j4.tape)
  · exact hg9.output.trans (ho7.2.2.trans j4.output)
  · rw [set_size]; omega
  · refine (hblk k (by omega) fun e => ?_).trans (j4.block k hk hn)
    rcases j3 k e with e | e
    · exact hn (Or.inr e)
    · omega
end Go.Proofs.YtnkjhooeklodcaaGreatDoor
end

section
/-
  Entries one behind the other, as bytes (entsN), and what is read of them. Plain facts; no walk.
-/
namespace Go.Proofs.YtnkjhooeklodcaaGreatDoor
open Go.RowKit Go.Maps Go.Sort
open Fr (takeR decN decE decP numR numOf entN)

/-- An entry that may be laid. -/
def Epl (p : List Int) : Prop := Byt p ∧ p.length ≤ 65526
theorem pay_ok {n : Nat} {p : List Int} (hp : Epl p) (hn : n ≤ 10000000) : Fr.Byt (numOf ((n : Int) + 1) ++ p) ∧ (numOf ((n : Int) + 1) ++ p).length ≤ 65536 := by
  have := (Fr.numOf_length ((n : Int) + 1)).2
  have h2 := hp.2
  exact ⟨(Fr.numOf_byt _ (by omega) (by omega)).app hp.1, by rw [List.length_append]; omega⟩
theorem ent_len (n : Nat) (p : List Int) : (entN ((n : Int) + 1) p).length = (numOf ((n : Int) + 1)).length + p.length + 12 := by
  unfold Fr.entN
  rw [Fr.recN_len, List.length_append]
theorem ent_byt {n : Nat} {p : List Int} (hp : Epl p) (hn : n ≤ 10000000) : Byt (entN ((n : Int) + 1) p) := Fr.recN_byt (pay_ok hp hn).1
theorem ent_le (n : Nat) (p : List Int) : 13 ≤ (entN ((n : Int) + 1) p).length ∧ (entN ((n : Int) + 1) p).length ≤ p.length + 22 := by
  have := Fr.numOf_length ((n : Int) + 1)
  rw [ent_len]
  omega
theorem ent_read {n : Nat} {p : List Int} (r : List Int) (hp : Epl p) (hn : n ≤ 10000000) : takeR ((n : Int) + 1) (entN ((n : Int) + 1) p ++ r) = some p ∧ decN (entN ((n : Int) + 1) p ++ r) = (entN ((n : Int) + 1) p).length := by
  obtain ⟨h1, h2⟩ := pay_ok hp hn
  obtain ⟨e1, e2, e3⟩ := Fr.dec_rec _ r h1 h2
  have hr := Fr.numR_numOf ((n : Int) + 1) p (by omega) (by omega)
  refine ⟨?_, ?_⟩
  · unfold Fr.takeR Fr.entN
    rw [e1, e2, hr]
    simp
  · unfold Fr.entN
    rw [e3, Fr.recN_len]
theorem takeR_nil (n : Int) : takeR n [] = none := by
  unfold Fr.takeR
  rw [if_neg]
  intro h
  have := Fr.decE_nil
  omega
theorem ent_cut {n m : Nat} {p : List Int} (hp : Epl p) (hm : m ≤ 10000000) (k : Nat) (hk : k < (entN ((m : Int) + 1) p).length) : takeR ((n : Int) + 1) ((entN ((m : Int) + 1) p).take k) = none := by
  unfold Fr.takeR
  rw [if_neg]
  intro h
  exact Fr.dec_cut _ (pay_ok hp hm).2 k hk h.1
/-- Entries from number n + 1 on, as bytes. -/
def entsN : Nat → List (List Int) → List Int
  | _, [] => []
  | n, p :: ps => entN ((n : Int) + 1) p ++ entsN (n + 1) ps
theorem entsN_append : ∀ (ps qs : List (List Int)) (n : Nat), entsN n (ps ++ qs) = entsN n ps ++ entsN (n + ps.length) qs
  | [], qs, n => rfl
  | p :: ps, qs, n => by
    simp only [List.cons_append, entsN, entsN_append ps qs (n + 1), List.append_assoc, List.length_cons]
    rw [show n + 1 + ps.length = n + (ps.length + 1) by omega]
theorem entsN_one (n : Nat) (p : List Int) : entsN n [p] = entN ((n : Int) + 1) p := by simp [entsN]
theorem entsN_byt : ∀ (ps : List (List Int)) (n : Nat), (∀ p ∈ ps, Epl p) → n + ps.length ≤ 10000000 → Byt (entsN n ps)
  | [], _, _, _ => fun z hz => by cases hz
  | p :: ps, n, h, hn => by
    simp only [List.length_cons] at hn
    exact Fr.Byt.app (ent_byt (h p (by simp)) (by omega)) (entsN_byt ps (n + 1) (fun q hq => h q (List.mem_cons_of_mem _ hq)) (by omega))
theorem Tk.ents : ∀ (ps : List (List Int)) (n : Nat) (r : List Int), (∀ p ∈ ps, Epl p) → n + ps.length ≤ 10000000 → Tk n (entsN n ps ++ r) ps (entsN n ps).length
  | [], _, _, _, _ => rfl
  | p :: ps, n, r, h, hn => by
    simp only [List.length_cons] at hn
    simp only [entsN, List.append_assoc]
    obtain ⟨e1, e2⟩ := ent_read (entsN (n + 1) ps ++ r) (h p (by simp)) (show n ≤ 10000000 by omega)
    refine ⟨e1, by rw [e2, List.length_append]; omega, ?_⟩
    rw [e2, List.drop_left, List.length_append, Nat.add_sub_cancel_left]
    exact Tk.ents ps (n + 1) r (fun q hq => h q (List.mem_cons_of_mem _ hq)) (by omega)
/-- What is read of entries behind which there is none. -/
theorem rdF_ents (ps : List (List Int)) (n : Nat) (r : List Int) (h : ∀ p ∈ ps, Epl p) (hn : n + ps.length ≤ 10000000) (hr : takeR (((n + ps.length : Nat) : Int) + 1) r = none) : rdF n (entsN n ps ++ r) = (ps, (entsN n ps).length) := by
  refine rdF_eq (Tk.ents ps n r h hn) ?_
  rw [List.drop_left]
  exact hr
theorem rdF_whole (ps : List (List Int)) (n : Nat) (h : ∀ p ∈ ps, Epl p) (hn : n + ps.length ≤ 10000000) : rdF n (entsN n ps) = (ps, (entsN n ps).length) := by
  have := rdF_ents ps n [] h hn (takeR_nil _)
  rwa [List.append_nil] at this
end Go.Proofs.YtnkjhooeklodcaaGreatDoor
end
