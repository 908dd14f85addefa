/-
  NetPlays: the script; each step's calls on both sides, whatever stands there.
-/
import Derived.Test.YtnfmhcljncdkgaaNetTwo
import Derived.Test.YtnfmhcljncdkgaaNetMsgs
import Derived.Test.YtnfmhcljncdkgaaNetSame
import Derived.Test.YtnfmhcljncdkgaaArgIn
import Derived.Test.YtnfmhcljncdkgaaNetSpoil
namespace Go.Proofs.Ytnfmhcljncdkgaa
open Go.RowKit
/-- The picked one on both sides. -/
theorem pk_both {L : List Mg} {E : List De} (h : Tm L E) (hL : L ≠ []) (pick : Int) : ∃ A e C, E = A ++ e :: C ∧ pkN pick (A ++ e :: C).length = A.length ∧ giveM L pick = some e.m ∧ giveN L pick = msD (A ++ C) ∧ twiceN L pick = sendN (msD (A ++ e :: C)) e.m ∧ lateN L pick = msD (A ++ C ++ [e]) ∧ e.m ∈ L := by
  obtain ⟨A, m, C, hLe, hAl, hgm, hgn⟩ := give_cut hL pick
  have h' := h
  rw [hLe] at h'
  obtain ⟨A', e, C', rfl, h1, h2, h3, h4⟩ := h'.cut
  have hms : msD (A' ++ C') = A ++ C := by simp only [msD, List.map_append]; exact congr (congrArg _ h1) h3
  refine ⟨A', e, C', rfl, ?_, by rw [h2]; exact hgm, by rw [hms]; exact hgn, ?_, ?_, by rw [h2, hLe]; simp⟩
  · rw [h.len, h4, hAl]
  · unfold twiceN
    rw [hgm, h.e, h2]
  · unfold lateN
    rw [hgm, hgn]
    show A ++ C ++ [m] = _
    rw [show msD (A' ++ C' ++ [e]) = msD (A' ++ C') ++ [e.m] by simp [msD], hms, h2]
theorem give_sub {L : List Mg} (pick : Int) : ∀ m ∈ giveN L pick, m ∈ L := fun _ hm => (List.eraseIdx_sublist L _).subset hm
theorem send_sub {L : List Mg} {m0 : Mg} (h0 : m0 ∈ L) : ∀ m ∈ sendN L m0, m ∈ L := fun m hm => by
  unfold sendN at hm
  split at hm
  · exact hm
  · rcases List.mem_append.1 hm with h | h
    · exact h
    · obtain rfl : m = m0 := by simpa using h
      exact h0
theorem twice_sub {L : List Mg} (pick : Int) : ∀ m ∈ twiceN L pick, m ∈ L := fun m hm => by
  unfold twiceN at hm
  cases h : giveM L pick with
  | none => rw [h] at hm; exact hm
  | some x =>
    rw [h] at hm
    exact send_sub (List.mem_of_getElem? h) m hm
theorem late_sub {L : List Mg} (pick : Int) : ∀ m ∈ lateN L pick, m ∈ L := fun m hm => by
  unfold lateN at hm
  cases h : giveM L pick with
  | none => rw [h] at hm; exact hm
  | some x =>
    rw [h] at hm
    rcases List.mem_append.1 hm with h1 | h1
    · exact give_sub pick m h1
    · obtain rfl : m = x := by simpa using h1
      exact List.mem_of_getElem? h
theorem drop_sub {L : List Mg} (node : Int) : ∀ m ∈ dropN L node, m ∈ L := fun _ hm => (drop_mem.1 hm).1
/-- A script that came in. -/
structure Sk (W : World) (l : List Si) (n : Nat) (a : Option Addr) (cap : Nat) : Prop where
  r : Ax.Rw W 5 Si.cells a n cap l
  ok : ∀ s ∈ l, s.m.r.ok W
/-- A step of it, in whatever world that came of the first. -/
theorem Sk.at {W0 : World} {l : List Si} {n cap i : Nat} {a : Option Addr} (h : Sk W0 l n a cap) (hi : i < n) : ∃ s g off ao c, l[i]? = some s ∧ a = some ⟨g, off, none⟩ ∧ s.m.r.v = .slice ao s.m.r.zs.length c ∧ (∀ z ∈ s.m.r.zs, 0 ≤ z ∧ z < 256) ∧ s.m.r.zs.length ≤ 140737488355328 ∧
    ∀ W, Below W0.heap.size W0 W → (W.cell? ⟨g, off + i * 5, none⟩ = some (.int .i64 s.k) ∧ W.cell? ⟨g, off + i * 5 + 1, none⟩ = some (.int .i64 s.n) ∧ W.cell? ⟨g, off + i * 5 + 2, none⟩ = some (.int .i64 s.m.fr) ∧ W.cell? ⟨g, off + i * 5 + 3, none⟩ = some (.int .i64 s.m.to) ∧ W.cell? ⟨g, off + i * 5 + 4, none⟩ = some (.slice ao s.m.r.zs.length c)) ∧ Bs W (.slice ao s.m.r.zs.length c) s.m.r.zs := by
  have hl := h.r.len
  obtain ⟨s, hs⟩ : ∃ s, l[i]? = some s := ⟨_, List.getElem?_eq_getElem (by omega)⟩
  obtain ⟨hbs, hby, hle⟩ := h.ok s (List.mem_of_getElem? hs)
  obtain ⟨ao, c, hv, _⟩ := hbs.len
  obtain ⟨g, off, ha, hc0⟩ := h.r.at' i s hs
  refine ⟨s, g, off, ao, c, hs, ha, hv, hby, hle, fun W hb => ?_⟩
  obtain ⟨g', off', ha', hc⟩ := (h.r.below hb (Nat.le_refl _)).at' i s hs
  rw [ha] at ha'
  simp only [Option.some.injEq, Addr.mk.injEq, and_true] at ha'
  obtain ⟨rfl, rfl⟩ := ha'
  rw [← hv]
  exact ⟨⟨hc 0 _ rfl, hc 1 _ rfl, hc 2 _ rfl, hc 3 _ rfl, hc 4 _ rfl⟩, hbs.below hb (Nat.le_refl _)⟩

section
variable {w0 w w' : World} {nb rb : Nat} {L : List Mg} {E : List De} {S : Nat → Prop}
/-- New blocks alone. -/
theorem Tw.over (h : Tw w0 w nb rb L E S) (hb : Below w.heap.size w w') : Tw w0 w' nb rb L E S ∧ Kp S w w' := ⟨(h.grow hb).1.less fun _ hk => Or.inl hk, (h.grow hb).2⟩
theorem Kp.trans {a b c : World} (h : Kp S a b) (k : Kp S b c) : Kp S a c := fun j hj => (k j hj).trans (h j hj)
theorem Kp.less {S' : Nat → Prop} {a b : World} (h : Kp S a b) (hs : ∀ k, S' k → S k) : Kp S' a b := fun j hj => h j (hs j hj)
theorem two_twice (h : Tw w0 w nb rb L E S) (pick : Int) : Calls Try.prog 18 #[.pointer (some ⟨nb, 0, none⟩), .int .i64 pick] w fun e w' => e = .returned (.bool (twiceB L)) ∧ Tw w0 w' nb rb (twiceN L pick) E S ∧ Kp S w w' := by
  by_cases hL : L = []
  · subst hL
    refine (twice_off (fun W hb => tw_len (h.over hb).1) pick).mono ?_
    rintro e w' ⟨rfl, hb⟩
    exact ⟨rfl, h.over hb⟩
  · refine (tw_twice h hL pick).mono ?_
    rintro e w' ⟨rfl, ht⟩
    exact ⟨by unfold twiceB; rw [decide_eq_true hL]; rfl, ht⟩
theorem two_rtwice {L' : List Mg} (h : Tw w0 w nb rb L' E S) (M : Tm L E) (pick : Int) : Calls Try.prog 19 #[.pointer (some ⟨rb, 0, none⟩), .int .i64 pick] w fun e w' => e = .returned (.bool (twiceB L)) ∧ ∃ E', Tm (twiceN L pick) E' ∧ Tw w0 w' nb rb L' E' S ∧ Kp S w w' := by
  by_cases hL : L = []
  · subst hL
    obtain rfl := M.nil
    refine (tw_rtwice_no h pick).mono ?_
    rintro e w' ⟨rfl, rfl⟩
    exact ⟨rfl, [], M, h, fun _ _ => rfl⟩
  · obtain ⟨A, e, C, rfl, hp, _, _, ht, _, hm⟩ := pk_both M hL pick
    refine (tw_rtwice h pick hp (by have := (M.g _ hm).2; omega)).mono ?_
    rintro r w' ⟨rfl, E', hE, ht2⟩
    refine ⟨by unfold twiceB; rw [decide_eq_true hL, M.e]; rfl, E', M.sub (hE.trans ht.symm) (twice_sub pick), ht2⟩
theorem two_late (h : Tw w0 w nb rb L E S) (pick : Int) : Calls Try.prog 20 #[.pointer (some ⟨nb, 0, none⟩), .int .i64 pick] w fun e w' => e = .returned (.bool (decide (L ≠ []))) ∧ Tw w0 w' nb rb (lateN L pick) E S ∧ Kp S w w' := by
  by_cases hL : L = []
  · subst hL
    refine (late_off (fun W hb => tw_len (h.over hb).1) pick).mono ?_
    rintro e w' ⟨rfl, hb⟩
    exact ⟨rfl, h.over hb⟩
  · refine (tw_late h hL pick).mono ?_
    rintro e w' ⟨rfl, ht⟩
    exact ⟨by rw [decide_eq_true hL], ht⟩
theorem two_rlate {L' : List Mg} (h : Tw w0 w nb rb L' E S) (M : Tm L E) (pick : Int) : Calls Try.prog 21 #[.pointer (some ⟨rb, 0, none⟩), .int .i64 pick] w fun e w' => e = .returned (.bool (decide (L ≠ []))) ∧ ∃ E', Tm (lateN L pick) E' ∧ Tw w0 w' nb rb L' E' S ∧ Kp S w w' := by
  by_cases hL : L = []
  · subst hL
    obtain rfl := M.nil
    refine (tw_rlate_no h pick).mono ?_
    rintro e w' ⟨rfl, hb⟩
    exact ⟨rfl, [], M, h.over hb⟩
  · obtain ⟨A, e, C, rfl, hp, _, _, _, hl, hm⟩ := pk_both M hL pick
    refine (tw_rlate h pick hp).mono ?_
    rintro r w' ⟨rfl, ht2⟩
    exact ⟨by rw [decide_eq_true hL], _, M.sub hl.symm (late_sub pick), ht2⟩
theorem two_rdrop {L' : List Mg} (h : Tw w0 w nb rb L' E S) (M : Tm L E) (node : Int) : Calls Try.prog 23 #[.pointer (some ⟨rb, 0, none⟩), .int .i64 node] w fun e w' => e = .returned (.int .i64 ((L.length : Int) - ((dropN L node).length : Int))) ∧ ∃ E', Tm (dropN L node) E' ∧ Tw w0 w' nb rb L' E' S ∧ Kp S w w' := by
  refine (tw_rdrop h node).mono ?_
  rintro r w' ⟨rfl, ht2⟩
  have hk : msD (keepD node E) = dropN L node := by rw [keepD_ms, M.e]
  exact ⟨by rw [← hk, msD_len, M.len], _, M.sub hk (drop_sub node), ht2⟩
theorem two_rsend {L' : List Mg} (h : Tw w0 w nb rb L' E S) (M : Tm L E) (m : Mg) {s : Value} (hs : Bs w s m.d) (hby : ∀ z ∈ m.d, 0 ≤ z ∧ z < 256) (hz : m.d.length ≤ 5000) : Calls Try.prog 12 #[.pointer (some ⟨rb, 0, none⟩), .agg #[.int .i64 m.fr, .int .i64 m.to, s]] w fun e w' => e = .returned (.bool (sendB L)) ∧ ∃ E', Tm (sendN L m) E' ∧ Tw w0 w' nb rb L' E' S ∧ Kp S w w' := by
  refine (tw_rsend h m hs (by omega)).mono ?_
  rintro r w' ⟨rfl, E', hE, ht, hk, _⟩
  refine ⟨by rw [M.e], E', ⟨by rw [hE, M.e], fun x hx => ?_⟩, ht, hk⟩
  unfold sendN at hx
  split at hx
  · exact M.g x hx
  · rcases List.mem_append.1 hx with h1 | h1
    · exact M.g x h1
    · obtain rfl : x = m := by simpa using h1
      exact ⟨hby, hz⟩
/-- What Give says. -/
def gvT (L : List Mg) (pick : Int) : Mg := (giveM L pick).getD ⟨0, 0, []⟩
/-- Bytes that the law may spoil. -/
def Sp (w : World) (base : Nat) (v : Value) (zs : List Int) : Prop := (Of w base v zs ∧ zs.length ≤ 5000) ∨ (v = .slice none 0 0 ∧ zs = [])
theorem Sp.bs {base : Nat} {v : Value} {zs : List Int} (h : Sp w base v zs) : Bs w v zs := by
  rcases h with ⟨h, _⟩ | ⟨rfl, rfl⟩
  · exact h.bs
  · exact bs_nil w
theorem Sp.keep {base : Nat} {v : Value} {zs : List Int} (h : Sp w base v zs) (hk : ∀ k, v.ownBlock = some k → w'.heap[k]? = w.heap[k]?) : Sp w' base v zs := by
  rcases h with ⟨h, hz⟩ | h
  · exact Or.inl ⟨h.keep hk, hz⟩
  · exact Or.inr h
theorem Sp.lo {base : Nat} {v : Value} {zs : List Int} (h : Sp w base v zs) : ∀ k, v.ownBlock = some k → base ≤ k := fun k hk => by
  rcases h with ⟨h, _⟩ | ⟨rfl, _⟩
  · exact (h.lt k hk).1
  · cases hk
theorem sp_spoil {base : Nat} {v : Value} {zs : List Int} (h : Sp w base v zs) (hB : base ≤ w.heap.size) : Calls Try.prog 14 #[v] w fun e w' => e = .returned (.tuple #[]) ∧ w.grownBy w' v.ownBlock := by
  rcases h with ⟨h, hz⟩ | ⟨rfl, rfl⟩
  · exact spoil_of h (by omega)
  · exact spoil_any base _ [] w (World.ownsRow_nil _ _ _ _) hB (by simp)
theorem two_give (h : Tw w0 w nb rb L E S) (M : Tm L E) (pick : Int) : Calls Try.prog 15 #[.pointer (some ⟨nb, 0, none⟩), .int .i64 pick] w fun e w' => ∃ ao n c, e = .returned (.tuple #[.agg #[.int .i64 (gvT L pick).fr, .int .i64 (gvT L pick).to, .slice ao n c], .bool (decide (L ≠ []))]) ∧
    Tw w0 w' nb rb (giveN L pick) E (fun k => S k ∨ (Value.slice ao n c).ownBlock = some k) ∧ Kp S w w' ∧ Sp w' w.heap.size (.slice ao n c) (gvT L pick).d ∧ w.heap.size ≤ w'.heap.size := by
  by_cases hL : L = []
  · subst hL
    refine (tw_give_no h pick).mono ?_
    rintro e w' ⟨rfl, hb⟩
    obtain ⟨h1, h2⟩ := h.over hb
    exact ⟨none, 0, 0, rfl, h1.less (fun k hk => by rcases hk with hk | hk; exact hk; cases hk), h2, Or.inr ⟨rfl, rfl⟩, hb.size⟩
  · refine (tw_give h hL M.gd pick).mono ?_
    rintro e w' ⟨m, ao, n, c, hm, rfl, ht, hk, hof⟩
    have hg : gvT L pick = m := by unfold gvT; rw [hm]; rfl
    rw [hg]
    refine ⟨ao, n, c, by rw [decide_eq_true hL], ht, hk, Or.inl ⟨hof, (M.g m (List.mem_of_getElem? hm)).2⟩, ?_⟩
    obtain ⟨g, cap, cur, k, hv, hb, hg2, _⟩ := hof
    have := (Array.getElem?_eq_some_iff.1 hg2).1
    omega
theorem two_rgive {L' : List Mg} (h : Tw w0 w nb rb L' E S) (M : Tm L E) (pick : Int) : Calls Try.prog 16 #[.pointer (some ⟨rb, 0, none⟩), .int .i64 pick] w fun e w' => ∃ ao n c, e = .returned (.tuple #[.agg #[.int .i64 (gvT L pick).fr, .int .i64 (gvT L pick).to, .slice ao n c], .bool (decide (L ≠ []))]) ∧
    ∃ E', Tm (giveN L pick) E' ∧ Tw w0 w' nb rb L' E' S ∧ Kp S w w' ∧ Bs w' (.slice ao n c) (gvT L pick).d ∧ w.heap.size ≤ w'.heap.size := by
  by_cases hL : L = []
  · subst hL
    obtain rfl := M.nil
    refine (tw_rgive_no h pick).mono ?_
    rintro e w' ⟨rfl, hb⟩
    obtain ⟨h1, h2⟩ := h.over hb
    exact ⟨none, 0, 0, rfl, [], M, h1, h2, bs_nil _, hb.size⟩
  · obtain ⟨A, e, C, rfl, hp, hgm, hgn, _, _, hm⟩ := pk_both M hL pick
    refine (tw_rgive h pick hp).mono ?_
    rintro r w' ⟨rfl, ht, hk, hbs, hs⟩
    have hg : gvT L pick = e.m := by unfold gvT; rw [hgm]; rfl
    rw [hg]
    exact ⟨e.ao, e.n, e.c, by rw [decide_eq_true hL], _, M.sub hgn.symm (give_sub pick), ht, hk, hbs, hs⟩
/-- The law's beginning: an empty Net on both sides. -/
theorem two_new (w : World) : Calls Try.prog 9 #[] w fun e w' => ∃ nb, e = .returned (.pointer (some ⟨nb, 0, none⟩)) ∧ Hid (Tw w (w'.alloc (.cells #[.slice none 0 0] 33)) nb w'.heap.size [] [] (fun _ => False)) := by
  refine (new_any w).mono ?_
  rintro e w' ⟨nb, rfl, hn, hb⟩
  have hd : Dp (w'.alloc (.cells #[.slice none 0 0] 33)) w.heap.size w'.heap.size (.slice none 0 0) [] := ⟨Cw.new w' [_] 33, Ax.Ro.nil _ _, hb.size, by simp [Value.ownBlock], fun e he => (by cases he), (by simp)⟩
  refine ⟨nb, rfl, ⟨_, _, hn.alloc _, hd, fun k hk hD => ?_, fun k hk => hk.elim⟩, hb.alloc hb.size _, fun k hk => hk.elim⟩
  have h1 := hn.hi k hk
  rcases hD with (rfl | hD) | ⟨e, he, _⟩
  · omega
  · cases hD
  · cases he
end
end Go.Proofs.Ytnfmhcljncdkgaa
