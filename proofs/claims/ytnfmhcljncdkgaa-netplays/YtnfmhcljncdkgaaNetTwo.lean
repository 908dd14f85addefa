/-
  Both Nets side by side (Tw), and what each call leaves of them.
-/
import Derived.Test.YtnfmhcljncdkgaaNetDocT
import Derived.Test.YtnfmhcljncdkgaaNetDocD
import Derived.Test.YtnfmhcljncdkgaaNetDropA
namespace Go.Proofs.Ytnfmhcljncdkgaa
open Go.RowKit
/-- The blocks of S are as they were. -/
def Kp (S : Nat → Prop) (w w' : World) : Prop := ∀ k, S k → w'.heap[k]? = w.heap[k]?
/-- Both Nets, apart from each other and from the blocks of S. -/
structure Tw (w0 w : World) (nb rb : Nat) (L : List Mg) (E : List De) (S : Nat → Prop) : Prop where
  ex : ∃ v u, Np w w0.heap.size nb v L ∧ Dp w w0.heap.size rb u E ∧ (∀ k, Nf nb v k → ¬ Df rb u E k) ∧ ∀ k, S k → ¬ Nf nb v k ∧ ¬ Df rb u E k
  b : Below w0.heap.size w0 w
  s : ∀ k, S k → k < w.heap.size
/-- What the law keeps besides: they say the same, and each is of bytes. -/
structure Tm (L : List Mg) (E : List De) : Prop where
  e : msD E = L
  g : ∀ m ∈ L, (∀ z ∈ m.d, 0 ≤ z ∧ z < 256) ∧ m.d.length ≤ 5000
section
variable {w0 w w' : World} {nb rb : Nat} {L : List Mg} {E : List De} {S : Nat → Prop}
theorem Tw.a {v v' u : Value} {L' : List Mg} (h : Tw w0 w nb rb L E S) (hn : Np w w0.heap.size nb v L) (hd : Dp w w0.heap.size rb u E) (hdis : ∀ k, Nf nb v k → ¬ Df rb u E k) (hS : ∀ k, S k → ¬ Nf nb v k ∧ ¬ Df rb u E k) (hx : Nx w w' w0.heap.size nb v v' L') : Tw w0 w' nb rb L' E S ∧ Kp S w w' := by
  have hnew : ∀ k, Nf nb v' k → Nf nb v k ∨ w.heap.size ≤ k := fun k hk => by
    rcases hk with rfl | hk
    · exact Or.inl (Or.inl rfl)
    · rcases hx.o k hk with h1 | h1
      · exact Or.inl (Or.inr h1)
      · exact Or.inr h1
  refine ⟨⟨⟨v', u, hx.n, hd.keep (fun k hk => hx.g.block k (hd.hi k hk) fun h1 => hdis k h1 hk) hx.g.size, fun k hk hD => ?_, fun k hk => ⟨fun h1 => ?_, (hS k hk).2⟩⟩, h.b.trans (hx.belowB h.b.size hn.lo), fun k hk => Nat.lt_of_lt_of_le (h.s k hk) hx.g.size⟩, fun k hk => hx.g.block k (h.s k hk) (hS k hk).1⟩
  · rcases hnew k hk with h1 | h1
    · exact hdis k h1 hD
    · have := hd.hi k hD; omega
  · rcases hnew k h1 with h2 | h2
    · exact (hS k hk).1 h2
    · have := h.s k hk; omega
theorem Tw.d {v u u' : Value} {E' : List De} (h : Tw w0 w nb rb L E S) (hn : Np w w0.heap.size nb v L) (hd : Dp w w0.heap.size rb u E) (hdis : ∀ k, Nf nb v k → ¬ Df rb u E k) (hS : ∀ k, S k → ¬ Nf nb v k ∧ ¬ Df rb u E k) (hx : Dx w w' w0.heap.size rb u u' E E') : Tw w0 w' nb rb L E' S ∧ Kp S w w' := by
  have hnew : ∀ k, Df rb u' E' k → Df rb u E k ∨ w.heap.size ≤ k := fun k hk => by
    rcases hk with (rfl | hk) | ⟨e, he, hk⟩
    · exact Or.inl (Or.inl (Or.inl rfl))
    · rcases hx.o k hk with h1 | h1
      · exact Or.inl (Or.inl (Or.inr h1))
      · exact Or.inr h1
    · rcases hx.od e he with h1 | h1
      · exact Or.inl (Or.inr ⟨e, h1, hk⟩)
      · exact Or.inr (h1 k hk)
  refine ⟨⟨⟨v, u', hn.keep fun k hk => hx.g.block k (hn.hi k hk) fun h1 => hdis k hk (Or.inl h1), hx.n, fun k hk hD => ?_, fun k hk => ⟨(hS k hk).1, fun h1 => ?_⟩⟩, h.b.trans (hx.below hd h.b.size), fun k hk => Nat.lt_of_lt_of_le (h.s k hk) hx.g.size⟩, fun k hk => hx.g.block k (h.s k hk) fun h1 => (hS k hk).2 (Or.inl h1)⟩
  · rcases hnew k hD with h1 | h1
    · exact hdis k hk h1
    · have := hn.hi k hk; omega
  · rcases hnew k h1 with h2 | h2
    · exact (hS k hk).2 h2
    · have := h.s k hk; omega
/-- New blocks, that are apart from both. -/
theorem Tw.grow (h : Tw w0 w nb rb L E S) (hb : Below w.heap.size w w') : Tw w0 w' nb rb L E (fun k => S k ∨ (w.heap.size ≤ k ∧ k < w'.heap.size)) ∧ Kp S w w' := by
  obtain ⟨v, u, hn, hd, hdis, hS⟩ := h.ex
  refine ⟨⟨⟨v, u, hn.below hb, hd.below hb, hdis, fun k hk => ?_⟩, h.b.trans (hb.mono h.b.size), fun k hk => ?_⟩, fun k hk => hb.block k (h.s k hk)⟩
  · rcases hk with hk | hk
    · exact hS k hk
    · exact ⟨fun h1 => by have := hn.hi k h1; omega, fun h1 => by have := hd.hi k h1; omega⟩
  · rcases hk with hk | hk
    · exact Nat.lt_of_lt_of_le (h.s k hk) hb.size
    · exact hk.2
theorem Tw.less {S' : Nat → Prop} (h : Tw w0 w nb rb L E S) (hs : ∀ k, S' k → S k) : Tw w0 w nb rb L E S' := by
  obtain ⟨v, u, hn, hd, hdis, hS⟩ := h.ex
  exact ⟨⟨v, u, hn, hd, hdis, fun k hk => hS k (hs k hk)⟩, h.b, fun k hk => h.s k (hs k hk)⟩
theorem Tw.drewN (h : Tw w0 w nb rb L E S) (n : Nat) : Tw w0 (w.drewN n) nb rb L E S := by
  obtain ⟨v, u, hn, hd, hdis, hS⟩ := h.ex
  exact ⟨⟨v, u, hn.keep fun _ _ => rfl, hd.keep (fun _ _ => rfl) (Nat.le_refl _), hdis, hS⟩, h.b.trans ((Sm.drewN w n).below _), h.s⟩
/-- A block of S may change. -/
theorem Tw.loc {r : Option Nat} (h : Tw w0 w nb rb L E S) (hg : w.grownBy w' r) (hr : ∀ k, r = some k → S k ∧ w0.heap.size ≤ k) : Tw w0 w' nb rb L E S := by
  obtain ⟨v, u, hn, hd, hdis, hS⟩ := h.ex
  refine ⟨⟨v, u, hn.keep fun k hk => hg.block k (hn.hi k hk) fun e => (hS k (hr k e.symm).1).1 hk, hd.keep (fun k hk => hg.block k (hd.hi k hk) fun e => (hS k (hr k e.symm).1).2 hk) hg.size, hdis, hS⟩, Ax.grown_below hg h.b h.b.size fun k hk => (hr k hk).2, fun k hk => Nat.lt_of_lt_of_le (h.s k hk) hg.size⟩
theorem Tm.len (h : Tm L E) : E.length = L.length := by rw [← h.e, msD_len]
theorem Tm.nil (h : Tm [] E) : E = [] := List.eq_nil_of_length_eq_zero (by rw [h.len]; rfl)
theorem Tm.cut {A C : List Mg} {m : Mg} (h : Tm (A ++ m :: C) E) : ∃ A' e C', E = A' ++ e :: C' ∧ msD A' = A ∧ e.m = m ∧ msD C' = C ∧ A'.length = A.length := by
  have he := h.e
  obtain ⟨A', X, rfl, h1, h2⟩ := List.map_eq_append_iff.1 he
  obtain ⟨e, C', rfl, h3, h4⟩ := List.map_eq_cons_iff.1 h2
  exact ⟨A', e, C', rfl, h1, h3, h4, by rw [← h1, List.length_map]⟩
theorem Tm.sub {L' : List Mg} {E' : List De} (h : Tm L E) (he : msD E' = L') (hs : ∀ m ∈ L', m ∈ L) : Tm L' E' := ⟨he, fun m hm => h.g m (hs m hm)⟩
theorem Tm.gd (h : Tm L E) : ∀ m ∈ L, Gd m := fun m hm => ⟨(h.g m hm).1, by have := (h.g m hm).2; unfold maxLen; omega⟩
theorem tw_len (h : Tw w0 w nb rb L E S) : Calls Try.prog 24 #[.pointer (some ⟨nb, 0, none⟩)] w fun e w' => e = .returned (.int .i64 (L.length : Int)) ∧ w' = w := by
  obtain ⟨v, u, hn, _⟩ := h.ex
  exact len_any hn
theorem tw_row (h : Tw w0 w nb rb L E S) : ∃ ao c, w.cell? ⟨rb, 0, none⟩ = some (.slice ao E.length c) := by
  obtain ⟨v, u, hn, hd, _⟩ := h.ex
  obtain ⟨ao, c, hu, _⟩ := Ax.Ro.form hd.r
  exact ⟨ao, c, by rw [← hu]; exact hd.slot⟩
theorem tw_nrow (h : Tw w0 w nb rb L E S) : ∃ ao c, w.cell? ⟨nb, 0, none⟩ = some (.slice ao L.length c) := by
  obtain ⟨v, u, hn, hd, _⟩ := h.ex
  obtain ⟨ao, c, hv⟩ := Rm.form hn.r
  exact ⟨ao, c, by rw [← hv]; exact hn.slot⟩
theorem tw_send (h : Tw w0 w nb rb L E S) (m : Mg) {s : Value} (hs : Bs w s m.d) : Calls Try.prog 11 #[.pointer (some ⟨nb, 0, none⟩), .agg #[.int .i64 m.fr, .int .i64 m.to, s]] w fun e w' => e = .returned (.bool (sendB L)) ∧ Tw w0 w' nb rb (sendN L m) E S ∧ Kp S w w' ∧ w.heap.size ≤ w'.heap.size := by
  obtain ⟨v, u, hn, hd, hdis, hS⟩ := h.ex
  refine (send_any hn h.b.size m hs).mono ?_
  rintro e w' ⟨rfl, v', hx⟩
  exact ⟨rfl, (h.a hn hd hdis hS hx).1, (h.a hn hd hdis hS hx).2, hx.g.size⟩
theorem tw_rsend (h : Tw w0 w nb rb L E S) (m : Mg) {s : Value} (hs : Bs w s m.d) (hz : m.d.length ≤ 100000000000000) : Calls Try.prog 12 #[.pointer (some ⟨rb, 0, none⟩), .agg #[.int .i64 m.fr, .int .i64 m.to, s]] w fun e w' => e = .returned (.bool (sendB (msD E))) ∧ ∃ E', msD E' = sendN (msD E) m ∧ Tw w0 w' nb rb L E' S ∧ Kp S w w' ∧ w.heap.size ≤ w'.heap.size := by
  obtain ⟨v, u, hn, hd, hdis, hS⟩ := h.ex
  refine (rsend_any hd h.b.size m hs hz).mono ?_
  rintro e w' ⟨rfl, u', E', hx, hm⟩
  exact ⟨rfl, E', hm, (h.d hn hd hdis hS hx).1, (h.d hn hd hdis hS hx).2, hx.g.size⟩
theorem tw_give (h : Tw w0 w nb rb L E S) (hL : L ≠ []) (hg : ∀ m ∈ L, Gd m) (pick : Int) : Calls Try.prog 15 #[.pointer (some ⟨nb, 0, none⟩), .int .i64 pick] w fun e w' => ∃ m ao n c, giveM L pick = some m ∧ e = .returned (.tuple #[.agg #[.int .i64 m.fr, .int .i64 m.to, .slice ao n c], .bool true]) ∧
    Tw w0 w' nb rb (giveN L pick) E (fun k => S k ∨ (Value.slice ao n c).ownBlock = some k) ∧ Kp S w w' ∧ Of w' w.heap.size (.slice ao n c) m.d := by
  obtain ⟨v, u, hn, hd, hdis, hS⟩ := h.ex
  refine (give_any hn hL hg pick).mono ?_
  rintro e w' ⟨m, v', ao, n, c, hm, rfl, hx, hof, hne⟩
  obtain ⟨h1, h2⟩ := h.a hn hd hdis hS hx
  refine ⟨m, ao, n, c, hm, rfl, ⟨?_, h1.b, fun k hk => ?_⟩, h2, hof⟩
  · refine ⟨v', u, hx.n, hd.keep (fun k hk => hx.g.block k (hd.hi k hk) fun h1 => hdis k h1 hk) hx.g.size, fun k hk hD => ?_, fun k hk => ?_⟩
    · rcases hk with rfl | hk
      · exact hdis _ (Or.inl rfl) hD
      · rcases hx.o k hk with h3 | h3
        · exact hdis k (Or.inr h3) hD
        · have := hd.hi k hD; omega
    · rcases hk with hk | hk
      · refine ⟨fun h3 => ?_, (hS k hk).2⟩
        rcases h3 with rfl | h3
        · exact (hS _ hk).1 (Or.inl rfl)
        · rcases hx.o k h3 with h4 | h4
          · exact (hS k hk).1 (Or.inr h4)
          · have := h.s k hk; omega
      · exact ⟨hne k hk, fun h3 => by have := hd.hi k h3; have := (hof.lt k hk).1; omega⟩
  · rcases hk with hk | hk
    · exact h1.s k hk
    · exact (hof.lt k hk).2
theorem tw_give_no (h : Tw w0 w nb rb [] E S) (pick : Int) : Calls Try.prog 15 #[.pointer (some ⟨nb, 0, none⟩), .int .i64 pick] w fun e w' => e = .returned (.tuple #[.agg #[.int .i64 0, .int .i64 0, .slice none 0 0], .bool false]) ∧ Below w.heap.size w w' := by
  refine give_off (fun W hb => ?_) ⟨_, rfl⟩ pick
  exact tw_len ((h.grow hb).1)
theorem tw_rgive {A C : List De} {e0 : De} (h : Tw w0 w nb rb L (A ++ e0 :: C) S) (pick : Int) (hp : pkN pick (A ++ e0 :: C).length = A.length) : Calls Try.prog 16 #[.pointer (some ⟨rb, 0, none⟩), .int .i64 pick] w fun e w' => e = .returned (.tuple #[.agg #[.int .i64 e0.m.fr, .int .i64 e0.m.to, .slice e0.ao e0.n e0.c], .bool true]) ∧ Tw w0 w' nb rb L (A ++ C) S ∧ Kp S w w' ∧ Bs w' (.slice e0.ao e0.n e0.c) e0.m.d ∧ w.heap.size ≤ w'.heap.size := by
  obtain ⟨v, u, hn, hd, hdis, hS⟩ := h.ex
  refine (rgive_some hd pick hp).mono ?_
  rintro e w' ⟨rfl, u', hx, hbs, _⟩
  exact ⟨rfl, (h.d hn hd hdis hS hx).1, (h.d hn hd hdis hS hx).2, hbs, hx.g.size⟩
theorem tw_rgive_no (h : Tw w0 w nb rb L [] S) (pick : Int) : Calls Try.prog 16 #[.pointer (some ⟨rb, 0, none⟩), .int .i64 pick] w fun e w' => e = .returned (.tuple #[.agg #[.int .i64 0, .int .i64 0, .slice none 0 0], .bool false]) ∧ Below w.heap.size w w' := by
  obtain ⟨v, u, hn, hd, _⟩ := h.ex
  exact rgive_none hd pick
theorem tw_twice (h : Tw w0 w nb rb L E S) (hL : L ≠ []) (pick : Int) : Calls Try.prog 18 #[.pointer (some ⟨nb, 0, none⟩), .int .i64 pick] w fun e w' => e = .returned (.bool (sendB L)) ∧ Tw w0 w' nb rb (twiceN L pick) E S ∧ Kp S w w' := by
  obtain ⟨v, u, hn, hd, hdis, hS⟩ := h.ex
  refine (twice_any hn h.b.size hL pick).mono ?_
  rintro e w' ⟨rfl, v', hx⟩
  exact ⟨rfl, h.a hn hd hdis hS hx⟩
theorem tw_rtwice {A C : List De} {e0 : De} (h : Tw w0 w nb rb L (A ++ e0 :: C) S) (pick : Int) (hp : pkN pick (A ++ e0 :: C).length = A.length) (hz : e0.m.d.length ≤ 100000000000000) : Calls Try.prog 19 #[.pointer (some ⟨rb, 0, none⟩), .int .i64 pick] w fun e w' => e = .returned (.bool (sendB (msD (A ++ e0 :: C)))) ∧ ∃ E', msD E' = sendN (msD (A ++ e0 :: C)) e0.m ∧ Tw w0 w' nb rb L E' S ∧ Kp S w w' := by
  obtain ⟨v, u, hn, hd, hdis, hS⟩ := h.ex
  refine (rtwice_some hd h.b.size pick hp hz).mono ?_
  rintro e w' ⟨rfl, u', E', hx, hm⟩
  exact ⟨rfl, E', hm, h.d hn hd hdis hS hx⟩
theorem tw_rtwice_no (h : Tw w0 w nb rb L [] S) (pick : Int) : Calls Try.prog 19 #[.pointer (some ⟨rb, 0, none⟩), .int .i64 pick] w fun e w' => e = .returned (.bool false) ∧ w' = w := by
  obtain ⟨v, u, hn, hd, _⟩ := h.ex
  exact rtwice_none hd pick
theorem tw_late (h : Tw w0 w nb rb L E S) (hL : L ≠ []) (pick : Int) : Calls Try.prog 20 #[.pointer (some ⟨nb, 0, none⟩), .int .i64 pick] w fun e w' => e = .returned (.bool true) ∧ Tw w0 w' nb rb (lateN L pick) E S ∧ Kp S w w' := by
  obtain ⟨v, u, hn, hd, hdis, hS⟩ := h.ex
  refine (late_any hn h.b.size hL pick).mono ?_
  rintro e w' ⟨rfl, v', hx⟩
  exact ⟨rfl, h.a hn hd hdis hS hx⟩
theorem tw_rlate {A C : List De} {e0 : De} (h : Tw w0 w nb rb L (A ++ e0 :: C) S) (pick : Int) (hp : pkN pick (A ++ e0 :: C).length = A.length) : Calls Try.prog 21 #[.pointer (some ⟨rb, 0, none⟩), .int .i64 pick] w fun e w' => e = .returned (.bool true) ∧ Tw w0 w' nb rb L (A ++ C ++ [e0]) S ∧ Kp S w w' := by
  obtain ⟨v, u, hn, hd, hdis, hS⟩ := h.ex
  refine (rlate_some hd h.b.size pick hp).mono ?_
  rintro e w' ⟨rfl, u', hx⟩
  exact ⟨rfl, h.d hn hd hdis hS hx⟩
theorem tw_rlate_no (h : Tw w0 w nb rb L [] S) (pick : Int) : Calls Try.prog 21 #[.pointer (some ⟨rb, 0, none⟩), .int .i64 pick] w fun e w' => e = .returned (.bool false) ∧ Below w.heap.size w w' := by
  obtain ⟨v, u, hn, hd, _⟩ := h.ex
  exact rlate_none hd pick
theorem tw_drop (h : Tw w0 w nb rb L E S) (node : Int) : Calls Try.prog 22 #[.pointer (some ⟨nb, 0, none⟩), .int .i64 node] w fun e w' => e = .returned (.int .i64 ((L.length : Int) - ((dropN L node).length : Int))) ∧ Tw w0 w' nb rb (dropN L node) E S ∧ Kp S w w' := by
  obtain ⟨v, u, hn, hd, hdis, hS⟩ := h.ex
  refine (drop_any hn node).mono ?_
  rintro e w' ⟨rfl, v', hx⟩
  exact ⟨rfl, h.a hn hd hdis hS hx⟩
theorem tw_rdrop (h : Tw w0 w nb rb L E S) (node : Int) : Calls Try.prog 23 #[.pointer (some ⟨rb, 0, none⟩), .int .i64 node] w fun e w' => e = .returned (.int .i64 ((E.length : Int) - ((keepD node E).length : Int))) ∧ Tw w0 w' nb rb L (keepD node E) S ∧ Kp S w w' := by
  obtain ⟨v, u, hn, hd, hdis, hS⟩ := h.ex
  refine (rdrop_any hd h.b.size node).mono ?_
  rintro e w' ⟨rfl, u', hx⟩
  exact ⟨rfl, h.d hn hd hdis hS hx⟩
end
end Go.Proofs.Ytnfmhcljncdkgaa
