/-
  InputsAnyOrder in plain words: what is left to tell, beside what is known.
-/
import Derived.Test.YtkjoadncbfhjfaaArgIn
import Derived.Test.YtkjoadncbfhjfaaPairsEq
namespace Go.Proofs.Ytkjoadncbfhjfaa
/-- A player's row beside what is left to tell (L). -/
structure Rd (xs : List Int) (p : Int) (L : List To) (l : List Pl) : Prop where
  len : l.length = 60
  le : xs.length ≤ 60
  a1 : ∀ i x, xs[i]? = some x → at0 l i = (x, true) ∨ ((at0 l i).2 = false ∧ (⟨p, (i : Nat), x⟩ : To) ∈ L)
  a2 : ∀ i, xs.length ≤ i → (at0 l i).2 = false
  a3 : ∀ t ∈ L, t.p = p → ∃ i : Nat, t.f = (i : Int) ∧ xs[i]? = some t.x ∧ (at0 l i).2 = false
def Dist (L : List To) : Prop := L.Pairwise fun s t => ¬ (s.p = t.p ∧ s.f = t.f)
theorem Dist.mid {A B : List To} {t : To} (h : Dist (A ++ t :: B)) : Dist (A ++ B) ∧ ∀ s ∈ A ++ B, ¬ (s.p = t.p ∧ s.f = t.f) := by
  unfold Dist at *
  rw [List.pairwise_append, List.pairwise_cons] at h
  obtain ⟨h1, ⟨h2, h3⟩, h4⟩ := h
  refine ⟨List.pairwise_append.2 ⟨h1, h3, fun a ha b hb => h4 a ha b (List.mem_cons_of_mem _ hb)⟩, fun s hs => ?_⟩
  rcases List.mem_append.1 hs with hs | hs
  · exact h4 s hs t (List.mem_cons_self ..)
  · intro e
    exact h2 s hs ⟨e.1.symm, e.2.symm⟩
theorem mem_mid {A B : List To} {s t : To} (h : s ∈ A ++ t :: B) (hne : s ≠ t) : s ∈ A ++ B := by
  rcases List.mem_append.1 h with h | h
  · exact List.mem_append_left _ h
  · rcases List.mem_cons.1 h with h | h
    · exact absurd h hne
    · exact List.mem_append_right _ h
theorem mem_mid' {A B : List To} {s t : To} (h : s ∈ A ++ B) : s ∈ A ++ t :: B := by
  rcases List.mem_append.1 h with h | h
  · exact List.mem_append_left _ h
  · exact List.mem_append_right _ (List.mem_cons_of_mem _ h)
theorem mid_mem (A B : List To) (t : To) : t ∈ A ++ t :: B := List.mem_append_right _ (List.mem_cons_self ..)
theorem Rd.step {xs : List Int} {p : Int} {A B : List To} {t : To} {l : List Pl} (h : Rd xs p (A ++ t :: B) l) (hd : Dist (A ++ t :: B)) (hp : t.p = p) : ∃ i : Nat, t.f = (i : Int) ∧ i < l.length ∧ (at0 l i).2 = false ∧ Rd xs p (A ++ B) (l.set i (t.x, true)) := by
  obtain ⟨i, hi, hx, hu⟩ := h.a3 t (mid_mem A B t) hp
  have hil : i < l.length := by
    have h1 := (List.getElem?_eq_some_iff.1 hx).1
    have h2 := h.le
    rw [h.len]; omega
  refine ⟨i, hi, hil, hu, by rw [List.length_set]; exact h.len, h.le, ?_, ?_, ?_⟩
  · intro j x hj
    rw [at0_set hil]
    by_cases e : j = i
    · subst e
      rw [if_pos rfl]
      rw [hx] at hj
      cases hj
      exact Or.inl rfl
    · rw [if_neg e]
      rcases h.a1 j x hj with h1 | ⟨h1, h2⟩
      · exact Or.inl h1
      · refine Or.inr ⟨h1, mem_mid h2 fun e2 => e ?_⟩
        have := congrArg To.f e2
        simp only [hi] at this
        omega
  · intro j hj
    have : i < xs.length := (List.getElem?_eq_some_iff.1 hx).1
    rw [at0_set hil, if_neg (by omega)]
    exact h.a2 j hj
  · intro s hs hsp
    obtain ⟨j, hj, hjx, hju⟩ := h.a3 s (mem_mid' hs) hsp
    refine ⟨j, hj, hjx, ?_⟩
    have := hd.mid.2 s hs
    rw [at0_set hil, if_neg (fun e => this ⟨by rw [hsp, hp], by rw [hj, hi, e]⟩)]
    exact hju
theorem Rd.other {xs : List Int} {p : Int} {A B : List To} {t : To} {l : List Pl} (h : Rd xs p (A ++ t :: B) l) (hp : t.p ≠ p) : Rd xs p (A ++ B) l :=
  ⟨h.len, h.le, fun j x hj => (h.a1 j x hj).imp id fun ⟨h1, h2⟩ => ⟨h1, mem_mid h2 fun e => hp (by rw [← e])⟩, h.a2, fun s hs => h.a3 s (mem_mid' hs)⟩
/-- What a player's row has to tell, up to k. -/
def tlk (p : Int) (xs : List Int) (k : Nat) : List To := (List.range k).map fun i => ⟨p, (i : Nat), xs.getD i 0⟩
theorem tlk_succ (p : Int) (xs : List Int) (k : Nat) : tlk p xs (k + 1) = tlk p xs k ++ [⟨p, (k : Nat), xs.getD k 0⟩] := by simp [tlk, List.range_succ]
theorem tlk_len (p : Int) (xs : List Int) (k : Nat) : (tlk p xs k).length = k := by simp [tlk]
theorem tlk_mem {p : Int} {xs : List Int} {k : Nat} {t : To} : t ∈ tlk p xs k ↔ ∃ i : Nat, i < k ∧ t = ⟨p, (i : Nat), xs.getD i 0⟩ := by
  simp only [tlk, List.mem_map, List.mem_range]
  constructor
  · rintro ⟨i, h, rfl⟩; exact ⟨i, h, rfl⟩
  · rintro ⟨i, h, rfl⟩; exact ⟨i, h, rfl⟩
def all2 (xs ys : List Int) : List To := tlk 0 xs xs.length ++ tlk 1 ys ys.length
theorem getD_some {xs : List Int} {i : Nat} (h : i < xs.length) : xs[i]? = some (xs.getD i 0) := by simp [List.getD, h]
theorem dist_tlk (p : Int) (xs : List Int) (k : Nat) : Dist (tlk p xs k) := by
  unfold Dist tlk
  rw [List.pairwise_map]
  refine List.Pairwise.imp ?_ (List.nodup_range (n := k))
  intro a b hab
  simp only [not_and]
  intro _ e
  exact hab (by omega)
theorem dist_all (xs ys : List Int) : Dist (all2 xs ys) := by
  unfold Dist all2
  refine List.pairwise_append.2 ⟨dist_tlk 0 xs _, dist_tlk 1 ys _, ?_⟩
  intro s hs t ht
  obtain ⟨i, _, rfl⟩ := tlk_mem.1 hs
  obtain ⟨j, _, rfl⟩ := tlk_mem.1 ht
  simp
theorem rd_start0 {xs ys : List Int} (h : xs.length ≤ 60) : Rd xs 0 (all2 xs ys) (zeros 60) := by
  refine ⟨zeros_len _, h, fun i x hx => ?_, fun i _ => by rw [zeros_at], fun t ht hp => ?_⟩
  · have hi := (List.getElem?_eq_some_iff.1 hx).1
    refine Or.inr ⟨by rw [zeros_at], List.mem_append_left _ (tlk_mem.2 ⟨i, hi, ?_⟩)⟩
    rw [getD_some hi] at hx
    cases hx
    rfl
  · rcases List.mem_append.1 ht with h1 | h1
    · obtain ⟨i, hi, rfl⟩ := tlk_mem.1 h1
      exact ⟨i, rfl, getD_some hi, by rw [zeros_at]⟩
    · obtain ⟨i, hi, rfl⟩ := tlk_mem.1 h1
      cases hp
theorem rd_start1 {xs ys : List Int} (h : ys.length ≤ 60) : Rd ys 1 (all2 xs ys) (zeros 60) := by
  refine ⟨zeros_len _, h, fun i x hx => ?_, fun i _ => by rw [zeros_at], fun t ht hp => ?_⟩
  · have hi := (List.getElem?_eq_some_iff.1 hx).1
    refine Or.inr ⟨by rw [zeros_at], List.mem_append_right _ (tlk_mem.2 ⟨i, hi, ?_⟩)⟩
    rw [getD_some hi] at hx
    cases hx
    rfl
  · rcases List.mem_append.1 ht with h1 | h1
    · obtain ⟨i, hi, rfl⟩ := tlk_mem.1 h1
      cases hp
    · obtain ⟨i, hi, rfl⟩ := tlk_mem.1 h1
      exact ⟨i, rfl, getD_some hi, by rw [zeros_at]⟩
theorem Rd.end_at {xs : List Int} {p : Int} {l : List Pl} (h : Rd xs p [] l) {i : Nat} (hi : i < xs.length) : at0 l i = (xs.getD i 0, true) := by
  rcases h.a1 i _ (getD_some hi) with h1 | ⟨_, h2⟩
  · exact h1
  · cases h2
theorem Rd.end_kn {xs : List Int} {p : Int} {l : List Pl} (h : Rd xs p [] l) : kn l = xs.length :=
  kn_of (by rw [h.len]; exact h.le) (fun j hj => by rw [h.end_at hj]) fun _ => h.a2 _ (Nat.le_refl _)
/-- What is wanted, up to k. -/
def wn (xs ys : List Int) (k : Nat) : List Pi := (List.range k).map fun i => (xs.getD i 0, ys.getD i 0)
theorem wn_succ (xs ys : List Int) (k : Nat) : wn xs ys (k + 1) = wn xs ys k ++ [(xs.getD k 0, ys.getD k 0)] := by simp [wn, List.range_succ]
theorem wn_len (xs ys : List Int) (k : Nat) : (wn xs ys k).length = k := by simp [wn]
theorem prs_wn {xs ys : List Int} {l0 l1 : List Pl} (h0 : Rd xs 0 [] l0) (h1 : Rd ys 1 [] l1) : ∀ k, k ≤ xs.length → k ≤ ys.length → prs l0 l1 k = wn xs ys k
  | 0, _, _ => rfl
  | k + 1, h2, h3 => by rw [wn_succ, prs, prs_wn h0 h1 k (by omega) (by omega), h0.end_at (by omega), h1.end_at (by omega)]
section
variable {w : World} {lo hi qb g0 g1 : Nat} {l0 l1 : List Pl}
def up (p q : Int) (l : List Pl) (i : Nat) (x : Int) : List Pl := if p = q then l.set i (x, true) else l
theorem put_told (h : Qp w lo hi qb g0 g1 l0 l1) {p : Int} (hp : p = 0 ∨ p = 1) {i : Nat} (hi' : i < l0.length) (hu : (at0 (sel p l0 l1) i).2 = false) (x : Int) : Calls Try.prog 10 #[.pointer (some ⟨qb, 0, none⟩), .int .i64 p, .int .i64 (i : Int), .int .u16 x] w fun e w' => e = .returned (.int .i64 0) ∧ Qp w' lo hi qb g0 g1 (up p 0 l0 i x) (up p 1 l1 i x) ∧ Og (fun k => lo ≤ k ∧ k < hi) w w' := by
  have key : ∀ l : List Pl, l.length = l0.length → (at0 l i).2 = false → putE l i x = 0 ∧ putL l i x = l.set i (x, true) := by
    intro l hl hm
    have hE : putE l i x = 0 := by
      unfold putE
      rw [if_neg (by omega), Int.toNat_natCast, if_neg (by rw [hm]; decide)]
    exact ⟨hE, by unfold putL; rw [if_pos hE, Int.toNat_natCast]⟩
  refine (put_any h p i x).mono ?_
  rintro e w1 ⟨rfl, hq⟩
  have hq1 := hq.q
  rcases hp with rfl | rfl
  · obtain ⟨k1, k2⟩ := key l0 rfl hu
    rw [if_pos rfl, if_neg (by decide), k2] at hq1
    exact ⟨by rw [show sel 0 l0 l1 = l0 from rfl, k1], hq1, hq.og⟩
  · obtain ⟨k1, k2⟩ := key l1 h.len hu
    rw [if_neg (by decide), if_pos rfl, k2] at hq1
    exact ⟨by rw [show sel 1 l0 l1 = l1 from rfl, k1], hq1, hq.og⟩
theorem put_twice (h : Qp w lo hi qb g0 g1 l0 l1) {p : Int} (hp : p = 0 ∨ p = 1) {i : Nat} (hi' : i < l0.length) {x : Int} (hu : at0 (sel p l0 l1) i = (x, true)) (y E : Int) (hE : E = if x = y then 8 else 18) : Calls Try.prog 10 #[.pointer (some ⟨qb, 0, none⟩), .int .i64 p, .int .i64 (i : Int), .int .u16 y] w fun e w' => e = .returned (.int .i64 E) ∧ Qp w' lo hi qb g0 g1 l0 l1 ∧ Og (fun k => lo ≤ k ∧ k < hi) w w' := by
  have key : ∀ l : List Pl, l.length = l0.length → at0 l i = (x, true) → putE l i y = E ∧ putL l i y = l := by
    intro l hl hm
    have h1 : putE l i y = E := by
      unfold putE
      rw [if_neg (by omega), Int.toNat_natCast, hm, if_pos rfl, hE]
    refine ⟨h1, ?_⟩
    unfold putL
    rw [h1, if_neg (by rw [hE]; split <;> decide)]
  refine (put_any h p i y).mono ?_
  rintro e w1 ⟨rfl, hq⟩
  have hq1 := hq.q
  rcases hp with rfl | rfl
  · obtain ⟨k1, k2⟩ := key l0 rfl hu
    rw [if_pos rfl, if_neg (by decide), k2] at hq1
    exact ⟨by rw [show sel 0 l0 l1 = l0 from rfl, k1], hq1, hq.og⟩
  · obtain ⟨k1, k2⟩ := key l1 h.len hu
    rw [if_neg (by decide), if_pos rfl, k2] at hq1
    exact ⟨by rw [show sel 1 l0 l1 = l1 from rfl, k1], hq1, hq.og⟩
end
end Go.Proofs.Ytkjoadncbfhjfaa
