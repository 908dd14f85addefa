/-
  The document's timers in memory (Rt), and its find, by contract.
-/
import Derived.Test.YtilaankipjcgaaaKnown
namespace Go.Proofs.Ytilaankipjcgaaa
open Go.RowKit Go.Maps
def cells2 (L : List Pr) : List Value := L.flatMap fun p => [.int .i64 p.1, .int .i64 p.2]
theorem cells2_len (L : List Pr) : (cells2 L).length = L.length * 2 := by
  induction L with
  | nil => rfl
  | cons p r ih => simp only [cells2, List.flatMap_cons, List.length_append, List.length_cons, List.length_nil] at ih ⊢; omega
theorem cells2_append (a b : List Pr) : cells2 (a ++ b) = cells2 a ++ cells2 b := by simp [cells2]
theorem cells2_one (L : List Pr) : ∀ u ∈ cells2 L, u.oneCell' = true := by
  intro u hu
  simp only [cells2, List.mem_flatMap] at hu
  obtain ⟨p, _, hu⟩ := hu
  simp only [List.mem_cons, List.not_mem_nil, or_false] at hu
  rcases hu with rfl | rfl <;> rfl
theorem cells2_get : ∀ {L : List Pr} {k : Nat} {p : Pr}, L[k]? = some p → (cells2 L)[k * 2]? = some (.int .i64 p.1) ∧ (cells2 L)[k * 2 + 1]? = some (.int .i64 p.2)
  | [], k, p, h => by simp at h
  | x :: r, 0, p, h => by simp at h; subst h; exact ⟨rfl, rfl⟩
  | x :: r, k + 1, p, h => by
    have ih := cells2_get (L := r) (k := k) (p := p) (by simpa using h)
    have e : (k + 1) * 2 = k * 2 + 1 + 1 := by omega
    rw [e]
    exact ih
theorem cells2_set : ∀ (L : List Pr) (k : Nat) (p : Pr) (d : Int), L[k]? = some p → (cells2 L).set (k * 2 + 1) (.int .i64 d) = cells2 (L.set k (p.1, d))
  | [], k, p, d, h => by simp at h
  | x :: r, 0, p, d, h => by simp at h; subst h; rfl
  | x :: r, k + 1, p, d, h => by
    have ih := cells2_set r k p d (by simpa using h)
    have e : (k + 1) * 2 + 1 = (k * 2 + 1) + 1 + 1 := by omega
    rw [e]
    simp only [cells2, List.flatMap_cons, List.cons_append, List.nil_append, List.set_cons_succ] at ih ⊢
    rw [ih]
theorem get_perm {s t : List Pr} (hp : s.Perm t) (hd : Dis s) (id : Int) : get s id = get t id := by
  cases h : get t id with
  | some d => exact get_of_mem hd (hp.mem_iff.2 (get_mem h))
  | none =>
    cases h2 : get s id with
    | none => rfl
    | some d => exact absurd rfl (get_none h _ (hp.mem_iff.1 (get_mem h2)))
/-- The document's timers at block rb: a row v of numbers and times L that mean s. -/
structure Rt (w : World) (F : Nat → Prop) (rb : Nat) (v : Value) (L s : List Pr) : Prop where
  blk : Cw w rb [v] 28
  row : w.ownsRow 0 58 2 v L.length (cells2 L)
  few : L.length ≤ 4096
  perm : L.Perm s
  srt : Srt s
  dis : Dis s
  fs : F rb
  fv : ∀ k, v.ownBlock = some k → F k
def Rm (w : World) (F : Nat → Prop) (rb : Nat) (s : List Pr) : Prop := ∃ v L, Rt w F rb v L s
variable {w w' : World} {F : Nat → Prop} {rb : Nat} {v : Value} {L s : List Pr}
theorem rrow_keep {e : TypeId} {n m : Nat} {xs : List Value} (h : w.ownsRow 0 e m v n xs) (hk : ∀ k, v.ownBlock = some k → w'.heap[k]? = w.heap[k]?) : w'.ownsRow 0 e m v n xs := by
  refine ⟨h.1, ?_⟩
  rcases h.2 with h2 | ⟨g, cap, cur, h1, h2, h3, h4⟩
  · exact Or.inl h2
  · exact Or.inr ⟨g, cap, cur, h1, h2, (hk g (by rw [h1]; rfl)).trans h3, h4⟩
theorem Rt.keep (h : Rt w F rb v L s) (hk : ∀ k, F k → k < w.heap.size → w'.heap[k]? = w.heap[k]?) : Rt w' F rb v L s :=
  ⟨h.blk.keep (hk rb h.fs h.blk.lt), rrow_keep h.row fun k e => hk k (h.fv k e) (h.row.lt k e).2, h.few, h.perm, h.srt, h.dis, h.fs, h.fv⟩
theorem Rt.more {G : Nat → Prop} (h : Rt w F rb v L s) (hg : ∀ k, F k → k < w.heap.size → G k) : Rt w G rb v L s :=
  ⟨h.blk, h.row, h.few, h.perm, h.srt, h.dis, hg rb h.fs h.blk.lt, fun k e => hg k (h.fv k e) (h.row.lt k e).2⟩
theorem Rm.keep (h : Rm w F rb s) (hk : ∀ k, F k → k < w.heap.size → w'.heap[k]? = w.heap[k]?) : Rm w' F rb s := by
  obtain ⟨v, L, h⟩ := h; exact ⟨v, L, h.keep hk⟩
theorem Rm.more {G : Nat → Prop} (h : Rm w F rb s) (hg : ∀ k, F k → k < w.heap.size → G k) : Rm w G rb s := by
  obtain ⟨v, L, h⟩ := h; exact ⟨v, L, h.more hg⟩
theorem Rt.ne (h : Rt w F rb v L s) : v.ownBlock ≠ some rb := by
  intro e
  have h1 := h.blk
  rcases h.row.2 with ⟨h2, _⟩ | ⟨g, cap, cur, h2, h3, h4, _⟩
  · rw [h2] at e; cases e
  · rw [h2] at e
    obtain rfl : g = rb := by simpa [Value.ownBlock] using e
    rw [Cw, h4] at h1
    simp at h1
theorem Rt.slot (h : Rt w F rb v L s) : ∃ ao cap, v = .slice ao L.length cap := by
  rcases h.row.2 with ⟨h1, h2⟩ | ⟨g, cap, cur, h1, _⟩
  · exact ⟨none, 0, by rw [h1, h2]⟩
  · exact ⟨_, cap, h1⟩
theorem Rt.form (h : Rt w F rb v L s) (hl : 0 < L.length) : ∃ g cap, v = .slice (some ⟨g, 0, none⟩) L.length cap ∧ L.length ≤ cap ∧ cap ≤ maxLen := by
  rcases h.row.2 with ⟨_, h2⟩ | ⟨g, cap, cur, h1, h2, h3, h4, h5, _⟩
  · omega
  · exact ⟨g, cap, h1, h4, h5⟩
theorem Rt.cell (h : Rt w F rb v L s) : w.cell? ⟨rb, 0, none⟩ = some v := by rw [h.blk.cell]; rfl
theorem Rt.cells (h : Rt w F rb v L s) {g n cap : Nat} (hv : v = .slice (some ⟨g, 0, none⟩) n cap) {k : Nat} {p : Pr} (hk : L[k]? = some p) :
    w.cell? ⟨g, k * 2, none⟩ = some (.int .i64 p.1) ∧ w.cell? ⟨g, k * 2 + 1, none⟩ = some (.int .i64 p.2) := by
  obtain ⟨h1, h2⟩ := cells2_get hk
  have a1 := h.row.cells (g := g) (by rw [hv]; rfl) _ _ h1
  have a2 := h.row.cells (g := g) (by rw [hv]; rfl) _ _ h2
  rw [Addr.add_lit] at a1 a2
  exact ⟨by simpa using a1, by simpa using a2⟩
theorem get_first {L : List Pr} {id : Int} {k : Nat} {p : Pr} (hd : Dis L) (hk : L[k]? = some p) (e : p.1 = id) : get L id = some p.2 := by
  subst e
  exact get_of_mem hd (List.mem_of_getElem? hk)
theorem get_none_of {L : List Pr} {id : Int} (h : ∀ (j : Nat) (p : Pr), L[j]? = some p → p.1 ≠ id) : get L id = none := by
  cases e : get L id with
  | none => rfl
  | some d =>
    obtain ⟨j, hj⟩ := List.getElem?_of_mem (get_mem e)
    exact absurd rfl (h j _ hj)
/-- What find answers. -/
def FindP (L : List Pr) (id : Int) (e : Ending) : Prop := (get L id = none ∧ e = .returned (.int .i64 (-1))) ∨ ∃ (i : Nat) (d : Int), e = .returned (.int .i64 (i : Int)) ∧ L[i]? = some (id, d) ∧ get L id = some d
set_option maxHeartbeats 1000000 in
theorem find_any (h : Rt w F rb v L s) (id : Int) : Calls Try.prog 22 #[.pointer (some ⟨rb, 0, none⟩), .int .i64 id] w fun e w' => FindP L id e ∧ w' = w := by
  have hd : Dis L := dis_perm h.dis h.perm.symm
  have hf := h.few
  obtain ⟨ao, cap0, hv⟩ := h.slot
  have c0 := h.cell
  rw [hv] at c0
  have HV := hid_into hv
  have H := hid_into h
  clear h hv
  go_enter Try.func22, Try.ntmps22
  go_wp2_with fail
  go_loop [5] (fun i => ∃ k : Nat, k ≤ L.length ∧ i = .int .i64 (k : Int) ∧ Hid (∀ j p, j < k → L[j]? = some p → p.1 ≠ id)) (fun i => L.length - (intOf i).toNat)
  case atStart => exact ⟨0, Nat.zero_le _, rfl, fun j p hj => by omega⟩
  case round =>
    obtain ⟨k, hk, rfl, HJ⟩ := hrel
    by_cases hlt : k < L.length
    · obtain ⟨p, hp⟩ : ∃ p, L[k]? = some p := ⟨_, List.getElem?_eq_getElem hlt⟩
      obtain ⟨g, cap, hv2, hc1, hc2⟩ := H.out.form (by omega)
      have hv3 := HV.out
      rw [hv2] at hv3
      simp only [Value.slice.injEq] at hv3
      obtain ⟨rfl, -, rfl⟩ := hv3
      obtain ⟨a1, a2⟩ := H.out.cells hv2 hp
      unfold maxLen at hc2
      clear hv2
      have HP := hid_into hp
      clear hp
      by_cases e : p.1 = id
      · go_wp2_with fail
        go_ret
        exact ⟨Or.inr ⟨k, p.2, rfl, by rw [HP.out, ← e], get_first hd HP.out e⟩, rfl⟩
      · have e2 : (p.1 == id) = false := by simp [e]
        have HJ2 : Hid (∀ j p, j < k + 1 → L[j]? = some p → p.1 ≠ id) := by
          intro j p' hj hp'
          by_cases hjk : j = k
          · subst hjk
            rw [HP.out] at hp'
            obtain rfl := Option.some.inj hp'
            exact e
          · exact HJ.out j p' (by omega) hp'
        clear HJ
        go_wp2_with fail
        go_round
        case rel => exact ⟨k + 1, by omega, by go_num, HJ2⟩
        case measure => simp [intOf]; omega
    · go_wp2_with fail
      go_ret
      refine ⟨Or.inl ⟨get_none_of fun j p hj => HJ.out j p ?_ hj, rfl⟩, rfl⟩
      have := (List.getElem?_eq_some_iff.1 hj).1
      omega
end Go.Proofs.Ytilaankipjcgaaa
