/-
  timers' queue in memory (Qu), and its Len, Less by contracts; cmp's Compare, Or.
-/
import Derived.Test.YtilaankipjcgaaaBase
import Derived.Test.YtilaankipjcgaaaHeap
import Derived.StillTailTactics
namespace Go.Proofs.Ytilaankipjcgaaa
open Go.RowKit
def cmpI (a b : Int) : Int := if a < b then -1 else if b < a then 1 else 0
theorem nan_any (a : Int) (w : World) : Calls Try.prog 49 #[.int .i64 a] w fun e w' => e = .returned (.bool false) ∧ w' = w := by
  go_enter Try.func49, Try.ntmps49
  go_wp2
  go_ret
  exact ⟨by simp, rfl⟩
theorem cmp_any (a b : Int) (w : World) : Calls Try.prog 48 #[.int .i64 a, .int .i64 b] w fun e w' => e = .returned (.int .i64 (cmpI a b)) ∧ w' = w := by
  by_cases h1 : a < b
  · go_enter Try.func48, Try.ntmps48
    go_wp2_with (go_at_call 49; refine (nan_any _ _).mono ?_; rintro e w' ⟨rfl, rfl⟩)
    go_ret
    exact ⟨by simp [cmpI, h1], rfl⟩
  · by_cases h2 : b < a
    · go_enter Try.func48, Try.ntmps48
      go_wp2_with (go_at_call 49; refine (nan_any _ _).mono ?_; rintro e w' ⟨rfl, rfl⟩)
      go_ret
      exact ⟨by simp [cmpI, h1, h2], rfl⟩
    · have HC : Hid (cmpI a b = 0) := by show cmpI a b = 0; unfold cmpI; rw [if_neg h1, if_neg h2]
      go_enter Try.func48, Try.ntmps48
      go_wp2_with (go_at_call 49; refine (nan_any _ _).mono ?_; rintro e w' ⟨rfl, rfl⟩)
      go_ret
      exact ⟨by rw [HC.out]; rfl, rfl⟩
def orI (a b : Int) : Int := if a = 0 then b else a
theorem or_any (g : Nat) (a b : Int) (w : World) (c0 : w.cell? ⟨g, 0, none⟩ = some (.int .i64 a)) (c1 : w.cell? ⟨g, 1, none⟩ = some (.int .i64 b)) :
    Calls Try.prog 47 #[.slice (some ⟨g, 0, none⟩) 2 2] w fun e w' => e = .returned (.int .i64 (orI a b)) ∧ w' = w := by
  go_enter Try.func47, Try.ntmps47
  go_wp2
  go_loop [8] (fun i => ∃ k : Nat, k ≤ 2 ∧ i = .int .i64 k ∧ Hid (1 ≤ k → a = 0) ∧ Hid (2 ≤ k → b = 0)) (fun i => 2 - (intOf i).toNat)
  case atStart => exact ⟨0, by omega, rfl, fun h => by omega, fun h => by omega⟩
  case round =>
    obtain ⟨k, hk, rfl, H1, H2⟩ := hrel
    by_cases e0 : k = 0
    · subst e0
      by_cases ha : a = 0
      · subst ha
        go_wp2
        go_round
        case rel => exact ⟨1, by omega, by go_num, fun _ => by first | rfl | trivial, fun h => by omega⟩
        case measure => simp [intOf]
      · go_wp2
        go_ret
        exact ⟨by simp [orI, ha], rfl⟩
    · by_cases e1 : k = 1
      · subst e1
        by_cases hb : b = 0
        · subst hb
          go_wp2
          go_round
          case rel => exact ⟨2, by omega, by go_num, fun _ => H1.out (by omega), fun _ => by first | rfl | trivial⟩
          case measure => simp [intOf]
        · go_wp2
          go_ret
          have := H1.out (by omega)
          exact ⟨by simp [orI, this], rfl⟩
      · have e2 : k = 2 := by omega
        subst e2
        have h1 := H1.out (by omega)
        have h2 := H2.out (by omega)
        subst h1; subst h2
        go_wp2
        go_ret
        exact ⟨by simp [orI], rfl⟩
theorem orI_neg (p q : Pr) : decide (orI (cmpI p.2 q.2) (cmpI p.1 q.1) < 0) = befB p q := by
  unfold befB
  rw [decide_eq_decide]
  unfold orI cmpI bef
  split <;> rename_i h <;> (repeat' split at h) <;> (repeat' split) <;> omega

def ptrV (b : Nat) : Value := .pointer (some ⟨b, 0, none⟩)
def thv (t : Th) (k : Nat) : List Value := [.int .i64 t.id, .int .i64 t.due, .int .i64 (k : Int)]
/-- The queue in memory: its slice v, its things q, each in a block of its own that knows its place. -/
structure Qu (w : World) (v : Value) (q : List Th) : Prop where
  row : w.ownsRow 0 50 1 v q.length (q.map fun t => ptrV t.b)
  th : ∀ (k : Nat) (t : Th), q[k]? = some t → Cw w t.b (thv t k) 52
  dis : q.Pairwise fun a b => a.b ≠ b.b
  len : q.length ≤ 4096
/-- The queue's blocks. -/
def own (v : Value) (q : List Th) (k : Nat) : Prop := v.ownBlock = some k ∨ ∃ t ∈ q, t.b = k
theorem ownsRow_keep {w w' : World} {e : TypeId} {v : Value} {n : Nat} {xs : List Value} (h : w.ownsRow 0 e 1 v n xs) (hk : ∀ k, v.ownBlock = some k → w'.heap[k]? = w.heap[k]?) : w'.ownsRow 0 e 1 v n xs := by
  refine ⟨h.1, ?_⟩
  rcases h.2 with h2 | ⟨g, cap, cur, h1, h2, h3, h4⟩
  · exact Or.inl h2
  · exact Or.inr ⟨g, cap, cur, h1, h2, (hk g (by rw [h1]; rfl)).trans h3, h4⟩
variable {w w' : World} {v : Value} {q : List Th}
theorem Qu.lt (h : Qu w v q) {k : Nat} (hk : own v q k) : k < w.heap.size := by
  rcases hk with hk | ⟨t, ht, rfl⟩
  · exact (h.row.lt k hk).2
  · obtain ⟨n, hn⟩ := List.getElem?_of_mem ht
    exact (h.th n t hn).lt
theorem Qu.keep (h : Qu w v q) (hk : ∀ k, own v q k → w'.heap[k]? = w.heap[k]?) : Qu w' v q where
  row := ownsRow_keep h.row fun k e => hk k (Or.inl e)
  th := fun k t e => (h.th k t e).keep (hk _ (Or.inr ⟨t, List.mem_of_getElem? e, rfl⟩))
  dis := h.dis
  len := h.len
theorem Qu.below (h : Qu w v q) (hb : Below w.heap.size w w') : Qu w' v q := h.keep fun k hk => hb.block k (h.lt hk)
theorem Qu.form (h : Qu w v q) (hq : 0 < q.length) : ∃ g cap, v = .slice (some ⟨g, 0, none⟩) q.length cap ∧ q.length ≤ cap ∧ cap ≤ maxLen ∧ ∃ cur, w.heap[g]? = some (.cells cur 50 (0, 0)) := by
  rcases h.row.2 with ⟨_, h2⟩ | ⟨g, cap, cur, h1, h2, h3, h4, h5, h6, h7⟩
  · omega
  · exact ⟨g, cap, h1, h4, h5, cur, h3⟩
theorem Qu.cells (h : Qu w v q) {g n cap : Nat} (hv : v = .slice (some ⟨g, 0, none⟩) n cap) {k : Nat} {t : Th} (hk : q[k]? = some t) :
    w.cell? ⟨g, k, none⟩ = some (.pointer (some ⟨t.b, 0, none⟩)) ∧ w.cell? ⟨t.b, 0, none⟩ = some (.int .i64 t.id) ∧ w.cell? ⟨t.b, 1, none⟩ = some (.int .i64 t.due) ∧ w.cell? ⟨t.b, 2, none⟩ = some (.int .i64 (k : Int)) := by
  have h1 := h.row.cells (g := g) (by rw [hv]; rfl) k (ptrV t.b) (by simp [hk])
  rw [Addr.add_lit] at h1
  have h2 := h.th k t hk
  refine ⟨by simpa [ptrV] using h1, ?_, ?_, ?_⟩ <;> rw [h2.cell] <;> rfl
theorem Qu.slot (h : Qu w v q) : ∃ ao cap, v = .slice ao q.length cap := by
  rcases h.row.2 with ⟨h1, h2⟩ | ⟨g, cap, cur, h1, _⟩
  · exact ⟨none, 0, by rw [h1, h2]⟩
  · exact ⟨_, cap, h1⟩
/-- The queue's blocks are rows of pointers, or things. -/
theorem Qu.kind (h : Qu w v q) {k : Nat} (hk : own v q k) : (∃ cur, w.heap[k]? = some (.cells cur 50 (0, 0))) ∨ ∃ cur, w.heap[k]? = some (.cells cur 52 (0, 0)) := by
  rcases hk with hk | ⟨t, ht, rfl⟩
  · rcases h.row.2 with ⟨h1, _⟩ | ⟨g, cap, cur, h1, h2, h3, _⟩
    · rw [h1] at hk; cases hk
    · rw [h1] at hk
      obtain rfl : g = k := by simpa [Value.ownBlock] using hk
      exact Or.inl ⟨cur, h3⟩
  · obtain ⟨n, hn⟩ := List.getElem?_of_mem ht
    exact Or.inr ⟨_, h.th n t hn⟩
theorem own_perm {v : Value} {q q' : List Th} (h : q'.Perm q) {k : Nat} (hk : own v q' k) : own v q k := by
  rcases hk with hk | ⟨t, ht, e⟩
  · exact Or.inl hk
  · exact Or.inr ⟨t, h.mem_iff.1 ht, e⟩
theorem len_any (h : Qu w v q) : Calls Try.prog 44 #[v] w fun e w' => e = .returned (.int .i64 (q.length : Int)) ∧ w' = w := by
  obtain ⟨ao, cap, rfl⟩ := h.slot
  go_enter Try.func44, Try.ntmps44
  go_wp2
  go_ret
  exact ⟨rfl, rfl⟩
set_option maxHeartbeats 1000000 in
theorem less_any (h : Qu w v q) (i j : Nat) (hi : i < q.length) (hj : j < q.length) :
    Calls Try.prog 45 #[v, .int .i64 (i : Int), .int .i64 (j : Int)] w fun e w' => e = .returned (.bool (befB (fn q i) (fn q j))) ∧ Below w.heap.size w w' := by
  obtain ⟨g, cap, rfl, hc1, hc2, -⟩ := h.form (by omega)
  obtain ⟨ti, ei⟩ : ∃ t, q[i]? = some t := ⟨_, List.getElem?_eq_getElem hi⟩
  obtain ⟨tj, ej⟩ : ∃ t, q[j]? = some t := ⟨_, List.getElem?_eq_getElem hj⟩
  obtain ⟨a0, a1, a2, a3⟩ := h.cells rfl ei
  obtain ⟨b0, b1, b2, b3⟩ := h.cells rfl ej
  have HR : Hid (decide (orI (cmpI ti.due tj.due) (cmpI ti.id tj.id) < 0) = befB (fn q i) (fn q j)) := by
    have := orI_neg ti.pr tj.pr
    show _ = _
    simp only [fn, List.getD, ei, ej, Option.getD_some]
    exact this
  have hl := h.len
  unfold maxLen at hc2
  clear h
  go_enter Try.func45, Try.ntmps45
  go_wp2_with fail
  refine wp_region_still_tail 30 (by kernel_rfl) (by kernel_rfl) ?_
  simp only [List.take_succ_cons, List.take_zero, List.drop_succ_cons, List.drop_zero]
  change wpStill _ _ (World.drew _) _ _ _
  repeat still_step
  still_call ((cmp_any _ _ _).mono fun _ _ h => ⟨h.1, h.2⟩)
  repeat still_step
  still_call ((cmp_any _ _ _).mono fun _ _ h => ⟨h.1, h.2⟩)
  repeat still_step
  refine wpStill_nil ?_
  change wpList _ _ _ _ _ (World.drew _)
  have e0 : (w.alloc (Obj.cells #[Value.int IntKind.i64 (cmpI ti.due tj.due), Value.int IntKind.i64 (cmpI ti.id tj.id)] 3)).drew.cell? ⟨w.heap.size, 0, none⟩ = some (.int .i64 (cmpI ti.due tj.due)) := (Cw.new w [_, _] 3).cell 0
  have e1 : (w.alloc (Obj.cells #[Value.int IntKind.i64 (cmpI ti.due tj.due), Value.int IntKind.i64 (cmpI ti.id tj.id)] 3)).drew.cell? ⟨w.heap.size, 1, none⟩ = some (.int .i64 (cmpI ti.id tj.id)) := (Cw.new w [_, _] 3).cell 1
  replace e0 := hid_into e0
  replace e1 := hid_into e1
  go_wp2_with (go_at_call 47; refine (or_any _ _ _ _ e0.out e1.out).mono ?_; rintro e w' ⟨rfl, rfl⟩)
  go_ret
  exact ⟨by rw [← HR.out]; rfl, (((Below.refl _ _).alloc (Nat.le_refl _) _).drew)⟩
end Go.Proofs.Ytilaankipjcgaaa
