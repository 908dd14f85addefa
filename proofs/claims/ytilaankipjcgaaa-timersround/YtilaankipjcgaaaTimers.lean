/-
  timers in memory: the queue, the map of numbers to things, and the row of numbers and times in order that they mean (Tx, Tm). Plain facts; no walk.
-/
import Derived.Test.YtilaankipjcgaaaHeapOps
import Derived.Maps.OwnSet
import Derived.Maps.Ext
namespace Go.Proofs.Ytilaankipjcgaaa
open Go.RowKit Go.Maps
/-- Numbers that an int can be. -/
def In64 (x : Int) : Prop := -9223372036854775808 ≤ x ∧ x ≤ 9223372036854775807
theorem lawI : Keyed Try.prog 3 := int_keyed Try.underlying3
theorem key3 {x : Int} (hx : In64 x) : keyOf Try.prog 3 (.int .i64 x) = some (.int .i64 x) := by
  have h3 := Try.underlying3
  have h4 : (Lit.int .i64 x).wf = true := by
    have a1 : IntKind.i64.min = -9223372036854775808 := by decide
    have a2 : IntKind.i64.max = 9223372036854775807 := by decide
    simp [Lit.wf, a1, a2]; unfold In64 at hx; omega
  simp [keyOf, mapKey, h3, h4]
theorem zero50 (w : World) : (zeroValue 50).run Try.prog w = .ok (.pointer none) w := by kernel_rfl
/-- Numbers and blocks, by rising numbers. -/
abbrev Ms := List (Int × Nat)
abbrev Rv : Value → Option (DataW Value × List MemPlace) := fun v => some (.held v, [])
def ents (ms : Ms) : List (Lit × DataW Value) := ms.map fun p => (.int .i64 p.1, .held (ptrV p.2))
def Dm (ms : Ms) : DataW Value := .map (ents ms)
def lkM (ms : Ms) (x : Int) : Option Nat := (ms.find? fun p => p.1 == x).map (·.2)
def dlM (ms : Ms) (x : Int) : Ms := ms.filter fun p => !(p.1 == x)
def insM (x : Int) (b : Nat) : Ms → Ms
  | [] => [(x, b)]
  | y :: r => if x < y.1 then (x, b) :: y :: r else y :: insM x b r
def ptM (ms : Ms) (x : Int) (b : Nat) : Ms := insM x b (dlM ms x)
theorem same_int (a b : Int) : (Lit.int .i64 a).sameKey (.int .i64 b) = (a == b) := by
  simp only [Lit.sameKey, true_and]
  rw [Bool.eq_iff_iff]; simp
theorem ents_ins (x : Int) (b : Nat) : ∀ ms : Ms, ents (insM x b ms) = DataW.insert (.int .i64 x, .held (ptrV b)) (ents ms)
  | [] => rfl
  | y :: r => by
    have ih := ents_ins x b r
    simp only [insM, ents, List.map_cons, DataW.insert, Lit.before] at ih ⊢
    by_cases h : x < y.1
    · simp [h]
    · simp [h, ih]
theorem ents_dl (ms : Ms) (x : Int) : ents (dlM ms x) = (ents ms).filter fun p => !p.1.sameKey (.int .i64 x) := by
  simp only [ents, dlM, List.filter_map]
  congr 1
  apply List.filter_congr
  intro p _
  simp only [Function.comp, same_int]
theorem Dm_put (ms : Ms) (x : Int) (b : Nat) : (Dm ms).put (.int .i64 x) (.held (ptrV b)) = Dm (ptM ms x b) := by
  simp only [Dm, DataW.put, ptM, ents_ins, ents_dl]
theorem Dm_del (ms : Ms) (x : Int) : (Dm ms).del (.int .i64 x) = Dm (dlM ms x) := by
  simp only [Dm, DataW.del, ents_dl]
theorem Dm_size (ms : Ms) : Maps.size (Dm ms) = ms.length := by simp [Dm, Maps.size, ents]
theorem Dm_at (ms : Ms) (x : Int) (z : DataW Value) : (Dm ms).atKey (.int .i64 x) z = match lkM ms x with | some b => .held (ptrV b) | none => z := by
  simp only [Dm, DataW.atKey, ents, List.find?_map, lkM]
  have e : ((fun p : Lit × DataW Value => p.1.sameKey (.int .i64 x)) ∘ fun p : Int × Nat => (Lit.int .i64 p.1, DataW.held (ptrV p.2))) = fun p => p.1 == x := by
    funext p
    simp only [Function.comp, same_int]
  rw [e]
  cases ms.find? fun p => p.1 == x <;> rfl
theorem insM_perm (x : Int) (b : Nat) : ∀ ms : Ms, (insM x b ms).Perm ((x, b) :: ms)
  | [] => List.Perm.refl _
  | y :: r => by
    simp only [insM]
    split
    · exact List.Perm.refl _
    · exact ((insM_perm x b r).cons y).trans (List.Perm.swap _ _ _)
theorem ownsMap_tight {w : World} {b n : Nat} {D : DataW Value} (h : w.ownsMap Try.prog 3 Rv b n D) : w.ownsMap Try.prog 3 Rv b (Maps.size D) D := by
  obtain ⟨es, clock, hb, F, hs, rfl⟩ := h
  exact ⟨es, clock, hb, F, by simp [Maps.size, length_sorted], rfl⟩
theorem ownsMap_keep {w w' : World} {b n : Nat} {D : DataW Value} (h : w.ownsMap Try.prog 3 Rv b n D) (hk : w'.heap[b]? = w.heap[b]?) : w'.ownsMap Try.prog 3 Rv b n D := by
  obtain ⟨es, clock, hb, r⟩ := h
  exact ⟨es, clock, hk.trans hb, r⟩
theorem ownsMap_kind {w : World} {b n : Nat} {D : DataW Value} (h : w.ownsMap Try.prog 3 Rv b n D) : ∃ es clock, w.heap[b]? = some (.map es clock) := by
  obtain ⟨es, clock, hb, _⟩ := h
  exact ⟨es, clock, hb⟩
def Th.kb (t : Th) : Int × Nat := (t.id, t.b)
/-- timers at block sb: the map, the queue, and what they mean: the row s. All blocks lie in F. -/
structure Tx (w : World) (F : Nat → Prop) (sb : Nat) (mb : Option Nat) (v : Value) (q : List Th) (s : List Pr) : Prop where
  tq : Tq w sb (.map mb) v q
  hp : Hp q
  nn : mb = none → q = []
  map : ∀ b, mb = some b → ∃ ms, w.ownsMap Try.prog 3 Rv b q.length (Dm ms) ∧ ms.Perm (q.map Th.kb)
  perm : (q.map Th.pr).Perm s
  srt : Srt s
  dis : Dis s
  rng : ∀ p ∈ s, In64 p.1 ∧ In64 p.2
  fs : F sb
  fm : ∀ b, mb = some b → F b
  fq : ∀ k, own v q k → F k
variable {w w' : World} {F : Nat → Prop} {sb : Nat} {mb : Option Nat} {v : Value} {q : List Th} {s : List Pr}
theorem Tx.len (h : Tx w F sb mb v q s) : q.length = s.length := by rw [← h.perm.length_eq, List.length_map]
theorem Tx.qdis (h : Tx w F sb mb v q s) : (q.map Th.pr).Pairwise fun a b => a.1 ≠ b.1 := dis_perm h.dis h.perm.symm
theorem Tx.keep (h : Tx w F sb mb v q s) (hk : ∀ k, F k → k < w.heap.size → w'.heap[k]? = w.heap[k]?) : Tx w' F sb mb v q s where
  tq := ⟨h.tq.st.keep (hk sb h.fs h.tq.st.lt), h.tq.qu.keep fun k hq => hk k (h.fq k hq) (h.tq.qu.lt hq)⟩
  hp := h.hp
  nn := h.nn
  map := fun b hb => by
    obtain ⟨ms, h1, h2⟩ := h.map b hb
    exact ⟨ms, ownsMap_keep h1 (hk b (h.fm b hb) h1.lt), h2⟩
  perm := h.perm
  srt := h.srt
  dis := h.dis
  rng := h.rng
  fs := h.fs
  fm := h.fm
  fq := h.fq
theorem Tx.more {G : Nat → Prop} (h : Tx w F sb mb v q s) (hg : ∀ k, F k → k < w.heap.size → G k) : Tx w G sb mb v q s where
  tq := h.tq
  hp := h.hp
  nn := h.nn
  map := h.map
  perm := h.perm
  srt := h.srt
  dis := h.dis
  rng := h.rng
  fs := hg sb h.fs h.tq.st.lt
  fm := fun b hb => by
    obtain ⟨ms, h1, h2⟩ := h.map b hb
    exact hg b (h.fm b hb) h1.lt
  fq := fun k hk => hg k (h.fq k hk) (h.tq.qu.lt hk)
theorem mb_ne_sb (h : Tx w F sb mb v q s) {b : Nat} (hb : mb = some b) : b ≠ sb := by
  intro e
  obtain ⟨ms, h1, _⟩ := h.map b hb
  obtain ⟨es, clock, h2⟩ := ownsMap_kind h1
  have := h.tq.st
  rw [Cw, ← e, h2] at this
  cases this
theorem mb_ne_own (h : Tx w F sb mb v q s) {b : Nat} (hb : mb = some b) : ¬ own v q b := by
  intro e
  obtain ⟨ms, h1, _⟩ := h.map b hb
  obtain ⟨es, clock, h2⟩ := ownsMap_kind h1
  rcases h.tq.qu.kind e with ⟨cur, h3⟩ | ⟨cur, h3⟩ <;> rw [h2] at h3 <;> cases h3
/-- What the map answers of a number: the thing's place in the queue. -/
theorem Tx.find (h : Tx w F sb mb v q s) (x : Int) {ms : Ms} (hms : ms.Perm (q.map Th.kb)) :
    (get s x = none ∧ lkM ms x = none) ∨ ∃ (i : Nat) (t : Th), q[i]? = some t ∧ t.id = x ∧ get s x = some t.due ∧ lkM ms x = some t.b := by
  cases hg : get s x with
  | none =>
    refine Or.inl ⟨rfl, ?_⟩
    simp only [lkM, Option.map_eq_none_iff, List.find?_eq_none, beq_iff_eq]
    intro p hp e
    obtain ⟨t, ht, rfl⟩ := List.mem_map.1 (hms.mem_iff.1 hp)
    exact get_none hg t.pr (h.perm.mem_iff.1 (List.mem_map_of_mem ht)) e
  | some d =>
    obtain ⟨t, ht, e⟩ := List.mem_map.1 (h.perm.mem_iff.2 (get_mem hg))
    simp only [Th.pr, Prod.mk.injEq] at e
    obtain ⟨i, hi⟩ := List.getElem?_of_mem ht
    refine Or.inr ⟨i, t, hi, e.1, by rw [e.2], ?_⟩
    have hm : t.kb ∈ ms := hms.mem_iff.2 (List.mem_map_of_mem ht)
    cases hl : ms.find? fun p => p.1 == x with
    | none => exact absurd (by simp [Th.kb, e.1]) (List.find?_eq_none.1 hl t.kb hm)
    | some p =>
      have h1 := List.find?_some hl
      simp only [beq_iff_eq] at h1
      obtain ⟨t2, ht2, e2⟩ := List.mem_map.1 (hms.mem_iff.1 (List.mem_of_find?_eq_some hl))
      have : t2 = t := by
        obtain ⟨j, hj⟩ := List.getElem?_of_mem ht2
        by_cases hij : j = i
        · rw [hij, hi] at hj
          exact (Option.some.inj hj).symm
        · exfalso
          have h2 := List.pairwise_iff_getElem.1 h.qdis
          obtain ⟨i1, i2⟩ := List.getElem?_eq_some_iff.1 hi
          obtain ⟨j1, j2⟩ := List.getElem?_eq_some_iff.1 hj
          have h3 : t2.id = t.id := by rw [e.1, ← h1, ← e2]; rfl
          rcases Nat.lt_or_gt_of_ne hij with hlt | hlt
          · have := h2 j i (by simpa using j1) (by simpa using i1) hlt
            simp only [List.getElem_map, i2, j2, Th.pr] at this
            exact this h3
          · have := h2 i j (by simpa using i1) (by simpa using j1) hlt
            simp only [List.getElem_map, i2, j2, Th.pr] at this
            exact this h3.symm
      simp only [lkM, hl, Option.map_some, ← e2, this, Th.kb]
/-- The pointer that the map holds of a number. -/
def ptrO (o : Option Nat) : Value := match o with | some b => ptrV b | none => .pointer none
theorem look_no (h : Tx w F sb mb v q s) {x : Int} (hx : In64 x) :
    (∃ ms, ms.Perm (q.map Th.kb) ∧ (Instr.lookup 45 (.map mb) (.int .i64 x) false).run Try.prog w = .ok (ptrO (lkM ms x)) w) := by
  cases mb with
  | none =>
    refine ⟨[], by rw [h.nn rfl]; exact List.Perm.refl _, ?_⟩
    have := look_nil (w := w) false lawI Try.underlying45 (zero50 w) (key3 hx)
    rw [this]
    rfl
  | some b =>
    obtain ⟨ms, h1, h2⟩ := h.map b rfl
    refine ⟨ms, h2, ?_⟩
    obtain ⟨v, ps, hr, hv⟩ := h1.lookup lawI Try.underlying45 (zero50 w) (zd := .held (.pointer none)) rfl (key3 hx)
    rw [hr]
    have e : v = ptrO (lkM ms x) := by
      simp only [Option.some.injEq, Prod.mk.injEq, Dm_at] at hv
      have hv1 := hv.1
      simp only [ptrO]
      cases hl : lkM ms x <;> rw [hl] at hv1 <;> simp only [DataW.held.injEq] at hv1 <;> rw [hv1]
    rw [e]
end Go.Proofs.Ytilaankipjcgaaa
