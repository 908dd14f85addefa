/-
  Heaps as rows of things: plain facts, no walk. Before (bef), the parent's place (par), two places changed for each other (sw), what up and down keep (Up, Dn), rows in the order of their times and numbers (Srt, ins, rm, put).
-/
import Init
namespace Go.Proofs.Ytilaankipjcgaaa

/-- A thing: its block, its number, its time. -/
structure Th where
  b : Nat
  id : Int
  due : Int
/-- A number and its time. -/
abbrev Pr := Int × Int
def Th.pr (t : Th) : Pr := (t.id, t.due)
def bef (a b : Pr) : Prop := a.2 < b.2 ∨ (a.2 = b.2 ∧ a.1 < b.1)
instance (a b : Pr) : Decidable (bef a b) := inferInstanceAs (Decidable (_ ∨ _))
def befB (a b : Pr) : Bool := decide (bef a b)
theorem bef_asymm {a b : Pr} (h : bef a b) : ¬ bef b a := by unfold bef at *; omega
theorem bef_irrefl (a : Pr) : ¬ bef a a := by unfold bef; omega
theorem bef_trans {a b c : Pr} (h : bef a b) (k : bef b c) : bef a c := by unfold bef at *; omega
theorem bef_neg {a b c : Pr} (h : ¬ bef a b) (k : ¬ bef b c) : ¬ bef a c := by unfold bef at *; omega
theorem bef_total {a b : Pr} (h : a.1 ≠ b.1) : bef a b ∨ bef b a := by unfold bef; omega
theorem bef_eq {a b : Pr} (h : ¬ bef a b) (k : ¬ bef b a) : a = b := by
  unfold bef at *
  apply Prod.ext <;> omega

def par (k : Nat) : Nat := (k - 1) / 2
theorem par_lt {k : Nat} (h : 1 ≤ k) : par k < k := by unfold par; omega
theorem par_cases {k i : Nat} (h : 1 ≤ k) (e : par k = i) : k = 2 * i + 1 ∨ k = 2 * i + 2 := by unfold par at e; omega
theorem par_l (i : Nat) : par (2 * i + 1) = i := by unfold par; omega
theorem par_r (i : Nat) : par (2 * i + 2) = i := by unfold par; omega

def sw (g : Nat → Pr) (i j : Nat) : Nat → Pr := fun k => if k = i then g j else if k = j then g i else g k
theorem sw_i (g : Nat → Pr) (i j : Nat) : sw g i j i = g j := by simp [sw]
theorem sw_j (g : Nat → Pr) (i j : Nat) : sw g i j j = g i := by
  simp only [sw]
  by_cases h : j = i
  · simp [h]
  · simp [h]
theorem sw_o (g : Nat → Pr) {i j k : Nat} (h1 : k ≠ i) (h2 : k ≠ j) : sw g i j k = g k := by simp [sw, h1, h2]

def Heap (g : Nat → Pr) (n : Nat) : Prop := ∀ k, 1 ≤ k → k < n → ¬ bef (g k) (g (par k))
structure Up (g : Nat → Pr) (n j : Nat) : Prop where
  a : ∀ k, 1 ≤ k → k < n → k ≠ j → ¬ bef (g k) (g (par k))
  b : ∀ k, 1 ≤ k → k < n → par k = j → 1 ≤ j → ¬ bef (g k) (g (par j))
structure Dn (g : Nat → Pr) (n i0 i : Nat) : Prop where
  a : ∀ k, 1 ≤ k → k < n → par k ≠ i → k ≠ i0 → ¬ bef (g k) (g (par k))
  b : ∀ k, 1 ≤ k → k < n → par k = i → 1 ≤ i → ¬ bef (g k) (g (par i))
  c : i ≠ i0 → 1 ≤ i0 → ¬ bef (g i0) (g (par i0))
  le : i0 ≤ i

theorem Up.done {g : Nat → Pr} {n j : Nat} (h : Up g n j) (hj : j = 0 ∨ ¬ bef (g j) (g (par j))) : Heap g n := by
  intro k k1 kn
  by_cases e : k = j
  · subst e
    rcases hj with hj | hj
    · omega
    · exact hj
  · exact h.a k k1 kn e
theorem Up.step {g : Nat → Pr} {n j : Nat} (h : Up g n j) (hj : 1 ≤ j) (hb : bef (g j) (g (par j))) : Up (sw g (par j) j) n (par j) := by
  have hp := par_lt hj
  constructor
  · intro k k1 kn kp
    have hk := par_lt k1
    by_cases e : k = j
    · subst e
      rw [sw_j, sw_i]
      exact bef_asymm hb
    · rw [sw_o g kp e]
      by_cases e1 : par k = j
      · rw [e1, sw_j]
        exact h.b k k1 kn e1 hj
      · by_cases e2 : par k = par j
        · rw [e2, sw_i]
          intro hlt
          have := h.a k k1 kn e
          rw [e2] at this
          exact this (bef_trans hlt hb)
        · rw [sw_o g e2 e1]
          exact h.a k k1 kn e
  · intro k k1 kn kp p1
    have hpp := par_lt p1
    rw [sw_o g (k := par (par j)) (by omega) (by omega)]
    by_cases e : k = j
    · subst e
      rw [sw_j]
      exact h.a _ p1 (by omega) (by omega)
    · have hk := par_lt k1
      rw [sw_o g (by omega) e]
      have h1 := h.a k k1 kn e
      rw [kp] at h1
      exact bef_neg h1 (h.a _ p1 (by omega) (by omega))

theorem Dn.done {g : Nat → Pr} {n i0 i : Nat} (h : Dn g n i0 i) (hl : 2 * i + 1 < n → ¬ bef (g (2 * i + 1)) (g i)) (hr : 2 * i + 2 < n → ¬ bef (g (2 * i + 2)) (g i)) :
    (i0 < i → Heap g n) ∧ (i = i0 → Up g n i0) := by
  have kid : ∀ k, 1 ≤ k → k < n → par k = i → ¬ bef (g k) (g (par k)) := by
    intro k k1 kn e
    rw [e]
    rcases par_cases k1 e with rfl | rfl
    · exact hl kn
    · exact hr kn
  constructor
  · intro hlt k k1 kn
    by_cases e : par k = i
    · exact kid k k1 kn e
    · by_cases e0 : k = i0
      · subst e0
        exact h.c (by omega) k1
      · exact h.a k k1 kn e e0
  · intro e
    subst e
    constructor
    · intro k k1 kn kj
      by_cases e : par k = i
      · exact kid k k1 kn e
      · exact h.a k k1 kn e kj
    · intro k k1 kn kp i1
      exact h.b k k1 kn kp i1
/-- j: the lesser child of i. -/
theorem Dn.step {g : Nat → Pr} {n i0 i j : Nat} (h : Dn g n i0 i) (hj : j = 2 * i + 1 ∨ j = 2 * i + 2) (hjn : j < n) (hb : bef (g j) (g i))
    (hs : ∀ k, 1 ≤ k → k < n → par k = i → ¬ bef (g k) (g j)) : Dn (sw g i j) n i0 j := by
  have hle := h.le
  have pj : par j = i := by rcases hj with rfl | rfl; exact par_l i; exact par_r i
  have ij : i < j := by omega
  constructor
  · intro k k1 kn kp k0
    have hk := par_lt k1
    by_cases e : k = j
    · subst e
      rw [sw_j, pj, sw_i]
      exact bef_asymm hb
    · by_cases e1 : k = i
      · subst e1
        rw [sw_i, sw_o g (k := par k) (by omega) (by omega)]
        exact h.b j (by omega) hjn pj k1
      · rw [sw_o g e1 e]
        by_cases e2 : par k = i
        · rw [e2, sw_i]
          exact hs k k1 kn e2
        · rw [sw_o g e2 kp]
          exact h.a k k1 kn e2 k0
  · intro k k1 kn kp j1
    have hk := par_lt k1
    rw [pj, sw_i, sw_o g (by omega) (by omega)]
    have := h.a k k1 kn (by omega) (by omega)
    rw [kp] at this
    exact this
  · intro _ p1
    have hp := par_lt p1
    by_cases e : i = i0
    · subst e
      rw [sw_i, sw_o g (k := par i) (by omega) (by omega)]
      exact h.b j (by omega) hjn pj p1
    · rw [sw_o g (k := i0) (by omega) (by omega), sw_o g (k := par i0) (by omega) (by omega)]
      exact h.c e p1
  · omega
theorem Heap.first {g : Nat → Pr} {n : Nat} (h : Heap g n) : ∀ k, k < n → ¬ bef (g k) (g 0) := by
  intro k
  induction k using Nat.strongRecOn with
  | ind k ih =>
    intro kn
    by_cases e : k = 0
    · subst e; exact bef_irrefl _
    · have hp := par_lt (k := k) (by omega)
      exact bef_neg (h k (by omega) kn) (ih _ hp (by omega))
theorem Heap.less {g : Nat → Pr} {n m : Nat} (h : Heap g n) (hm : m ≤ n) : Heap g m := fun k k1 kn => h k k1 (by omega)
theorem Heap.congr {g g' : Nat → Pr} {n : Nat} (h : Heap g n) (he : ∀ k, k < n → g' k = g k) : Heap g' n := by
  intro k k1 kn
  have hp := par_lt k1
  rw [he k kn, he (par k) (by omega)]
  exact h k k1 kn
/-- One place of a heap gets something else. -/
theorem Heap.dn {g g' : Nat → Pr} {n i : Nat} (h : Heap g n) (he : ∀ k, k < n → k ≠ i → g' k = g k) (hi : i < n) : Dn g' n i i := by
  constructor
  · intro k k1 kn kp ki
    have hp := par_lt k1
    rw [he k kn ki, he (par k) (by omega) kp]
    exact h k k1 kn
  · intro k k1 kn kp i1
    have hk := par_lt k1
    have hp := par_lt i1
    rw [he k kn (by omega), he (par i) (by omega) (by omega)]
    have h1 := h k k1 kn
    rw [kp] at h1
    exact bef_neg h1 (h i i1 hi)
  · intro e; exact absurd rfl e
  · exact Nat.le_refl _
/-- Something new behind a heap. -/
theorem Heap.up {g : Nat → Pr} {n : Nat} (h : Heap g n) : Up g (n + 1) n := by
  constructor
  · intro k k1 kn kj
    exact h k k1 (by omega)
  · intro k k1 kn kp _
    have := par_lt k1
    omega

/-- The row's places as a function. -/
def d0 : Th := ⟨0, 0, 0⟩
def fn (q : List Th) (k : Nat) : Pr := (q.getD k d0).pr
def swp (q : List Th) (i j : Nat) : List Th := (q.set i (q.getD j d0)).set j (q.getD i d0)
theorem swp_len (q : List Th) (i j : Nat) : (swp q i j).length = q.length := by simp [swp]
theorem swp_get {q : List Th} {i j : Nat} (hi : i < q.length) (hj : j < q.length) (k : Nat) : (swp q i j)[k]? = if k = j then q[i]? else if k = i then q[j]? else q[k]? := by
  simp only [swp, List.getElem?_set, List.length_set]
  by_cases e : j = k
  · subst e; simp [hj, List.getD, hi]
  · by_cases e2 : i = k
    · subst e2
      have : ¬ i = j := fun h => e h.symm
      simp [e, this, hi, List.getD, hj]
    · have h1 : ¬ k = j := fun h => e h.symm
      have h2 : ¬ k = i := fun h => e2 h.symm
      simp [e, e2, h1, h2]
theorem fn_swp {q : List Th} {i j : Nat} (hi : i < q.length) (hj : j < q.length) (k : Nat) : fn (swp q i j) k = sw (fn q) i j k := by
  simp only [fn, sw, List.getD, swp_get hi hj]
  by_cases e : k = j
  · subst e
    by_cases e2 : k = i
    · subst e2; simp
    · simp [e2]
  · simp only [e, if_false]
    by_cases e2 : k = i <;> simp [e2]
theorem swp_perm {q : List Th} {i j : Nat} (hi : i < q.length) (hj : j < q.length) : (swp q i j).Perm q := by
  have h := Array.swap_perm (xs := q.toArray) (i := i) (j := j) (by simpa using hi) (by simpa using hj)
  have e : (q.toArray.swap i j (by simpa using hi) (by simpa using hj)).toList = swp q i j := by
    simp [Array.swap, swp, List.getD, hi, hj]
  have h2 := Array.perm_iff_toList_perm.1 h
  rw [e] at h2
  exact h2
theorem fn_funext {q : List Th} {i j : Nat} (hi : i < q.length) (hj : j < q.length) : fn (swp q i j) = sw (fn q) i j := funext (fn_swp hi hj)

/-- In the order of times, then numbers. -/
abbrev Srt (s : List Pr) : Prop := s.Pairwise bef
def ins (x : Pr) : List Pr → List Pr
  | [] => [x]
  | y :: r => if bef x y then x :: y :: r else y :: ins x r
def rm (s : List Pr) (id : Int) : List Pr := s.filter fun p => !(p.1 == id)
def put (s : List Pr) (id due : Int) : List Pr := ins (id, due) (rm s id)
/-- No number twice. -/
abbrev Dis (s : List Pr) : Prop := s.Pairwise fun a b => a.1 ≠ b.1
def get (s : List Pr) (id : Int) : Option Int := (s.find? fun p => p.1 == id).map (·.2)

theorem ins_perm (x : Pr) : ∀ s, (ins x s).Perm (x :: s)
  | [] => List.Perm.refl _
  | y :: r => by
    simp only [ins]
    split
    · exact List.Perm.refl _
    · exact ((ins_perm x r).cons y).trans (List.Perm.swap _ _ _)
theorem ins_srt {x : Pr} : ∀ {s : List Pr}, Srt s → (∀ p ∈ s, p.1 ≠ x.1) → Srt (ins x s)
  | [], _, _ => by simp [ins]
  | y :: r, h, hn => by
    simp only [ins]
    have h1 := List.pairwise_cons.1 h
    split
    · rename_i hb
      refine List.pairwise_cons.2 ⟨fun p hp => ?_, h⟩
      rcases List.mem_cons.1 hp with rfl | hp
      · exact hb
      · exact bef_trans hb (h1.1 p hp)
    · rename_i hb
      refine List.pairwise_cons.2 ⟨fun p hp => ?_, ins_srt h1.2 fun p hp => hn p (List.mem_cons_of_mem _ hp)⟩
      rcases List.mem_cons.1 ((ins_perm x r).mem_iff.1 hp) with rfl | hp
      · rcases bef_total (hn y List.mem_cons_self) with h2 | h2
        · exact h2
        · exact absurd h2 hb
      · exact h1.1 p hp
theorem rm_mem {s : List Pr} {id : Int} {p : Pr} : p ∈ rm s id ↔ p ∈ s ∧ p.1 ≠ id := by simp [rm]
theorem rm_srt {s : List Pr} (h : Srt s) (id : Int) : Srt (rm s id) := List.Pairwise.filter _ h
theorem rm_dis {s : List Pr} (h : Dis s) (id : Int) : Dis (rm s id) := List.Pairwise.filter _ h
theorem put_srt {s : List Pr} (h : Srt s) (id due : Int) : Srt (put s id due) := ins_srt (rm_srt h id) fun _ hp => (rm_mem.1 hp).2
theorem put_perm (s : List Pr) (id due : Int) : (put s id due).Perm ((id, due) :: rm s id) := ins_perm _ _
theorem dis_perm {s t : List Pr} (h : Dis s) (p : s.Perm t) : Dis t := p.pairwise h fun h e => h e.symm
theorem put_dis {s : List Pr} (h : Dis s) (id due : Int) : Dis (put s id due) :=
  dis_perm (List.pairwise_cons.2 ⟨fun _ hp e => (rm_mem.1 hp).2 e.symm, rm_dis h id⟩) (put_perm s id due).symm
theorem get_mem {s : List Pr} {id due : Int} (h : get s id = some due) : (id, due) ∈ s := by
  simp only [get, Option.map_eq_some_iff] at h
  obtain ⟨p, hp, rfl⟩ := h
  have h1 := List.find?_some hp
  have h2 := List.mem_of_find?_eq_some hp
  simp only [beq_iff_eq] at h1
  subst h1
  exact h2
theorem get_none {s : List Pr} {id : Int} (h : get s id = none) : ∀ p ∈ s, p.1 ≠ id := by
  intro p hp
  simp only [get, Option.map_eq_none_iff, List.find?_eq_none, beq_iff_eq] at h
  exact h p hp
theorem get_of_mem {s : List Pr} {id due : Int} (hd : Dis s) (h : (id, due) ∈ s) : get s id = some due := by
  cases e : get s id with
  | none => exact absurd rfl (get_none e _ h)
  | some x =>
    have hm := get_mem e
    by_cases hx : x = due
    · rw [hx]
    · have hne : (id, due) ≠ (id, x) := fun h => hx (by injection h with _ h2; exact h2.symm)
      exfalso
      have : ∀ {l : List Pr}, Dis l → (id, due) ∈ l → (id, x) ∈ l → False := by
        intro l hl
        induction l with
        | nil => intro h; cases h
        | cons y r ih =>
          intro h1 h2
          have hc := List.pairwise_cons.1 hl
          rcases List.mem_cons.1 h1 with e1 | e1 <;> rcases List.mem_cons.1 h2 with e2 | e2
          · exact hne (e1.trans e2.symm)
          · exact hc.1 _ e2 (by rw [← e1])
          · exact hc.1 _ e1 (by rw [← e2])
          · exact ih hc.2 e1 e2
      exact this hd h hm
theorem rm_none {s : List Pr} {id : Int} (h : get s id = none) : rm s id = s := by
  simp only [rm, List.filter_eq_self]
  intro p hp
  simp [get_none h p hp]
theorem rm_perm {s t : List Pr} (h : s.Perm t) (id : Int) : (rm s id).Perm (rm t id) := h.filter _
theorem rm_cons_eq {p : Pr} {s : List Pr} (h : ∀ x ∈ s, x.1 ≠ p.1) : rm (p :: s) p.1 = s := by
  simp only [rm, List.filter_cons, beq_self_eq_true, Bool.not_true, Bool.false_eq_true, if_false, List.filter_eq_self]
  intro x hx
  simp [h x hx]
/-- The first of a row in order is the least. -/
theorem srt_first {p : Pr} {s : List Pr} (h : Srt (p :: s)) {x : Pr} (hx : x ∈ p :: s) (hm : ∀ y ∈ p :: s, ¬ bef y x) : x = p := by
  rcases List.mem_cons.1 hx with rfl | h1
  · rfl
  · exact absurd ((List.pairwise_cons.1 h).1 x h1) (hm p List.mem_cons_self)
/-- Two rows in order of the same things are one. -/
theorem srt_eq : ∀ {s t : List Pr}, Srt s → Srt t → s.Perm t → s = t
  | [], t, _, _, hp => (List.Perm.nil_eq hp)
  | p :: s, [], _, _, hp => (List.Perm.nil_eq hp.symm).symm
  | p :: s, q :: t, hs, ht, hp => by
    have e : p = q := by
      apply srt_first ht (hp.mem_iff.1 List.mem_cons_self)
      intro y hy
      rcases List.mem_cons.1 (hp.mem_iff.2 hy) with rfl | h1
      · exact bef_irrefl _
      · exact bef_asymm ((List.pairwise_cons.1 hs).1 y h1)
    subst e
    rw [srt_eq (List.pairwise_cons.1 hs).2 (List.pairwise_cons.1 ht).2 ((List.perm_cons p).1 hp)]
/-- What is due, and what stays. -/
def dues (s : List Pr) (now : Int) : List Int := (s.takeWhile fun p => decide (p.2 ≤ now)).map (·.1)
def rest (s : List Pr) (now : Int) : List Pr := s.dropWhile fun p => decide (p.2 ≤ now)
end Go.Proofs.Ytilaankipjcgaaa
