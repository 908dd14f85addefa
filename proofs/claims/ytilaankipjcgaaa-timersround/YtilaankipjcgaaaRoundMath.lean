/-
  TimersRound: plain facts on things that come round.
-/
import Derived.Test.YtilaankipjcgaaaFullWalk
namespace Go.Proofs.Ytilaankipjcgaaa
theorem dues_filter : ∀ {s : List Pr} (_ : Srt s) (now : Int), dues s now = (s.filter fun p => decide (p.2 ≤ now)).map (·.1) ∧ rest s now = s.filter fun p => decide (now < p.2)
  | [], _, now => ⟨rfl, rfl⟩
  | p :: r, h, now => by
    have hc := List.pairwise_cons.1 h
    obtain ⟨i1, i2⟩ := dues_filter hc.2 now
    by_cases hle : p.2 ≤ now
    · have hn : ¬ now < p.2 := by omega
      rw [dues_cons hle, rest_cons hle, i1, i2]
      simp [hle, hn]
    · have hn : now < p.2 := by omega
      rw [dues_stop hn, rest_stop hn]
      have ha : ∀ q ∈ r, now < q.2 := fun q hq => by
        have := hc.1 q hq
        unfold bef at this
        omega
      constructor
      · have : r.filter (fun p => decide (p.2 ≤ now)) = [] := by
          rw [List.filter_eq_nil_iff]
          intro q hq
          have := ha q hq
          simp; omega
        simp [hle, this]
      · have : r.filter (fun p => decide (now < p.2)) = r := by
          rw [List.filter_eq_self]
          intro q hq
          simp [ha q hq]
        simp [hn, this]
theorem dues_mem {s : List Pr} (h : Srt s) {now id : Int} : id ∈ dues s now ↔ ∃ d, (id, d) ∈ s ∧ d ≤ now := by
  rw [(dues_filter h now).1]
  simp only [List.mem_map, List.mem_filter, decide_eq_true_eq]
  constructor
  · rintro ⟨p, ⟨h1, h2⟩, rfl⟩
    exact ⟨p.2, h1, h2⟩
  · rintro ⟨d, h1, h2⟩
    exact ⟨(id, d), ⟨h1, h2⟩, rfl⟩
theorem rest_mem {s : List Pr} (h : Srt s) {now : Int} {p : Pr} : p ∈ rest s now ↔ p ∈ s ∧ now < p.2 := by
  rw [(dues_filter h now).2]
  simp
theorem dues_rest_len (s : List Pr) (now : Int) : (dues s now).length + (rest s now).length = s.length := by
  have := congrArg List.length (List.takeWhile_append_dropWhile (p := fun p : Pr => decide (p.2 ≤ now)) (l := s))
  rw [List.length_append] at this
  simp only [dues, rest, List.length_map]
  exact this
/-- All that is due has the one time: by rising numbers. -/
theorem dues_rise {s : List Pr} (h : Srt s) {now : Int} (ha : ∀ p ∈ s, now ≤ p.2) : (dues s now).Pairwise (· < ·) := by
  rw [(dues_filter h now).1, List.pairwise_map]
  refine (List.Pairwise.filter _ h).imp_of_mem fun {a b} hma hmb hab => ?_
  simp only [List.mem_filter, decide_eq_true_eq] at hma hmb
  have h1 := ha a hma.1
  have h2 := ha b hmb.1
  unfold bef at hab
  omega
/-- The next time of a thing that came round c times. -/
def nxt (zs cs : List Int) (i : Nat) : Int := cs.getD i 0 * zs.getD i 0 + zs.getD i 0
/-- The things but those of out, each at its next time. -/
def Mem (s : List Pr) (zs cs out : List Int) : Prop := ∀ p : Pr, p ∈ s ↔ ∃ i : Nat, i < zs.length ∧ (i : Int) ∉ out ∧ p = ((i : Int), nxt zs cs i)
/-- How it stands ahead of a time. -/
structure OI (zs : List Int) (now : Int) (s : List Pr) (cs : List Int) : Prop where
  cl : cs.length = zs.length
  mem : Mem s zs cs []
  len : s.length = zs.length
  each : ∀ i, i < zs.length → 0 ≤ cs.getD i 0 ∧ now ≤ nxt zs cs i ∧ (cs.getD i 0 = 0 ∨ cs.getD i 0 * zs.getD i 0 < now)
/-- How it stands when the things of out are still to be set. -/
structure II (zs : List Int) (now : Int) (out : List Int) (s : List Pr) (cs : List Int) : Prop where
  cl : cs.length = zs.length
  mem : Mem s zs cs out
  len : s.length + out.length = zs.length
  yet : ∀ i, i < zs.length → 0 ≤ cs.getD i 0 ∧ ((i : Int) ∈ out → nxt zs cs i = now) ∧ ((i : Int) ∉ out → now < nxt zs cs i ∧ cs.getD i 0 * zs.getD i 0 ≤ now)
  sub : ∀ x ∈ out, ∃ i : Nat, i < zs.length ∧ x = (i : Int)
theorem OI.due {zs cs : List Int} {s : List Pr} {now : Int} (h : OI zs now s cs) (hs : Srt s) (h0 : 0 ≤ now) : II zs now (dues s now) (rest s now) cs ∧ (dues s now).Pairwise (· < ·) := by
  have hin : ∀ i : Nat, i < zs.length → ((i : Int) ∈ dues s now ↔ nxt zs cs i ≤ now) := by
    intro i hi
    rw [dues_mem hs]
    constructor
    · rintro ⟨d, h1, h2⟩
      obtain ⟨j, _, _, e⟩ := (h.mem _).1 h1
      injection e with e1 e2
      have : i = j := by omega
      subst this
      omega
    · intro h2
      exact ⟨_, (h.mem _).2 ⟨i, hi, by simp, rfl⟩, h2⟩
  refine ⟨⟨h.cl, fun p => ?_, by rw [Nat.add_comm, dues_rest_len, h.len], fun i hi => ?_, fun x hx => ?_⟩, dues_rise hs fun p hp => ?_⟩
  · rw [rest_mem hs, h.mem]
    constructor
    · rintro ⟨⟨i, hi, _, rfl⟩, h2⟩
      exact ⟨i, hi, fun e => by have := (hin i hi).1 e; simp only at h2; omega, rfl⟩
    · rintro ⟨i, hi, h2, rfl⟩
      refine ⟨⟨i, hi, by simp, rfl⟩, ?_⟩
      have : ¬ nxt zs cs i ≤ now := fun e => h2 ((hin i hi).2 e)
      simp only
      omega
  · obtain ⟨h1, h2, h3⟩ := h.each i hi
    refine ⟨h1, fun e => by have := (hin i hi).1 e; omega, fun e => ?_⟩
    have : ¬ nxt zs cs i ≤ now := fun e2 => e ((hin i hi).2 e2)
    refine ⟨by omega, ?_⟩
    rcases h3 with h3 | h3
    · rw [h3]; simpa using h0
    · omega
  · obtain ⟨d, h1, _⟩ := (dues_mem hs).1 hx
    obtain ⟨i, hi, _, e⟩ := (h.mem _).1 h1
    injection e with e1 e2
    exact ⟨i, hi, e1⟩
  · obtain ⟨i, hi, _, rfl⟩ := (h.mem _).1 hp
    exact (h.each i hi).2.1
theorem II.step {zs cs : List Int} {s : List Pr} {now : Int} {i : Nat} {out : List Int} (h : II zs now ((i : Int) :: out) s cs) (hz : 1 ≤ zs.getD i 0) (hn : (i : Int) ∉ out) :
    II zs now out (put s (i : Int) (now + zs.getD i 0)) (cs.set i (cs.getD i 0 + 1)) ∧ get s (i : Int) = none := by
  obtain ⟨i', hi', ei⟩ := h.sub _ List.mem_cons_self
  obtain rfl : i = i' := by omega
  have hci : i < cs.length := by rw [h.cl]; exact hi'
  have hnone : get s (i : Int) = none := by
    cases e : get s (i : Int) with
    | none => rfl
    | some d =>
      obtain ⟨j, _, h2, e2⟩ := (h.mem _).1 (get_mem e)
      injection e2 with e3 _
      exact absurd (by rw [← e3]; exact List.mem_cons_self) h2
  have hrm := rm_none hnone
  have hgi : (cs.set i (cs.getD i 0 + 1)).getD i 0 = cs.getD i 0 + 1 := by simp [List.getD, hci]
  have hgo : ∀ j, j ≠ i → (cs.set i (cs.getD i 0 + 1)).getD j 0 = cs.getD j 0 := fun j hj => by
    simp only [List.getD, List.getElem?_set, if_neg (Ne.symm hj)]
  have hni : nxt zs (cs.set i (cs.getD i 0 + 1)) i = now + zs.getD i 0 := by
    have := (h.yet i hi').2.1 List.mem_cons_self
    simp only [nxt] at this ⊢
    rw [hgi, Int.add_mul, Int.one_mul]
    omega
  have hno : ∀ j, j ≠ i → nxt zs (cs.set i (cs.getD i 0 + 1)) j = nxt zs cs j := fun j hj => by simp only [nxt]; rw [hgo j hj]
  refine ⟨⟨by simpa using h.cl, fun p => ?_, ?_, fun j hj => ?_, fun x hx => h.sub x (List.mem_cons_of_mem _ hx)⟩, hnone⟩
  · rw [(put_perm s _ _).mem_iff, hrm, List.mem_cons, h.mem]
    constructor
    · rintro (rfl | ⟨j, hj, h2, rfl⟩)
      · exact ⟨i, hi', hn, by rw [hni]⟩
      · have hji : j ≠ i := fun e => h2 (by rw [e]; exact List.mem_cons_self)
        exact ⟨j, hj, fun e => h2 (List.mem_cons_of_mem _ e), by rw [hno j hji]⟩
    · rintro ⟨j, hj, h2, rfl⟩
      by_cases e : j = i
      · subst e; exact Or.inl (by rw [hni])
      · refine Or.inr ⟨j, hj, fun e2 => ?_, by rw [hno j e]⟩
        rcases List.mem_cons.1 e2 with e3 | e3
        · exact e (by omega)
        · exact h2 e3
  · have h1 := (put_perm s (i : Int) (now + zs.getD i 0)).length_eq
    rw [hrm] at h1
    have h2 := h.len
    simp only [List.length_cons] at h1 h2
    omega
  · by_cases e : j = i
    · subst e
      obtain ⟨h1, h2, _⟩ := h.yet j hj
      have h3 := h2 List.mem_cons_self
      simp only [nxt] at h3
      refine ⟨by rw [hgi]; omega, fun e2 => absurd e2 hn, fun _ => ⟨by rw [hni]; omega, ?_⟩⟩
      rw [hgi, Int.add_mul, Int.one_mul]
      omega
    · obtain ⟨h1, h2, h3⟩ := h.yet j hj
      rw [hno j e, hgo j e]
      refine ⟨h1, fun e2 => h2 (List.mem_cons_of_mem _ e2), fun e2 => h3 fun e3 => ?_⟩
      rcases List.mem_cons.1 e3 with e4 | e4
      · exact e (by omega)
      · exact e2 e4
theorem II.done {zs cs : List Int} {s : List Pr} {now : Int} (h : II zs now [] s cs) : OI zs (now + 1) s cs := by
  refine ⟨h.cl, h.mem, by simpa using h.len, fun i hi => ?_⟩
  obtain ⟨h1, _, h3⟩ := h.yet i hi
  obtain ⟨h4, h5⟩ := h3 (by simp)
  exact ⟨h1, by omega, Or.inr (by omega)⟩
theorem II.count {zs cs : List Int} {s : List Pr} {now : Int} {out : List Int} (h : II zs now out s cs) {i : Nat} (hi : i < zs.length) (hz : 1 ≤ zs.getD i 0) : 0 ≤ cs.getD i 0 ∧ cs.getD i 0 ≤ now := by
  obtain ⟨h1, h2, h3⟩ := h.yet i hi
  have hle : cs.getD i 0 ≤ cs.getD i 0 * zs.getD i 0 := by
    have := Int.mul_le_mul_of_nonneg_left hz h1
    rwa [Int.mul_one] at this
  refine ⟨h1, ?_⟩
  by_cases e : (i : Int) ∈ out
  · have := h2 e
    simp only [nxt] at this
    omega
  · have := (h3 e).2
    omega
theorem OI.end {zs cs : List Int} {s : List Pr} {til : Int} (h : OI zs (til + 1) s cs) (h0 : 0 ≤ til) {i : Nat} (hi : i < zs.length) (hz : 1 ≤ zs.getD i 0) : til / zs.getD i 0 = cs.getD i 0 := by
  obtain ⟨h1, h2, h3⟩ := h.each i hi
  simp only [nxt] at h2
  have h4 : cs.getD i 0 * zs.getD i 0 ≤ til := by
    rcases h3 with h3 | h3
    · rw [h3]; simpa using h0
    · omega
  apply Int.le_antisymm
  · apply Int.le_of_lt_add_one
    rw [Int.ediv_lt_iff_lt_mul (by omega), Int.add_mul, Int.one_mul]
    omega
  · rw [Int.le_ediv_iff_mul_le (by omega)]
    exact h4
/-- The first of them are set. -/
structure BI (zs : List Int) (k : Nat) (s : List Pr) : Prop where
  mem : ∀ p : Pr, p ∈ s ↔ ∃ i : Nat, i < k ∧ p = ((i : Int), zs.getD i 0)
  len : s.length = k
theorem BI.zero (zs : List Int) : BI zs 0 [] := ⟨fun p => by simp, rfl⟩
theorem BI.step {zs : List Int} {k : Nat} {s : List Pr} (h : BI zs k s) (hk : k < 4096) : canS s (k : Int) = true ∧ BI zs (k + 1) (setS s (k : Int) (zs.getD k 0)) := by
  have hc : canS s (k : Int) = true := by simp [canS, h.len, hk]
  have hnone : get s (k : Int) = none := by
    cases e : get s (k : Int) with
    | none => rfl
    | some d =>
      obtain ⟨j, hj, e2⟩ := (h.mem _).1 (get_mem e)
      injection e2 with e3 _
      omega
  have hrm := rm_none hnone
  refine ⟨hc, ?_⟩
  simp only [setS, hc, if_true]
  refine ⟨fun p => ?_, ?_⟩
  · rw [(put_perm s _ _).mem_iff, hrm, List.mem_cons, h.mem]
    constructor
    · rintro (rfl | ⟨j, hj, rfl⟩)
      · exact ⟨k, by omega, rfl⟩
      · exact ⟨j, by omega, rfl⟩
    · rintro ⟨j, hj, rfl⟩
      by_cases e : j = k
      · subst e; exact Or.inl rfl
      · exact Or.inr ⟨j, by omega, rfl⟩
  · rw [(put_perm s _ _).length_eq, hrm, List.length_cons, h.len]
theorem BI.start {zs : List Int} {s : List Pr} (h : BI zs zs.length s) (hz : ∀ i, i < zs.length → 1 ≤ zs.getD i 0) : OI zs 0 s (List.replicate zs.length 0) := by
  have hg : ∀ i, (List.replicate zs.length (0 : Int)).getD i 0 = 0 := fun i => by
    simp only [List.getD, List.getElem?_replicate]
    split <;> rfl
  have hx : ∀ i, nxt zs (List.replicate zs.length 0) i = zs.getD i 0 := fun i => by simp only [nxt]; rw [hg]; omega
  refine ⟨by simp, fun p => ?_, h.len, fun i hi => ?_⟩
  · rw [h.mem]
    constructor
    · rintro ⟨i, hi, rfl⟩; exact ⟨i, hi, by simp, by rw [hx]⟩
    · rintro ⟨i, hi, _, rfl⟩; exact ⟨i, hi, by rw [hx]⟩
  · have := hz i hi
    rw [hg, hx]
    exact ⟨by omega, by omega, Or.inl rfl⟩
end Go.Proofs.Ytilaankipjcgaaa
