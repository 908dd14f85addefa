/-
  The document's reading of a line: plain facts.
-/
import Derived.Test.YtddmnpfebajnmaaDoorRead
namespace Go.Proofs.YtddmnpfebajnmaaDoor
open Go.RowKit
/-- A line, cut at its first blank: nm ahead of it; num behind it, if there is one. -/
structure Cu (ln nm num : List UInt8) : Prop where
  c1 : (Lib.cut ln [32]).1 = nm
  c2 : (Lib.cut ln [32]).2.1 = num
  no : (32 : UInt8) ∉ nm
  all : (ln = nm ∧ num = []) ∨ ln = nm ++ 32 :: num
theorem Cu.of (ln : List UInt8) : ∃ nm num, Cu ln nm num := by
  rcases parted 32 ln with h | ⟨a, b, rfl, h⟩
  · exact ⟨ln, [], by rw [cut_no 32 ln h], by rw [cut_no 32 ln h], h, Or.inl ⟨rfl, rfl⟩⟩
  · exact ⟨a, b, by rw [cut_at 32 a b h], by rw [cut_at 32 a b h], h, Or.inr rfl⟩
theorem Cu.len {ln nm num : List UInt8} (h : Cu ln nm num) : nm.length ≤ ln.length := by
  rcases h.all with ⟨e, _⟩ | e
  · rw [e]; exact Nat.le_refl _
  · rw [e]; simp
theorem Cu.take {ln nm num : List UInt8} (h : Cu ln nm num) : ln.take nm.length = nm := by
  rcases h.all with ⟨e, _⟩ | e
  · rw [e]; exact List.take_length
  · rw [e]; simp
theorem Cu.ne {ln nm num : List UInt8} (h : Cu ln nm num) {j : Nat} (hj : j < nm.length) {d : UInt8} (hd : ln[j]? = some d) : d ≠ 32 := by
  intro e
  subst e
  have : nm[j]? = some 32 := by
    rw [← h.take, List.getElem?_take_of_lt hj]
    exact hd
  exact h.no (List.mem_of_getElem? this)
theorem Cu.more {ln nm num : List UInt8} (h : Cu ln nm num) (hl : nm.length < ln.length) : ln = nm ++ 32 :: num := by
  rcases h.all with ⟨e, _⟩ | e
  · rw [e] at hl; omega
  · exact e
theorem Cu.full {ln nm num : List UInt8} (h : Cu ln nm num) (hl : nm.length = ln.length) : ln = nm ∧ num = [] := by
  rcases h.all with h' | e
  · exact h'
  · rw [e] at hl; simp at hl
variable {ln nm num : List UInt8}
theorem rd_no1 (h : Cu ln nm num) (hF : FindA nm 0) : readL ln = none := read_no1 (by rw [h.c1]; exact hF)
theorem rd_no2 (h : Cu ln nm num) (hF : 11 < num.length) : readL ln = none := read_no2 (by rw [h.c2]; exact hF)
theorem rd_plain (h : Cu ln nm num) {o : Nat} (hF : FindA nm o) (h1 : 1 ≤ o) (h2 : o ≤ 22) (ha : hasA (o : Int) = false) : readL ln = if nm.length = ln.length then some ((o : Int), 0) else none := by
  have hn : nameL o = nm := by
    rcases hF with ⟨_, _, e⟩ | ⟨e, _⟩
    · exact e
    · omega
  have hli : lineL ((o : Int), 0) = nm := by simp [lineL, ha, hn]
  split
  · rename_i e
    refine readL_some ⟨⟨by simp only; omega, by simp only; omega⟩, by rw [hli, (h.full e).1], fun _ => rfl, fun hh => ?_⟩
    simp only at hh
    rw [ha] at hh
    cases hh
  · rename_i e
    refine readL_none ?_
    rintro ⟨x, hx⟩
    obtain ⟨e1, e2⟩ := read_op (o := o) (by rw [h.c1]; exact hF) hx
    have e3 := hx.none_ (by rw [e1]; exact ha)
    have e4 : x = ((o : Int), 0) := Prod.ext e1 e3
    have := hx.line
    rw [e4, hli] at this
    exact e (by rw [this])
theorem rd_no4 (h : Cu ln nm num) {o : Nat} (hF : FindA nm o) (ha : hasA (o : Int) = true) (hl : nm.length = ln.length) : readL ln = none := by
  refine readL_none ?_
  rintro ⟨x, hx⟩
  obtain ⟨e1, e2⟩ := read_op (o := o) (by rw [h.c1]; exact hF) hx
  rw [e1, ha, if_pos rfl, h.c2, (h.full hl).2] at e2
  have := atoi_itoa x.2
  rw [← e2] at this
  cases this
/-- The sign, and what stands behind it. -/
def sgn (neg : Bool) (t : List UInt8) : List UInt8 := if neg then 45 :: t else t
theorem rd_body (h : Cu ln nm num) {o : Nat} (hF : FindA nm o) (ha : hasA (o : Int) = true) {neg : Bool} {t : List UInt8} (hs : num = sgn neg t) (hp : neg = false → ∀ r, num ≠ 45 :: r) {x : Ii} (hx : Ln ln x) :
    x.1 = o ∧ num = Lib.itoa x.2 ∧ (neg = decide (x.2 < 0)) ∧ t = Lib.decDigits x.2.natAbs := by
  obtain ⟨e1, e2⟩ := read_op (o := o) (by rw [h.c1]; exact hF) hx
  rw [e1, ha, if_pos rfl, h.c2] at e2
  refine ⟨e1, e2, ?_⟩
  unfold Lib.itoa at e2
  by_cases hn : x.2 < 0
  · rw [if_pos hn] at e2
    cases neg with
    | false => exact absurd e2 (hp rfl _)
    | true =>
      simp only [sgn, if_true] at hs
      rw [hs] at e2
      simp only [List.cons.injEq, true_and] at e2
      exact ⟨by simp [hn], e2⟩
  · rw [if_neg hn] at e2
    have e3 : x.2.toNat = x.2.natAbs := by omega
    rw [e3] at e2
    cases neg with
    | true =>
      simp only [sgn, if_true] at hs
      rw [hs] at e2
      have := (decFrom_dec x.2.natAbs).2.1 45 (by rw [← e2]; simp)
      exact absurd this (by decide)
    | false =>
      simp only [sgn] at hs
      exact ⟨by simp [hn], by rw [← e2, hs]; rfl⟩
theorem rd_nondig (h : Cu ln nm num) {o : Nat} (hF : FindA nm o) (ha : hasA (o : Int) = true) {neg : Bool} {t : List UInt8} (hs : num = sgn neg t) (hp : neg = false → ∀ r, num ≠ 45 :: r) {c : UInt8} (hc : c ∈ t) (hd : c.toNat < 48 ∨ 57 < c.toNat) : readL ln = none := by
  refine readL_none ?_
  rintro ⟨x, hx⟩
  obtain ⟨_, _, _, e⟩ := rd_body h hF ha hs hp hx
  have := (decFrom_dec x.2.natAbs).2.1 c (by rw [← e]; exact hc)
  omega
theorem rd_num (h : Cu ln nm num) {o : Nat} (hF : FindA nm o) (h1 : 1 ≤ o) (h2 : o ≤ 22) (ha : hasA (o : Int) = true) (hl : num.length ≤ 11) (hm : nm.length < ln.length) {neg : Bool} {t : List UInt8} (hs : num = sgn neg t) (hp : neg = false → ∀ r, num ≠ 45 :: r) {V : Nat} (hV : Lib.decFrom 0 t = some V) {v : Int} (hv : v = if neg then -(V : Int) else (V : Int)) :
    readL ln = if Lib.itoa v = num then some ((o : Int), v) else none := by
  have hn : nameL o = nm := by
    rcases hF with ⟨_, _, e⟩ | ⟨e, _⟩
    · exact e
    · omega
  split
  · rename_i e
    refine readL_some ⟨⟨by simp only; omega, by simp only; omega⟩, ?_, fun hh => ?_, fun _ => by simp only; rw [e]; exact hl⟩
    · rw [h.more hm]
      simp [lineL, ha, hn, e]
    · simp only at hh
      rw [ha] at hh
      cases hh
  · rename_i e
    refine readL_none ?_
    rintro ⟨x, hx⟩
    obtain ⟨e1, e2, e3, e4⟩ := rd_body h hF ha hs hp hx
    have hd := (decFrom_dec x.2.natAbs).1
    rw [← e4, hV] at hd
    have hd' := Option.some.inj hd
    refine e ?_
    rw [e2]
    congr 1
    rw [hv, e3, hd']
    by_cases hx0 : x.2 < 0
    · simp [hx0]; omega
    · simp [hx0]; omega
theorem decFrom_lt : ∀ (l : List UInt8) (acc V k : Nat), Lib.decFrom acc l = some V → acc < 10 ^ k → V < 10 ^ (k + l.length)
  | [], acc, V, k, h, hk => by
    simp only [Lib.decFrom, Option.some.injEq] at h
    subst h
    simpa using hk
  | c :: l, acc, V, k, h, hk => by
    simp only [Lib.decFrom] at h
    split at h
    · rename_i d hd
      have hd9 : d ≤ 9 := by
        unfold Lib.digitVal at hd
        split at hd
        · simp only [Option.some.injEq] at hd; omega
        · cases hd
      have := decFrom_lt l _ V (k + 1) h (by rw [Nat.pow_succ]; omega)
      rw [List.length_cons, show k + (l.length + 1) = k + 1 + l.length by omega]
      exact this
    · cases h
end Go.Proofs.YtddmnpfebajnmaaDoor
namespace Go.Proofs.YtddmnpfebajnmaaDoor
open Go.RowKit
/-- What reading a line leaves. -/
def RdPost (ln : List UInt8) (w : World) (e : Ending) (w' : World) : Prop := ∃ o a ok, e = .returned (.tuple #[.agg #[.int .i64 o, .int .i64 a], .bool ok]) ∧ ReadP ln o a ok ∧ Below w.heap.size w w'
theorem RdPost.mk {ln : List UInt8} {w w' : World} {e : Ending} {o a : Int} {ok : Bool} (he : e = .returned (.tuple #[.agg #[.int .i64 o, .int .i64 a], .bool ok])) (hp : ReadP ln o a ok) (hb : Below w.heap.size w w') : RdPost ln w e w' := ⟨o, a, ok, he, hp, hb⟩
end Go.Proofs.YtddmnpfebajnmaaDoor
