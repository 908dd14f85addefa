/-
  A Queue in memory (Qp), and its rows.
-/
import Derived.Test.YtkjoadncbfhjfaaPlain
namespace Go.Proofs.Ytkjoadncbfhjfaa
open Go.RowKit
/-- The blocks of G may have changed; no block is new. -/
structure Og (G : Nat → Prop) (w w' : World) : Prop where
  os : w'.os = w.os
  tape : w'.tape = w.tape
  output : w'.output = w.output
  size : w'.heap.size = w.heap.size
  block : ∀ k, ¬ G k → w'.heap[k]? = w.heap[k]?
theorem Og.refl (G : Nat → Prop) (w : World) : Og G w w := ⟨rfl, rfl, rfl, rfl, fun _ _ => rfl⟩
theorem Og.trans {G : Nat → Prop} {a b c : World} (h : Og G a b) (k : Og G b c) : Og G a c := ⟨k.os.trans h.os, k.tape.trans h.tape, k.output.trans h.output, k.size.trans h.size, fun i hi => (k.block i hi).trans (h.block i hi)⟩
theorem Og.of {G : Nat → Prop} {g : Nat} {w w' : World} (h : Only g w w') (hg : G g) : Og G w w' := ⟨h.os, h.tape, h.output, h.size, fun k hk => h.block k fun e => hk (e ▸ hg)⟩
theorem Og.below {G : Nat → Prop} {w w' : World} {B : Nat} (h : Og G w w') (hB : ∀ k, G k → B ≤ k) : Below B w w' := ⟨h.os, h.tape, h.output, by rw [h.size]; exact Nat.le_refl _, fun k hk => h.block k fun hg => by have := hB k hg; omega⟩
theorem Og.cw {G : Nat → Prop} {w w' : World} {g : Nat} {cs : List Value} {t : TypeId} (h : Og G w w') (hc : Cw w g cs t) (hg : ¬ G g) : Cw w' g cs t := hc.keep (h.block g hg)
def cellsR (l : List Pl) : List Value := l.flatMap fun x => [.int .u16 x.1, .bool x.2]
theorem cellsR_len (l : List Pl) : (cellsR l).length = l.length * 2 := by
  induction l with
  | nil => rfl
  | cons x l ih => simp [cellsR] at *; omega
theorem cellsR_at : ∀ (l : List Pl) (i : Nat), i < l.length → (cellsR l)[i * 2]? = some (.int .u16 (at0 l i).1) ∧ (cellsR l)[i * 2 + 1]? = some (.bool (at0 l i).2)
  | [], i, h => by simp at h
  | y :: l, 0, h => ⟨rfl, rfl⟩
  | y :: l, i + 1, h => by
    have := cellsR_at l i (by simpa using h)
    have e : cellsR (y :: l) = .int .u16 y.1 :: .bool y.2 :: cellsR l := rfl
    rw [e, show (i + 1) * 2 = i * 2 + 1 + 1 by omega]
    simpa [at0] using this
theorem cellsR_set : ∀ (l : List Pl) (i : Nat) (x : Pl), i < l.length → ((cellsR l).set (i * 2) (.int .u16 x.1)).set (i * 2 + 1) (.bool x.2) = cellsR (l.set i x)
  | [], i, x, h => by simp at h
  | y :: l, 0, x, h => rfl
  | y :: l, i + 1, x, h => by
    have := cellsR_set l i x (by simpa using h)
    have e : cellsR (y :: l) = .int .u16 y.1 :: .bool y.2 :: cellsR l := rfl
    have e2 : cellsR ((y :: l).set (i + 1) x) = .int .u16 y.1 :: .bool y.2 :: cellsR (l.set i x) := rfl
    rw [e, e2, show (i + 1) * 2 = i * 2 + 1 + 1 by omega, ← this]
    simp
def slR (g n : Nat) : Value := .slice (some ⟨g, 0, none⟩) n n
/-- A Queue at block qb, its rows in blocks g0, g1, all its blocks in lo .. hi. -/
structure Qp (w : World) (lo hi qb g0 g1 : Nat) (l0 l1 : List Pl) : Prop where
  q : Cw w qb [slR g0 l0.length, slR g1 l0.length] 55
  r0 : Cw w g0 (cellsR l0) 70
  r1 : Cw w g1 (cellsR l1) 70
  len : l1.length = l0.length
  n1 : 1 ≤ l0.length
  n2 : l0.length ≤ 600
  a0 : g0 ≠ qb
  a1 : g1 ≠ qb
  a2 : g0 ≠ g1
  q' : lo ≤ qb ∧ qb < hi
  b0 : lo ≤ g0 ∧ g0 < hi
  b1 : lo ≤ g1 ∧ g1 < hi
section
variable {w w' : World} {lo hi qb g0 g1 : Nat} {l0 l1 : List Pl}
theorem Qp.keep (h : Qp w lo hi qb g0 g1 l0 l1) (hk : ∀ k, lo ≤ k → k < hi → w'.heap[k]? = w.heap[k]?) : Qp w' lo hi qb g0 g1 l0 l1 :=
  ⟨h.q.keep (hk _ h.q'.1 h.q'.2), h.r0.keep (hk _ h.b0.1 h.b0.2), h.r1.keep (hk _ h.b1.1 h.b1.2), h.len, h.n1, h.n2, h.a0, h.a1, h.a2, h.q', h.b0, h.b1⟩
theorem Qp.put0 (h : Qp w lo hi qb g0 g1 l0 l1) {l : List Pl} (hl : l.length = l0.length) (ho : Only g0 w w') (hc : Cw w' g0 (cellsR l) 70) : Qp w' lo hi qb g0 g1 l l1 :=
  ⟨by rw [hl]; exact ho.cw h.q (Ne.symm h.a0), hc, ho.cw h.r1 (Ne.symm h.a2), by rw [hl]; exact h.len, by rw [hl]; exact h.n1, by rw [hl]; exact h.n2, h.a0, h.a1, h.a2, h.q', h.b0, h.b1⟩
theorem Qp.put1 (h : Qp w lo hi qb g0 g1 l0 l1) {l : List Pl} (hl : l.length = l1.length) (ho : Only g1 w w') (hc : Cw w' g1 (cellsR l) 70) : Qp w' lo hi qb g0 g1 l0 l :=
  ⟨ho.cw h.q (Ne.symm h.a1), ho.cw h.r0 h.a2, hc, by rw [hl]; exact h.len, h.n1, h.n2, h.a0, h.a1, h.a2, h.q', h.b0, h.b1⟩
theorem row_nil (w : World) (p : Int) : Calls Try.prog 21 #[.pointer none, .int .i64 p] w fun e w' => e = .returned (.slice none 0 0) ∧ w' = w := by
  go_enter Try.func21, Try.ntmps21
  go_wp2_with fail
  go_ret
  exact ⟨rfl, rfl⟩
theorem row_no (w : World) (b : Addr) (p : Int) (hp : p < 0 ∨ 1 < p) : Calls Try.prog 21 #[.pointer (some b), .int .i64 p] w fun e w' => e = .returned (.slice none 0 0) ∧ w' = w := by
  by_cases h : p < 0
  · clear hp
    go_enter Try.func21, Try.ntmps21
    go_wp2_with fail
    go_ret
    exact ⟨rfl, rfl⟩
  · have h2 : 2 ≤ p := by omega
    clear hp
    go_enter Try.func21, Try.ntmps21
    go_wp2_with fail
    go_ret
    exact ⟨rfl, rfl⟩
theorem row_0 (h : Qp w lo hi qb g0 g1 l0 l1) : Calls Try.prog 21 #[.pointer (some ⟨qb, 0, none⟩), .int .i64 0] w fun e w' => e = .returned (slR g0 l0.length) ∧ w' = w := by
  have c := h.q.cell 0
  simp only [List.getElem?_cons_zero, slR] at c
  go_enter Try.func21, Try.ntmps21
  go_wp2_with fail
  go_ret
  exact ⟨rfl, rfl⟩
theorem row_1 (h : Qp w lo hi qb g0 g1 l0 l1) : Calls Try.prog 21 #[.pointer (some ⟨qb, 0, none⟩), .int .i64 1] w fun e w' => e = .returned (slR g1 l0.length) ∧ w' = w := by
  have c := h.q.cell 1
  simp only [List.getElem?_cons_succ, List.getElem?_cons_zero, slR] at c
  go_enter Try.func21, Try.ntmps21
  go_wp2_with fail
  go_ret
  exact ⟨rfl, rfl⟩
end
end Go.Proofs.Ytkjoadncbfhjfaa
