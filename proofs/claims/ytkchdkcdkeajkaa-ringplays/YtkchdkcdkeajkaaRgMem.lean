/-
  A ring in memory (Rg); empty, place, takes, Frames, by contracts.
-/
import Derived.Test.YtkchdkcdkeajkaaRgPlain
import Derived.Test.YtkchdkcdkeajkaaRgIs
import Derived.Laws.MakeOwn
import Derived.Deep.RegionHeld3
namespace Go.Proofs.Ytkchdkcdkeajkaa
open Go.RowKit
/-- A ring of n places at block rb, its places in block pb. -/
structure Rg (w : World) (rb pb n a : Nat) (L : List Sp) : Prop where
  r : Cw w rb [.slice (some ⟨pb, 0, none⟩) n n, .int .i64 (a : Int), .int .i64 ((a + L.length : Nat) : Int)] 46
  p : ∃ ps, Cw w pb (cellsS ps) 35 ∧ Pl n a L ps
  k : Rk n a L
  ne : rb ≠ pb
  n1 : 1 ≤ n
  n2 : n ≤ 256
theorem Rg.keep {w w' : World} {rb pb n a : Nat} {L : List Sp} (h : Rg w rb pb n a L) (h1 : w'.heap[rb]? = w.heap[rb]?) (h2 : w'.heap[pb]? = w.heap[pb]?) : Rg w' rb pb n a L := by
  obtain ⟨ps, hp, hl⟩ := h.p
  exact ⟨h.r.keep h1, ⟨ps, hp.keep h2, hl⟩, h.k, h.ne, h.n1, h.n2⟩
theorem Rg.lt {w : World} {rb pb n a : Nat} {L : List Sp} (h : Rg w rb pb n a L) : rb < w.heap.size ∧ pb < w.heap.size := by
  obtain ⟨ps, hp, _⟩ := h.p
  exact ⟨h.r.lt, hp.lt⟩
theorem Rg.below {w w' : World} {rb pb n a : Nat} {L : List Sp} {B : Nat} (h : Rg w rb pb n a L) (hb : Below B w w') (hB : w.heap.size ≤ B) : Rg w' rb pb n a L :=
  h.keep (hb.block _ (by have := h.lt; omega)) (hb.block _ (by have := h.lt; omega))
theorem empty_nil (w : World) : Calls Try.prog 19 #[.pointer none] w fun e w' => e = .returned (.bool true) ∧ Sm w w' := by
  go_enter Try.func19, Try.ntmps19
  go_wp2_with fail
  go_quiet (fail)
  go_wp2_with fail
  go_ret
  exact ⟨rfl, ⟨rfl, rfl, rfl, rfl⟩⟩
theorem empty_any {w : World} {rb pb n a : Nat} {L : List Sp} (h : Rg w rb pb n a L) : Calls Try.prog 19 #[.pointer (some ⟨rb, 0, none⟩)] w fun e w' => e = .returned (.bool (decide (L = []))) ∧ Sm w w' := by
  have c1 := h.r.cell 1
  have c2 := h.r.cell 2
  simp only [List.getElem?_cons_succ, List.getElem?_cons_zero] at c1 c2
  by_cases hl : L = []
  · have e : ((a + L.length : Nat) : Int) = (a : Int) := by rw [hl]; rfl
    rw [e] at c2
    have hd : decide (L = []) = true := by simp [hl]
    rw [hd]
    clear e hl h hd
    generalize (a : Int) = x at *
    go_enter Try.func19, Try.ntmps19
    go_wp2_with fail
    go_quiet (fail)
    go_wp2_with fail
    go_ret
    exact ⟨by simp, ⟨rfl, rfl, rfl, rfl⟩⟩
  · have hp : 0 < L.length := List.length_pos_iff.2 hl
    have e : (((a : Int)) == ((a + L.length : Nat) : Int)) = false := by rw [beq_eq_false_iff_ne]; omega
    have hd : decide (L = []) = false := by simp [hl]
    rw [hd]
    clear hl h hd hp
    generalize ((a + L.length : Nat) : Int) = y at *
    generalize (a : Int) = x at *
    go_enter Try.func19, Try.ntmps19
    go_wp2_with fail
    go_quiet (fail)
    go_wp2_with fail
    go_ret
    exact ⟨by simp, ⟨rfl, rfl, rfl, rfl⟩⟩
theorem place_any {w : World} {rb pb n a : Nat} {L : List Sp} (h : Rg w rb pb n a L) (f : Nat) : Calls Try.prog 20 #[.pointer (some ⟨rb, 0, none⟩), .int .i64 (f : Int)] w fun e w' => e = .returned (.pointer (some ⟨pb, f % n * 20, none⟩)) ∧ Sm w w' := by
  have c0 := h.r.cell 0
  simp only [List.getElem?_cons_zero] at c0
  have hn1 := h.n1
  have hn2 := h.n2
  obtain ⟨m, hm⟩ : ∃ m, m = f % n := ⟨_, rfl⟩
  have hmn : m < n := by rw [hm]; exact Nat.mod_lt _ hn1
  have e1 : ((f : Int)).tmod (n : Int) = (m : Int) := by rw [hm]; rfl
  have e2 : IntKind.i64.wrap (m : Int) = (m : Int) := by simp [IntKind.wrap, IntKind.bits, IntKind.signed]; omega
  have e3 : ¬ (n : Int) = 0 := by omega
  have e4 : ¬ n = 0 := by omega
  have e5 : (m : Int) < (n : Int) := by omega
  have e6 : (0 : Int) ≤ (m : Int) := by omega
  rw [← hm]
  clear h hm
  go_enter Try.func20, Try.ntmps20
  go_wp2_with fail
  go_region
  go_wp2_with fail
  go_ret
  exact ⟨by simp, ⟨rfl, rfl, rfl, rfl⟩⟩
end Go.Proofs.Ytkchdkcdkeajkaa
