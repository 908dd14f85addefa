/-
  Both rings side by side, in a law's own blocks. No walk.
-/
import Derived.Test.YtkchdkcdkeajkaaRgRPutB
import Derived.Test.YtkchdkcdkeajkaaRgRef2
import Derived.Test.YtkchdkcdkeajkaaRgKnown
namespace Go.Proofs.Ytkchdkcdkeajkaa
open Go.RowKit
structure Pw (w W : World) (n a : Nat) (L M : List Sp) : Prop where
  rg : Rg W (w.heap.size + 1) w.heap.size n a L
  rr : Rr W (w.heap.size + 2) (w.heap.size + 3) n M
  em : M = [] → Cw W (w.heap.size + 2) [.int .i64 (n : Int), .slice none 0 0] 48
  b : Below w.heap.size w W
theorem Pw.next {w W W' : World} {n a : Nat} {L M : List Sp} (h : Pw w W n a L M) (hb : Below W.heap.size W W') : Pw w W' n a L M :=
  ⟨h.rg.below hb (Nat.le_refl _), h.rr.below hb, fun e => (h.em e).below hb (h.em e).lt, h.b.trans (hb.mono h.b.size)⟩
theorem Pw.sm {w W W' : World} {n a : Nat} {L M : List Sp} (h : Pw w W n a L M) (hb : Sm W W') : Pw w W' n a L M := h.next (hb.below _)
theorem Pw.put {w W : World} {n a : Nat} {L M : List Sp} (h : Pw w W n a L M) (s : Sp) (hs : Gs s) : Calls Try.prog 9 #[.pointer (some ⟨w.heap.size + 1, 0, none⟩), .agg (stV s).toArray] W fun e w' => e = .returned (.int .i64 (putE a L s)) ∧ Pw w w' n (putA n a L s) (putL n a L s) M := by
  refine (put_any h.rg s hs).mono ?_
  rintro e w' ⟨rfl, hr, hg⟩
  have hsz := h.rr.sz
  have hk : ∀ k, w.heap.size + 2 ≤ k → k < W.heap.size → w'.heap[k]? = W.heap[k]? := fun k h1 h2 => hg.block k h2 (by omega)
  refine ⟨rfl, hr, h.rr.keep (fun k hk1 hk2 => hk k (by omega) hk2) hg.size, fun e => (h.em e).keep (hk _ (Nat.le_refl _) (h.em e).lt), h.b.trans (hg.below h.b.size (fun k hk => by omega))⟩
theorem Pw.rput {w W : World} {n a : Nat} {L : List Sp} {s : Sp} (h : Pw w W n (putA n a L s) (putL n a L s) L) (hk : Rk n a L) (hs : Gs s) : Calls Try.prog 10 #[.pointer (some ⟨w.heap.size + 2, 0, none⟩), .agg (stV s).toArray] W fun e w' => e = .returned (.int .i64 (putE a L s)) ∧ Pw w w' n (putA n a L s) (putL n a L s) (putL n a L s) := by
  refine (rPut_any h.rr hk h.em h.rg.n1 h.rg.n2 s hs).mono ?_
  rintro e w' ⟨rfl, ⟨hr, hg⟩, hem⟩
  have hsz := h.rr.sz
  refine ⟨rfl, h.rg.keep (hg.block _ (by omega) (by omega)) (hg.block _ (by omega) (by omega)), hr, hem, h.b.trans (hg.below h.b.size (fun k hk => by omega))⟩
/-- Both ends of a ring, as numbers. -/
theorem ends_of {n a : Nat} {L : List Sp} (hk : Rk n a L) (hn : 1 ≤ n) : -1 ≤ lstF a L ∧ lstF a L ≤ 601 ∧ lstF a L ≤ gstF a L ∧ gstF a L ≤ 601 ∧ gstF a L - lstF a L < (n : Int) := by
  have ht := hk.top
  have hl := hk.len
  unfold lstF gstF
  by_cases e : L = []
  · rw [if_pos e, if_pos e]; omega
  · rw [if_neg e, if_neg e]
    have : 0 < L.length := List.length_pos_iff.2 e
    omega
end Go.Proofs.Ytkchdkcdkeajkaa
