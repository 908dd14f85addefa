/-
  A Net of a law's own (Ln), and its calls.
-/
import Derived.Test.YtnfmhcljncdkgaaNetDropA
namespace Go.Proofs.Ytnfmhcljncdkgaa
open Go.RowKit
/-- A Net that the call made, its blocks all new. -/
structure Ln (w0 w : World) (nb : Nat) (L : List Mg) : Prop where
  ex : ∃ v, Np w w0.heap.size nb v L
  b : Below w0.heap.size w0 w
section
variable {w0 w : World} {nb : Nat} {L : List Mg}
theorem Ln.step {w' : World} (h : Ln w0 w nb L) (hb : Below w.heap.size w w') : Ln w0 w' nb L := by
  obtain ⟨v, hn⟩ := h.ex
  exact ⟨⟨v, hn.below hb⟩, h.b.trans (hb.mono h.b.size)⟩
theorem Ln.of {w' : World} {v v' : Value} {L' : List Mg} (h : Ln w0 w nb L) (hn : Np w w0.heap.size nb v L) (hx : Nx w w' w0.heap.size nb v v' L') : Ln w0 w' nb L' := ⟨⟨v', hx.n⟩, h.b.trans (hx.belowB h.b.size hn.lo)⟩
theorem ln_new (w0 : World) {w : World} (hb : Below w0.heap.size w0 w) : Calls Try.prog 9 #[] w fun e w' => ∃ nb, e = .returned (.pointer (some ⟨nb, 0, none⟩)) ∧ Ln w0 w' nb [] := by
  refine (new_any w).mono ?_
  rintro e w' ⟨nb, rfl, hn, hb'⟩
  have hs := hb.size
  exact ⟨nb, rfl, ⟨_, hn.q, Ax.Ro.nil _ _, Nat.le_trans hs hn.b, hn.ne, hn.le⟩, hb.trans (hb'.mono hs)⟩
theorem ln_len (h : Ln w0 w nb L) : Calls Try.prog 24 #[.pointer (some ⟨nb, 0, none⟩)] w fun e w' => e = .returned (.int .i64 (L.length : Int)) ∧ w' = w := by
  obtain ⟨v, hn⟩ := h.ex
  exact len_any hn
theorem ln_send (h : Ln w0 w nb L) (m : Mg) {s : Value} (hs : Bs w s m.d) : Calls Try.prog 11 #[.pointer (some ⟨nb, 0, none⟩), .agg #[.int .i64 m.fr, .int .i64 m.to, s]] w fun e w' => e = .returned (.bool (sendB L)) ∧ Ln w0 w' nb (sendN L m) := by
  obtain ⟨v, hn⟩ := h.ex
  refine (send_any hn h.b.size m hs).mono ?_
  rintro e w' ⟨rfl, v', hx⟩
  exact ⟨rfl, h.of hn hx⟩
theorem ln_give (h : Ln w0 w nb L) (hL : L ≠ []) (hg : ∀ m ∈ L, Gd m) (pick : Int) : Calls Try.prog 15 #[.pointer (some ⟨nb, 0, none⟩), .int .i64 pick] w fun e w' => ∃ m ao n c, giveM L pick = some m ∧ e = .returned (.tuple #[.agg #[.int .i64 m.fr, .int .i64 m.to, .slice ao n c], .bool true]) ∧ Ln w0 w' nb (giveN L pick) ∧ Bs w' (.slice ao n c) m.d := by
  obtain ⟨v, hn⟩ := h.ex
  refine (give_any hn hL hg pick).mono ?_
  rintro e w' ⟨m, v', ao, n, c, hm, rfl, hx, hof, _⟩
  exact ⟨m, ao, n, c, hm, rfl, h.of hn hx, hof.bs⟩
theorem ln_give_no (h : Ln w0 w nb []) (pick : Int) : Calls Try.prog 15 #[.pointer (some ⟨nb, 0, none⟩), .int .i64 pick] w fun e w' => e = .returned (.tuple #[.agg #[.int .i64 0, .int .i64 0, .slice none 0 0], .bool false]) ∧ Ln w0 w' nb [] := by
  refine (give_off (fun W hb => ln_len (h.step hb)) ⟨_, rfl⟩ pick).mono ?_
  rintro e w' ⟨rfl, hb⟩
  exact ⟨rfl, h.step hb⟩
theorem ln_twice (h : Ln w0 w nb L) (hL : L ≠ []) (pick : Int) : Calls Try.prog 18 #[.pointer (some ⟨nb, 0, none⟩), .int .i64 pick] w fun e w' => e = .returned (.bool (sendB L)) ∧ Ln w0 w' nb (twiceN L pick) := by
  obtain ⟨v, hn⟩ := h.ex
  refine (twice_any hn h.b.size hL pick).mono ?_
  rintro e w' ⟨rfl, v', hx⟩
  exact ⟨rfl, h.of hn hx⟩
theorem ln_late (h : Ln w0 w nb L) (hL : L ≠ []) (pick : Int) : Calls Try.prog 20 #[.pointer (some ⟨nb, 0, none⟩), .int .i64 pick] w fun e w' => e = .returned (.bool true) ∧ Ln w0 w' nb (lateN L pick) := by
  obtain ⟨v, hn⟩ := h.ex
  refine (late_any hn h.b.size hL pick).mono ?_
  rintro e w' ⟨rfl, v', hx⟩
  exact ⟨rfl, h.of hn hx⟩
theorem ln_drop (h : Ln w0 w nb L) (node : Int) : Calls Try.prog 22 #[.pointer (some ⟨nb, 0, none⟩), .int .i64 node] w fun e w' => e = .returned (.int .i64 ((L.length : Int) - ((dropN L node).length : Int))) ∧ Ln w0 w' nb (dropN L node) := by
  obtain ⟨v, hn⟩ := h.ex
  refine (drop_any hn node).mono ?_
  rintro e w' ⟨rfl, v', hx⟩
  exact ⟨rfl, h.of hn hx⟩
theorem ln_known (hb : Below w0.heap.size w0 w) : Calls Try.prog 25 #[] w fun e w' => e = .returned (.bool true) ∧ Below w0.heap.size w0 w' := by
  refine (known_any w).mono ?_
  rintro e w' ⟨rfl, h⟩
  exact ⟨rfl, hb.trans (h.mono hb.size)⟩
end
end Go.Proofs.Ytnfmhcljncdkgaa
