/-
  FrameTears, walked: of no row; and of all.
-/
import Derived.Test.YteinhklopnlgbaaDoorTearsWalk
namespace Go.Proofs.YteinhklopnlgbaaDoor
open Go.RowKit

set_option maxHeartbeats 6400000 in
set_option maxRecDepth 20000 in
theorem tears_nil (al : Option Addr) (cl : Nat) (pl : Int) (w : World) (hal : (al = none ∧ cl = 0) ∨ ∃ a, al = some a) (hcm : cl ≤ maxLen) (ht : Tab w) :
    Calls Tryd.prog 6 #[.slice al 0 cl, .int .i64 pl] w fun e w' => e = .returned (.bool true) ∧ Below w.heap.size w w' := by
  have htl := ht.lt
  have C1 : Calls Tryd.prog 16 #[.slice none 0 0] w (ScanPost w []) := scan_any _ [] w (Bs_nil w) (Or.inl rfl) (by intro z hz; cases hz) (by simp) ht
  have eT : decE (([] : List Int).drop 0) ≠ 0 := by rw [List.drop_zero, decE_nil]; decide
  have nilR : ∀ W ao cap, Rs W (.slice ao ([] : List Rw2).length cap) [] := fun W ao cap => ⟨ao, cap, rfl, by simp, fun r h => (by cases h), fun h => absurd rfl h⟩
  have C3 := fun W hW => known_any W (ht.below (B := w.heap.size) (w' := W) hW htl)
  obtain ⟨P, eP, hP⟩ := and30 pl
  unfold maxLen at hcm
  have c0 : (0 : Int) ≤ (cl : Int) := by omega
  rcases hal with ⟨rfl, rfl⟩ | ⟨a, rfl⟩
  all_goals
    go_enter Tryd.func6, Tryd.ntmps6
    go_wp2
    go_loopw [5, 6, 7] (fun x en i wr => x = .slice none 0 0 ∧ en = .slice none 0 0 ∧ i = .int .i64 0 ∧ wr = w) (fun _ _ _ _ => 0)
    case atStart => exact ⟨rfl, rfl, rfl, rfl⟩
    case round =>
      obtain ⟨rfl, rfl, rfl, rfl⟩ := hrel
      go_wp2
      go_loop [11] (fun i => i = .int .i64 0) (fun _ => 0)
      case atStart => rfl
      case round =>
        obtain rfl := hrel
        go_wp2_with fail
        refine C1.mono ?_
        rintro e w1 ⟨ao1, cap1, rs1, m1, rfl, hos1, hsc1, hend1, B1⟩
        obtain ⟨hq, hm1⟩ := hsc1.uniq hend1 (ys := []) (k := 0) rfl eT
        subst hm1
        have hr0 : rs1 = [] := List.eq_nil_of_length_eq_zero (by rw [← bytesOf2_len, hq]; rfl)
        subst hr0
        have C2 := fun ao cap => rows_any (.slice ao1 0 cap1) (.slice ao 0 cap) [] [] w1 (nilR w1 ao1 cap1) (nilR w1 ao cap)
        rw [eqR_true rfl] at C2
        clear C1 hos1 hsc1 hend1 eT hq
        go_wp2_with fail
        refine (C2 _ _).mono ?_
        rintro e w2 ⟨rfl, hs2⟩
        have B2 := B1.trans (hs2.below _)
        go_wp2_with fail
        refine (C3 w2 B2).mono ?_
        rintro e w3 ⟨rfl, hB3⟩
        go_wp2
        go_ret
        exact ⟨rfl, B2.trans (hB3.mono B2.size)⟩

theorem tears_walk (al : Option Addr) (len cl : Nat) (rs : List Rw2) (pl : Int) (w : World) (hl : Rs w (.slice al len cl) rs) (hlen : rs.length = len) (hal : ((al = none ∧ cl = 0) ∨ ∃ a, al = some a) ∧ len ≤ cl ∧ cl ≤ maxLen) (ht : Tab w) :
    Calls Tryd.prog 6 #[.slice al len cl, .int .i64 pl] w fun e w' => e = .returned (.bool true) ∧ Below w.heap.size w w' := by
  subst hlen
  by_cases h0 : rs = []
  · subst h0
    exact tears_nil al cl pl w hal.1 hal.2.2 ht
  · obtain ⟨ao, cap, hv, _, _, hc⟩ := id hl
    obtain ⟨b, off, hb, _⟩ := hc h0
    simp only [Value.slice.injEq] at hv
    obtain ⟨rfl, _, rfl⟩ := hv
    subst hb
    exact tears_some b off cl rs pl w h0 hl hal.2.1 hal.2.2 ht
end Go.Proofs.YteinhklopnlgbaaDoor
