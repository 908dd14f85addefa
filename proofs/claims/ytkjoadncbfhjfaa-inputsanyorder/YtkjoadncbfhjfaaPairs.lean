/-
  Pairs: what both do, as far as all is known.
-/
import Derived.Test.YtkjoadncbfhjfaaNew
namespace Go.Proofs.Ytkjoadncbfhjfaa
open Go.RowKit
abbrev Pi := Int × Int
def cellsP (l : List Pi) : List Value := l.flatMap fun x => [.int .u16 x.1, .int .u16 x.2]
theorem cellsP_len (l : List Pi) : (cellsP l).length = l.length * 2 := by
  induction l with
  | nil => rfl
  | cons x l ih => simp [cellsP] at *; omega
def at1 (l : List Pi) (k : Nat) : Pi := l.getD k (0, 0)
theorem cellsP_at : ∀ (l : List Pi) (i : Nat), i < l.length → (cellsP l)[i * 2]? = some (.int .u16 (at1 l i).1) ∧ (cellsP l)[i * 2 + 1]? = some (.int .u16 (at1 l i).2)
  | [], i, h => by simp at h
  | y :: l, 0, h => ⟨rfl, rfl⟩
  | y :: l, i + 1, h => by
    have := cellsP_at l i (by simpa using h)
    have e : cellsP (y :: l) = .int .u16 y.1 :: .int .u16 y.2 :: cellsP l := rfl
    rw [e, show (i + 1) * 2 = i * 2 + 1 + 1 by omega]
    simpa [at1] using this
theorem cellsP_set : ∀ (l : List Pi) (i : Nat) (x : Pi), i < l.length → ((cellsP l).set (i * 2) (.int .u16 x.1)).set (i * 2 + 1) (.int .u16 x.2) = cellsP (l.set i x)
  | [], i, x, h => by simp at h
  | y :: l, 0, x, h => rfl
  | y :: l, i + 1, x, h => by
    have := cellsP_set l i x (by simpa using h)
    have e : cellsP (y :: l) = .int .u16 y.1 :: .int .u16 y.2 :: cellsP l := rfl
    have e2 : cellsP ((y :: l).set (i + 1) x) = .int .u16 y.1 :: .int .u16 y.2 :: cellsP (l.set i x) := rfl
    rw [e, e2, show (i + 1) * 2 = i * 2 + 1 + 1 by omega, ← this]
    simp
/-- The first m pairs, and noughts behind them. -/
def prs (l0 l1 : List Pl) : Nat → List Pi
  | 0 => []
  | m + 1 => prs l0 l1 m ++ [((at0 l0 m).1, (at0 l1 m).1)]
theorem prs_len (l0 l1 : List Pl) : ∀ m, (prs l0 l1 m).length = m
  | 0 => rfl
  | m + 1 => by simp [prs, prs_len l0 l1 m]
def prz (l0 l1 : List Pl) (k m : Nat) : List Pi := prs l0 l1 k ++ List.replicate (m - k) (0, 0)
theorem prz_len (l0 l1 : List Pl) {k m : Nat} (h : k ≤ m) : (prz l0 l1 k m).length = m := by simp [prz, prs_len]; omega
theorem prz_set (l0 l1 : List Pl) {k m : Nat} (h : k < m) : (prz l0 l1 k m).set k ((at0 l0 k).1, (at0 l1 k).1) = prz l0 l1 (k + 1) m := by
  obtain ⟨j, rfl⟩ : ∃ j, m = k + 1 + j := ⟨m - (k + 1), by omega⟩
  unfold prz
  rw [show k + 1 + j - k = j + 1 by omega, show k + 1 + j - (k + 1) = j by omega, List.replicate_succ, List.set_append, if_neg (by rw [prs_len]; omega), prs_len, Nat.sub_self]
  simp [prs]
theorem prz_all (l0 l1 : List Pl) (m : Nat) : prz l0 l1 m m = prs l0 l1 m := by simp [prz]
theorem rep3 (n : Nat) : madeCells #[Value.int .u16 0, .int .u16 0] (n * 2) = (cellsP (List.replicate n (0, 0))).toArray := by
  apply Array.ext
  · simp [madeCells, cellsP_len]
  · intro i h1 h2
    have hi : i < n * 2 := by simpa [madeCells] using h1
    have hc := cellsP_at (List.replicate n (0, 0)) (i / 2) (by simp; omega)
    have e0 : at1 (List.replicate n (0, 0)) (i / 2) = (0, 0) := by simp only [at1, List.getD, List.getElem?_replicate]; split <;> rfl
    rw [e0] at hc
    simp only [madeCells, Array.getElem_map, Array.getElem_range, List.getElem_toArray]
    rcases Nat.mod_two_eq_zero_or_one i with e | e
    · rw [show i / 2 * 2 = i by omega] at hc
      have := List.getElem?_eq_some_iff.1 hc.1
      rw [this.2]
      simp [e]
    · rw [show i / 2 * 2 + 1 = i by omega] at hc
      have := List.getElem?_eq_some_iff.1 hc.2
      rw [this.2]
      simp [e]
theorem info47 : (Try.prog.info? 47).map (fun i => (i.zero, i.size, i.bytes)) = some (some (.agg #[.int .u16 0, .int .u16 0]), 2, 4) := by kernel_rfl
theorem made41 (n : Nat) (hn : n ≤ 600) (w : World) : (Instr.makeSlice 41 (.int .i64 (n : Int)) (.int .i64 (n : Int))).run Try.prog w = .ok (.slice (some ⟨w.heap.size, 0, none⟩) n n) (w.alloc (.cells (cellsP (List.replicate n (0, 0))).toArray 47)) := by
  obtain ⟨i0, hi, hz0, hz1, hz2⟩ := info_parts info47
  have h := run_make (P := Try.prog) w 41 47 i0 _ Try.underlying41 hi hz0 .i64 .i64 (n : Int) (n : Int) (by omega) (Int.le_refl _) (by rw [hz2]; omega) (by omega)
  rw [hz1] at h
  simp only [Int.toNat_natCast] at h
  rw [h, ← rep3]
  rfl
theorem Pairs_nil (w : World) : Calls Try.prog 19 #[.pointer none] w fun e w' => e = .returned (.slice (some ⟨w.heap.size, 0, none⟩) 0 0) ∧ Below w.heap.size w w' := by
  have m := made41 0 (by omega)
  simp only [Int.ofNat_zero] at m
  go_enter Try.func19, Try.ntmps19
  go_wp2_with (first
    | (go_at_call 27; refine (rows_nil _).mono ?_; rintro e w1 ⟨rfl, hw1⟩; replace hw1 := hw1.symm; subst hw1)
    | (go_at_call 16; refine (Both_nil _).mono ?_; rintro e w1 ⟨rfl, hw1⟩; replace hw1 := hw1.symm; subst hw1))
  go_loopw [18] (fun x wr => x = .int .i64 0 ∧ Below w.heap.size w wr) (fun _ _ => 0)
  case atStart => exact ⟨rfl, (Below.refl _ _).alloc (Nat.le_refl _) _⟩
  case round =>
    obtain ⟨rfl, hb⟩ := hrel
    go_wp2_with fail
    go_ret
    exact ⟨rfl, hb⟩
variable {w w' : World} {lo hi qb g0 g1 : Nat} {l0 l1 : List Pl}
set_option maxHeartbeats 1000000 in
theorem Pairs_any (h : Qp w lo hi qb g0 g1 l0 l1) : Calls Try.prog 19 #[.pointer (some ⟨qb, 0, none⟩)] w fun e w' => e = .returned (.slice (some ⟨w.heap.size, 0, none⟩) (min (kn l0) (kn l1)) (min (kn l0) (kn l1))) ∧ Cw w' w.heap.size (cellsP (prs l0 l1 (min (kn l0) (kn l1)))) 47 ∧ Below w.heap.size w w' ∧ w'.heap.size = w.heap.size + 1 := by
  have hm0 : min (kn l0) (kn l1) ≤ l0.length := Nat.le_trans (Nat.min_le_left _ _) (kn_le l0)
  have hm1 : min (kn l0) (kn l1) ≤ l1.length := Nat.le_trans (Nat.min_le_right _ _) (kn_le l1)
  have CB := hid_into (Both_any h)
  have CR := hid_into (rows_any h)
  generalize min (kn l0) (kn l1) = M at *
  have m := made41 M (by have := h.n2; omega)
  have H := hid_into h
  obtain ⟨n, hn⟩ : ∃ n, n = l0.length := ⟨_, rfl⟩
  rw [← hn] at CR hm0
  have hn2 : n ≤ 600 := by rw [hn]; exact h.n2
  have HN := hid_into hn
  clear h hn
  simp only [slR] at CR
  go_enter Try.func19, Try.ntmps19
  go_wp2_with (first
    | (go_at_call 27; refine CR.out.mono ?_; rintro e w1 ⟨rfl, hw1⟩; replace hw1 := hw1.symm; subst hw1)
    | (go_at_call 16; refine CB.out.mono ?_; rintro e w1 ⟨rfl, hw1⟩; replace hw1 := hw1.symm; subst hw1))
  go_loopw [18] (fun x wr => ∃ k : Nat, k ≤ M ∧ x = .int .i64 (k : Int) ∧ Hid (Cw wr w.heap.size (cellsP (prz l0 l1 k M)) 47 ∧ Below w.heap.size w wr ∧ wr.heap.size = w.heap.size + 1)) (fun x _ => M - (intOf x).toNat)
  case atStart =>
    refine ⟨0, Nat.zero_le _, rfl, ?_, (Below.refl _ _).alloc (Nat.le_refl _) _, World.size_alloc _ _⟩
    have := Cw.new w (cellsP (List.replicate M (0, 0))) 47
    simpa [prz, prs] using this
  case round =>
    obtain ⟨k, hk, rfl, HH⟩ := hrel
    by_cases hlt : k < M
    · obtain ⟨hc, hb, hs⟩ := HH
      have q0 : Cw wr g0 (cellsR l0) 70 := H.out.r0.below hb H.out.r0.lt
      have q1 : Cw wr g1 (cellsR l1) 70 := H.out.r1.below hb H.out.r1.lt
      have hk0 : k < l0.length := by have := HN.out; omega
      have d0 : wr.cell? ⟨g0, k * 2, none⟩ = some (.int .u16 (at0 l0 k).1) := (q0.cell _).trans (cellsR_at l0 k hk0).1
      have d1 : wr.cell? ⟨g1, k * 2, none⟩ = some (.int .u16 (at0 l1 k).1) := (q1.cell _).trans (cellsR_at l1 k (by omega)).1
      have hl : k < (prz l0 l1 k M).length := by rw [prz_len _ _ (by omega)]; exact hlt
      have e0 : wr.cell? ⟨w.heap.size, k * 2, none⟩ = some (.int .u16 (at1 (prz l0 l1 k M) k).1) := (hc.cell _).trans (cellsP_at _ k hl).1
      have e1 : wr.cell? ⟨w.heap.size, k * 2 + 1, none⟩ = some (.int .u16 (at1 (prz l0 l1 k M) k).2) := (hc.cell _).trans (cellsP_at _ k hl).2
      have z0 := hc.frozen (k * 2)
      have z1 := hc.frozen (k * 2 + 1)
      have hlt2 : (k : Int) < (M : Int) := by omega
      have hlt3 : (k : Int) < (n : Int) := by omega
      have HS := hid_into (cellsP_set _ k ((at0 l0 k).1, (at0 l1 k).1) hl)
      have HC := hid_into hc
      have HB := hid_into hb
      have HSZ := hid_into hs
      clear hc hb hs q0 q1 hl hk0
      go_wp2_with fail
      go_region
      go_wp2_with fail
      go_roundw
      case rel =>
        refine ⟨k + 1, by omega, by go_num, ?_⟩
        have hc2 := (HC.out.set (k * 2) (.int .u16 (at0 l0 k).1)).set (k * 2 + 1) (.int .u16 (at0 l1 k).1)
        rw [HS.out, prz_set _ _ hlt] at hc2
        have ho : Only w.heap.size wr _ := (Only.set w.heap.size (k * 2) wr (.int .u16 (at0 l0 k).1)).trans (Only.set _ (k * 2 + 1) _ (.int .u16 (at0 l1 k).1))
        exact ⟨hc2, HB.out.trans (ho.below (Nat.le_refl _)).drew, ho.size.trans HSZ.out⟩
      case measure => simp [intOf]; omega
    · obtain rfl : k = M := by omega
      go_wp2_with fail
      go_ret
      obtain ⟨hc, hb, hs⟩ := HH
      rw [prz_all] at hc
      exact ⟨rfl, hc, hb, hs⟩
end Go.Proofs.Ytkjoadncbfhjfaa
