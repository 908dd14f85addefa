/-
  The program's Net: Drop, by contract; slices.IndexFunc and slices.DeleteFunc on its row.
-/
import Derived.Test.YtnfmhcljncdkgaaNetGive
namespace Go.Proofs.Ytnfmhcljncdkgaa
open Go.RowKit
/-- A message that goes to the node or comes from it. -/
def hitB (node : Int) (m : Mg) : Bool := decide (m.fr = node ∨ m.to = node)
theorem dropN_hit (L : List Mg) (node : Int) : dropN L node = L.filter fun m => !hitB node m := by
  unfold dropN hitB
  congr 1
  funext m
  by_cases h : m.fr = node ∨ m.to = node
  · have h2 : ¬ (m.fr ≠ node ∧ m.to ≠ node) := fun hh => by rcases h with h | h; exact hh.1 h; exact hh.2 h
    rw [decide_eq_true h, decide_eq_false h2]; rfl
  · have h2 : m.fr ≠ node ∧ m.to ≠ node := ⟨fun e => h (Or.inl e), fun e => h (Or.inr e)⟩
    rw [decide_eq_false h, decide_eq_true h2]; rfl
set_option maxRecDepth 20000 in
theorem drop1_any {w : World} {bd : Nat} {node : Int} (c : Cw w bd [.int .i64 node] 3) (m : Mg) :
    Calls Try.prog 35 #[.agg #[.int .i64 m.fr, .int .i64 m.to, .string (strOfNums m.d)], .pointer (some ⟨bd, 0, none⟩)] w fun e w' => e = .returned (.bool (hitB node m)) ∧ Gr (fun _ => False) w w' := by
  have c1 : Cw (w.alloc (.cells #[.int .i64 m.fr, .int .i64 m.to, .string (strOfNums m.d)] 59)) bd [.int .i64 node] 3 := c.alloc _
  have k1 := c1.cell 0
  simp only [List.getElem?_cons_zero] at k1
  clear c c1
  unfold hitB
  by_cases h1 : m.fr = node
  · rw [decide_eq_true (Or.inl h1)]
    have q1 : (m.fr == node) = true := by simp [h1]
    clear h1
    go_enter Try.func35, Try.ntmps35
    go_wp2_with fail
    go_ret
    exact ⟨rfl, Gr.alloc _ _ _⟩
  · by_cases h2 : m.to = node
    · rw [decide_eq_true (Or.inr h2)]
      have q1 : (m.fr == node) = false := by simp [h1]
      have q2 : (m.to == node) = true := by simp [h2]
      clear h1 h2
      go_enter Try.func35, Try.ntmps35
      go_wp2_with fail
      go_ret
      exact ⟨rfl, Gr.alloc _ _ _⟩
    · rw [decide_eq_false (fun h => by rcases h with h | h; exact h1 h; exact h2 h)]
      have q1 : (m.fr == node) = false := by simp [h1]
      have q2 : (m.to == node) = false := by simp [h2]
      go_enter Try.func35, Try.ntmps35
      go_wp2_with fail
      go_ret
      exact ⟨rfl, Gr.alloc _ _ _⟩
theorem Rm.atk {w : World} {base g n cap k : Nat} {L : List Mg} {m : Mg} (h : Rm w base (.slice (some ⟨g, 0, none⟩) n cap) L) (hk : L[k]? = some m) : w.cell? ⟨g, k * 3, none⟩ = some (.int .i64 m.fr) ∧ w.cell? ⟨g, k * 3 + 1, none⟩ = some (.int .i64 m.to) ∧ w.cell? ⟨g, k * 3 + 2, none⟩ = some (.string (strOfNums m.d)) := by
  obtain ⟨hlt, he⟩ := List.getElem?_eq_some_iff.1 hk
  have e : L = L.take k ++ m :: L.drop (k + 1) := by
    rw [← he, ← List.drop_eq_getElem_cons hlt, List.take_append_drop]
  rw [e] at h
  have := h.at3
  rw [List.length_take, Nat.min_eq_left (by omega)] at this
  exact this
theorem Rm.grow {w w' : World} {base : Nat} {v : Value} {L : List Mg} (h : Rm w base v L) (hg : Gr (fun _ => False) w w') : Rm w' base v L := h.keep fun k _ _ hlt => hg.block k hlt fun h => h
set_option maxRecDepth 20000 in
set_option maxHeartbeats 2000000 in
theorem index_any {w : World} {B bd K : Nat} {node : Int} {v : Value} {L : List Mg} (h : Rm w B v L) (c : Cw w bd [.int .i64 node] 3) (hl : L.length ≤ 1024) (hK : K ≤ L.length) (hno : ∀ k m, k < K → L[k]? = some m → hitB node m = false) (hy : ∀ m, L[K]? = some m → hitB node m = true) :
    Calls Try.prog 37 #[v, .func (.func 35) #[] #[.pointer (some ⟨bd, 0, none⟩)]] w fun e w' => e = .returned (.int .i64 (if K = L.length then -1 else (K : Int))) ∧ Gr (fun _ => False) w w' := by
  have HC : Hid (∀ (W : World) (k : Nat) (m : Mg), Gr (fun _ => False) w W → L[k]? = some m → Calls Try.prog 35 #[.agg #[.int .i64 m.fr, .int .i64 m.to, .string (strOfNums m.d)], .pointer (some ⟨bd, 0, none⟩)] W fun e w' => e = .returned (.bool (hitB node m)) ∧ Gr (fun _ => False) w w') := fun W k m hg hm => by
    refine (drop1_any (hg.cw c fun h => h) m).mono ?_
    rintro e w' ⟨rfl, h2⟩
    exact ⟨rfl, hg.trans h2 fun _ h => h.elim⟩
  have HR : Hid (∀ W, Gr (fun _ => False) w W → Rm W B v L) := fun W hg => h.grow hg
  have HNO := hid_into hno
  have HY := hid_into hy
  obtain ⟨ao, cap, hv⟩ := h.form
  have hsp : Hid (L ≠ [] → ∃ g, ao = some ⟨g, 0, none⟩) := fun hn => by
    obtain ⟨g, cap', rest, hv', _⟩ := h.spot hn
    rw [hv] at hv'
    simp only [Value.slice.injEq] at hv'
    exact ⟨g, hv'.1⟩
  subst hv
  have enc := enters35
  clear h c hno hy
  go_enter Try.func37, Try.ntmps37
  go_wp2_with fail
  go_loopw [8] (fun x wr => ∃ k : Nat, k ≤ K ∧ x = .int .i64 (k : Int) ∧ Gr (fun _ => False) w wr) (fun x _ => L.length + 1 - (intOf x).toNat)
  case atStart => exact ⟨0, Nat.zero_le _, rfl, Gr.refl _ _⟩
  case round =>
    obtain ⟨k, hk, rfl, hg⟩ := hrel
    by_cases hlt : k < L.length
    · obtain ⟨m, hm⟩ : ∃ m, L[k]? = some m := ⟨_, List.getElem?_eq_getElem hlt⟩
      obtain ⟨g, rfl⟩ := hsp.out (fun e => by rw [e] at hlt; simp at hlt)
      obtain ⟨m0, m1, m2⟩ := (HR.out wr hg).atk hm
      have hlt2 : (k : Int) < (L.length : Int) := by omega
      have hc := HC.out wr k m hg hm
      have HK : Hid (k < K ∨ k = K) := by show _ ∨ _; omega
      by_cases hkk : k < K
      · rw [HNO.out k m hkk hm] at hc
        clear hm HK
        go_wp2_with (go_at_fn 35; refine hc.mono ?_; rintro e w1 ⟨rfl, hg1⟩)
        go_roundw
        case rel => exact ⟨k + 1, by omega, by go_num, hg1⟩
        case measure => simp [intOf]; omega
      · obtain rfl : k = K := by omega
        rw [HY.out m hm] at hc
        clear hm HK
        go_wp2_with (go_at_fn 35; refine hc.mono ?_; rintro e w1 ⟨rfl, hg1⟩)
        go_ret
        exact ⟨by first | rfl | rw [if_neg (by omega)], hg1⟩
    · obtain rfl : k = K := by omega
      have hlt2 : ¬ (k : Int) < (L.length : Int) := by omega
      go_wp2_with fail
      go_ret
      exact ⟨by first | rfl | rw [if_pos (by omega)], hg⟩
end Go.Proofs.Ytnfmhcljncdkgaa
