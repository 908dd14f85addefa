/-
  DuelSums: a game that adds up, in plain words, and the law's walk.
-/
import Derived.Test.YtgnbcalfojifnaaDKnown
namespace Go.Proofs.Ytgnbcalfojifnaa
open Go.RowKit
def sumP : List (Int × Int) → Int
  | [] => 0
  | p :: ps => p.1 + sumP ps
theorem sumP_append : ∀ (a b : List (Int × Int)), sumP (a ++ b) = sumP a + sumP b
  | [], b => by show sumP b = 0 + sumP b; omega
  | p :: a, b => by
    have := sumP_append a b
    show p.1 + sumP (a ++ b) = p.1 + sumP a + sumP b
    omega
theorem sumP_take {ps : List (Int × Int)} {k : Nat} {p : Int × Int} (h : ps[k]? = some p) : sumP (ps.take (k + 1)) = sumP (ps.take k) + p.1 := by
  rw [List.take_add_one, sumP_append, h]
  show _ + (p.1 + 0) = _
  omega
theorem sumP_le : ∀ {ps : List (Int × Int)}, InP ps → 0 ≤ sumP ps ∧ sumP ps ≤ 65535 * ps.length
  | [], _ => ⟨Int.le_refl _, by simp [sumP]⟩
  | p :: ps, h => by
    have ih := sumP_le (ps := ps) fun q hq => h q (by simp [hq])
    have hp := h p (by simp)
    show 0 ≤ p.1 + sumP ps ∧ p.1 + sumP ps ≤ _
    rw [List.length_cons]
    omega
/-- The state behind k frames. -/
def aS (limit : Int) (k : Nat) (x : Int) : Sp := ⟨k, [x, 0, 0, 0, 0, 0, 0, 0, 0, 0, 0, 0, 0, 0, 0, 0], 1, decide ((k : Int) = limit), if (k : Int) = limit then moreI x 0 else 0⟩
theorem heldI_id {x : Int} (h : In32 x) : heldI x = x := by
  unfold In32 at h
  unfold heldI
  repeat' split
  all_goals omega
theorem aS_step {limit : Int} {k : Nat} {x i0 i1 : Int} (hk : (k : Int) < limit) (hx : In32 (x + i0)) : stepS acode limit 9 (aS limit k x) i0 i1 = aS limit (k + 1) (x + i0) := by
  have h1 : aS limit k x = ⟨k, [x, 0, 0, 0, 0, 0, 0, 0, 0, 0, 0, 0, 0, 0, 0, 0], 1, false, 0⟩ := by
    unfold aS
    rw [if_neg (by omega), show decide ((k : Int) = limit) = false by simp; omega]
  have h2 : stepS acode limit 9 ⟨k, [x, 0, 0, 0, 0, 0, 0, 0, 0, 0, 0, 0, 0, 0, 0, 0], 1, false, 0⟩ i0 i1 = endS limit ⟨k, [heldI (x + i0), 0, 0, 0, 0, 0, 0, 0, 0, 0, 0, 0, 0, 0, 0, 0], 1, false, 0⟩ := rfl
  rw [h1, h2, heldI_id hx]
  unfold endS aS
  by_cases h3 : (k : Int) + 1 = limit
  · rw [if_pos ⟨h3, rfl⟩, if_pos (by omega), show decide (((k + 1 : Nat) : Int) = limit) = true by simp; omega]
    simp
  · rw [if_neg (fun e => h3 e.1), if_neg (by omega), show decide (((k + 1 : Nat) : Int) = limit) = false by simp; omega]
    simp
theorem aS_end {limit : Int} {ps : List (Int × Int)} (hin : InP ps) (hlen : ps.length ≤ 100) : ∀ (m k : Nat), m = ps.length - k → k ≤ ps.length → (k : Int) ≤ limit → ∃ j, k ≤ j ∧ j ≤ ps.length ∧ (j : Int) ≤ limit ∧ (j = ps.length ∨ (j : Int) = limit) ∧ endG acode limit 9 (aS limit k (sumP (ps.take k))) (ps.drop k) = aS limit j (sumP (ps.take j))
  | 0, k, hm, hk, hl => ⟨k, Nat.le_refl _, hk, hl, Or.inl (by omega), endG_end (by omega)⟩
  | m + 1, k, hm, hk, hl => by
    by_cases hov : (k : Int) = limit
    · exact ⟨k, Nat.le_refl _, hk, hl, Or.inr hov, endG_over _ (by simp [aS, hov])⟩
    · obtain ⟨p, hp⟩ : ∃ p, ps[k]? = some p := ⟨_, List.getElem?_eq_getElem (by omega)⟩
      have hle := sumP_le (ps := ps.take (k + 1)) fun q hq => hin q (List.mem_of_mem_take hq)
      rw [sumP_take hp, List.length_take] at hle
      obtain ⟨j, h1, h2, h3, h4, h5⟩ := aS_end (limit := limit) hin hlen m (k + 1) (by omega) (by omega) (by omega)
      refine ⟨j, by omega, h2, h3, h4, ?_⟩
      rw [endG_step hp (by simp [aS, hov]), aS_step (by omega) ⟨by omega, by omega⟩, ← sumP_take hp]
      exact h5
theorem aS_wf {limit : Int} {k : Nat} {x : Int} (h : In32 x) : (aS limit k x).Wf := ⟨rfl, by intro y hy; simp only [aS, List.mem_cons, List.not_mem_nil, or_false, or_self] at hy; rcases hy with rfl | rfl; exact h; exact zero_in, by show (0 : Int) ≤ 1 ∧ (1 : Int) < 4294967296; omega⟩
theorem aplay {limit : Int} {ps : List (Int × Int)} (hin : InP ps) (hlen : ps.length ≤ 100) (h1 : 1 ≤ limit) (h2 : limit ≤ 200) : ∃ j, j ≤ ps.length ∧ (j : Int) ≤ limit ∧ (j = ps.length ∨ (j : Int) = limit) ∧ playE acode limit 9 1 ps = (aS limit j (sumP (ps.take j)), 0) := by
  have hc : chkG acode limit 9 = 0 := by
    unfold chkG
    rw [if_neg (by decide), if_neg (by omega)]
  obtain ⟨j, _, h3, h4, h5, h6⟩ := aS_end (limit := limit) hin hlen ps.length 0 (by omega) (by omega) (by omega)
  refine ⟨j, h3, h4, h5, ?_⟩
  rw [show playE acode limit 9 1 ps = (endG acode limit 9 (startS 1) ps, 0) from if_pos hc]
  have h7 : aS limit 0 (sumP (ps.take 0)) = startS 1 := by
    unfold aS
    rw [if_neg (by omega), show decide (((0 : Nat) : Int) = limit) = false by simp; omega]
    rfl
  rw [h7] at h6
  rw [← h6]
  rfl
set_option maxRecDepth 20000 in
set_option maxHeartbeats 2000000 in
theorem sums_walk (iv : Value) (ps : List (Int × Int)) (limit : Int) (w : World) (hp : Ps w iv ps) (hin : InP ps) : Calls Try.prog 6 #[iv, .int .i64 limit] w fun e w' => e = .returned (.bool true) ∧ Below w.heap.size w w' := by
  obtain ⟨ai, ci, rfl, hm⟩ := hp.len
  by_cases h1 : 100 < ps.length
  · have h1' : (100 : Int) < ps.length := by omega
    go_enter Try.func6, Try.ntmps6
    go_wp2
    go_ret
    exact ⟨rfl, Below.refl _ _⟩
  have h1' : (ps.length : Int) ≤ 100 := by omega
  by_cases h2 : limit < 1
  · go_enter Try.func6, Try.ntmps6
    go_wp2
    go_ret
    exact ⟨rfl, Below.refl _ _⟩
  by_cases h3 : 200 < limit
  · go_enter Try.func6, Try.ntmps6
    go_wp2
    go_ret
    exact ⟨rfl, Below.refl _ _⟩
  obtain ⟨j, hj1, hj2, hj3, hpl⟩ := aplay hin (by omega) (show 1 ≤ limit by omega) (show limit ≤ 200 by omega)
  have hle := sumP_le (ps := ps.take j) fun q hq => hin q (List.mem_of_mem_take hq)
  rw [List.length_take] at hle
  have hwf : (aS limit j (sumP (ps.take j))).Wf := aS_wf ⟨by omega, by omega⟩
  have CA : Hid (∀ W, Calls Try.prog 19 #[.int .i64 limit] W fun e w' => ∃ g, e = .returned (.agg #[.slice (some ⟨g, 0, none⟩) 4 4, .int .i64 limit, .int .i64 9]) ∧ Ls w' (.slice (some ⟨g, 0, none⟩) 4 4) acode ∧ Below W.heap.size W w') := fun W => adder_any limit W
  have CP : Hid (∀ W cv, Ls W cv acode → Below w.heap.size w W → Calls Try.prog 10 #[.agg #[cv, .int .i64 limit, .int .i64 9], .int .u32 1, .slice ai ps.length ci] W fun e w' => e = .returned (.tuple #[.agg (stV (aS limit j (sumP (ps.take j)))).toArray, .int .i64 0]) ∧ Below W.heap.size W w') := fun W cv h hW => by
    have h9 := Play_any cv acode limit 9 1 _ ps W h (hp.below hW) hin (by omega)
    rw [hpl] at h9
    exact h9
  have L1 := st_len hwf
  have O1 := st_one hwf
  have C1 := hid_into (stV_c hwf)
  have HZ : Hid ((Try.prog.info? 30).bind (·.zero) = some (.agg zeroS.toArray)) := Try.zero30
  have ZS := zeroS_size
  have CK := hid_into known_any
  have HIn := hid_into hin
  have HP := hid_into hp
  have HSum : Hid (∀ k p, ps[k]? = some p → k ≤ 100 → sumP (ps.take (k + 1)) = sumP (ps.take k) + p.1 ∧ 0 ≤ sumP (ps.take k) ∧ sumP (ps.take k) ≤ 6553500) := fun k p hk hk2 => by
    have := sumP_le (ps := ps.take k) fun q hq => hin q (List.mem_of_mem_take hq)
    rw [List.length_take] at this
    exact ⟨sumP_take hk, this.1, by omega⟩
  generalize hs1 : stV (aS limit j (sumP (ps.take j))) = s1 at CP L1 O1 C1
  clear hs1 hwf hpl hp hin
  go_enter Try.func6, Try.ntmps6
  go_wp2_with (first
    | (go_at_call 19; refine (CA.out _).mono ?_; rintro e w1 ⟨g1, rfl, hL1, B1⟩; have HL1 := hid_into hL1; have HB1 := hid_into B1; clear B1 hL1)
    | (go_at_call 10; refine (CP.out w1 _ HL1.out HB1.out).mono ?_; rintro e w2 ⟨rfl, B2⟩; have HB2 : Hid (Below w.heap.size w w2) := HB1.out.trans (B2.mono HB1.out.size); clear B2)
    | (refine wpList_alloc_row rfl 30 rfl zeroS HZ.out ?_; intro W3 hn3 B3 HS3)
    | (refine wpList_store_rw rfl 30 (.tmp 5) (.tmp 26) rfl w2.heap.size zeroS s1 30 rfl rfl ?_ ZS L1 O1.out ?_; exact hn3; intro W4 hn4 O4; have HB4 : Hid (Below w.heap.size w W4) := (HB2.out.trans (B3.mono HB2.out.size)).trans (O4.below HB2.out.size); have HN4 := hid_into hn4; clear B3 hn3 HS3 O4 hn4))
  go_loopw [7, 8, 9] (fun x n i wr => ∃ k : Nat, k ≤ j ∧ x = .int .i32 (sumP (ps.take k)) ∧ n = .int .i64 (k : Int) ∧ i = .int .i64 (k : Int) ∧ wr = W4) (fun _ _ i _ => ps.length - (intOf i).toNat)
  case atStart => exact ⟨0, Nat.zero_le _, rfl, rfl, rfl, rfl⟩
  case round =>
    obtain ⟨k, hk, rfl, rfl, rfl, rfl⟩ := hrel
    by_cases hlt : k < j
    · have hk1 : (k : Int) < ps.length := by omega
      have hk2 : (k : Int) < limit := by omega
      obtain ⟨p, hpk⟩ : ∃ p, ps[k]? = some p := ⟨_, List.getElem?_eq_getElem (by omega)⟩
      obtain ⟨ga, off, hao, x0, x1⟩ := HP.out.at HB4.out (Nat.le_refl _) _ _ hpk
      subst hao
      obtain ⟨hs1, hs2, hs3⟩ := HSum.out k p hpk (by omega)
      have hp1 := (HIn.out.at hpk).1
      have HS1 := hid_into hs1
      generalize hX : sumP (ps.take k) = X at hs2 hs3 HS1
      clear hs1 hX
      go_wp2_with fail
      go_roundw
      case rel => exact ⟨k + 1, by omega, by rw [HS1.out], by go_num, by go_num, by first | rfl | trivial⟩
      case measure => simp [intOf]; omega
    · obtain rfl : k = j := by omega
      have t0 := (HN4.out.cell 0).trans C1.out.frame
      have t1 := (HN4.out.cell 1).trans (C1.out.cell 0 (by omega))
      have t2 := (HN4.out.cell 18).trans C1.out.over
      simp only [aS, List.getD_cons_zero] at t0 t1 t2
      generalize sumP (ps.take k) = X at t1 hle C1
      by_cases hl : (k : Int) = limit
      · have hk0 : ¬ (k : Int) < limit := by omega
        rw [show decide ((k : Int) = limit) = true by simp [hl]] at t2
        have hl2 : ((k : Int) == limit) = true := by simp [hl]
        by_cases hk3 : (k : Int) < ps.length
        · go_wp2_with (go_at_call 16; refine (CK.out _).mono ?_; rintro e w5 ⟨rfl, B5⟩; have HB5 := hid_into (HB4.out.trans (B5.mono HB4.out.size)))
          go_ret
          exact ⟨rfl, HB5.out⟩
        · go_wp2_with (go_at_call 16; refine (CK.out _).mono ?_; rintro e w5 ⟨rfl, B5⟩; have HB5 := hid_into (HB4.out.trans (B5.mono HB4.out.size)))
          go_ret
          exact ⟨rfl, HB5.out⟩
      · have hk3 : ¬ (k : Int) < ps.length := by omega
        rw [show decide ((k : Int) = limit) = false by simp [hl]] at t2
        have hl2 : ((k : Int) == limit) = false := by simp [hl]
        go_wp2_with (go_at_call 16; refine (CK.out _).mono ?_; rintro e w5 ⟨rfl, B5⟩; have HB5 := hid_into (HB4.out.trans (B5.mono HB4.out.size)))
        go_ret
        exact ⟨rfl, HB5.out⟩
end Go.Proofs.Ytgnbcalfojifnaa
