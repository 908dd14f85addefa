/-
  LinkTicks' walk.
-/
import Derived.Test.YtahodgmdikaedabDoorM12
namespace Go.Proofs.YtahodgmdikaedabDoor
open Go.RowKit
/-- Behind j rows Sent, and i Ticks. -/
structure TkS (s : Lk) (j i : Nat) : Prop where
  l : s.L.length = j
  w : s.way = min j 16
  g : s.sent = min j 16 * (1 + i / 5)
  t : s.since = if min j 16 = 0 then 0 else i % 5
  v : s.vain = 0
theorem TkS.put {s : Lk} {j : Nat} (h : TkS s j 0) (z : List Int) : TkS ((s.put z).goes 16) (j + 1) 0 := by
  have h1 := h.l
  have h2 := h.w
  have h3 := h.g
  have h4 := h.t
  have e1 : (s.put z).full 16 = min (j + 1) 16 := by
    unfold Lk.full
    show max s.way (min (s.L ++ [z]).length 16) = _
    rw [List.length_append, List.length_singleton]
    omega
  have e2 : ((s.put z).goes 16).way = (s.put z).full 16 := rfl
  have e3 : ((s.put z).goes 16).sent = s.sent + ((s.put z).full 16 - s.way) := rfl
  have e4 : ((s.put z).goes 16).since = if s.way < (s.put z).full 16 then 0 else s.since := rfl
  refine ⟨?_, by rw [e2, e1], ?_, ?_, h.v⟩
  · show (s.L ++ [z]).length = _
    rw [List.length_append, List.length_singleton, h1]
  · rw [e3, e1, h3, h2]
    simp only [Nat.zero_div, Nat.add_zero, Nat.mul_one]
    omega
  · rw [e4, e1, h2, h4]
    simp
theorem TkS.tick {s : Lk} {j i : Nat} (h : TkS s j i) : TkS s.tickS j (i + 1) ∧ s.tickO.length = if (i + 1) % 5 = 0 then min j 16 else 0 := by
  have h1 := h.l
  have h2 := h.w
  have h3 := h.g
  have h4 := h.t
  have h5 := h.v
  by_cases c0 : min j 16 = 0
  · have ew : s.way = 0 := by omega
    have e : s.tickS = { s with since := 0 } := by unfold Lk.tickS; rw [if_pos ew]
    have eo : s.tickO = [] := by unfold Lk.tickO; rw [if_pos (Or.inl ew)]
    rw [e, eo]
    refine ⟨⟨h1, h2, ?_, ?_, h5⟩, ?_⟩
    · rw [c0] at h3 ⊢; show s.sent = _; rw [h3]; simp
    · show 0 = _; rw [if_pos c0]
    · rw [c0]; simp
  · have ew : ¬ s.way = 0 := by omega
    rw [if_neg c0] at h4
    by_cases c1 : s.since + 1 < 5
    · have e : s.tickS = { s with since := s.since + 1 } := by unfold Lk.tickS; rw [if_neg ew, if_pos c1]
      have eo : s.tickO = [] := by unfold Lk.tickO; rw [if_pos (Or.inr c1)]
      rw [e, eo]
      refine ⟨⟨h1, h2, ?_, ?_, h5⟩, ?_⟩
      · show s.sent = _
        rw [h3, show (i + 1) / 5 = i / 5 by omega]
      · show s.since + 1 = _
        rw [if_neg c0]; omega
      · rw [if_neg (by omega)]; rfl
    · have e : s.tickS = { s with since := 0, sent := s.sent + s.way } := by unfold Lk.tickS; rw [if_neg ew, if_neg c1]
      have eo : s.tickO = (List.range' s.first s.way).map s.pk := by unfold Lk.tickO; rw [if_neg (by omega)]
      rw [e, eo]
      refine ⟨⟨h1, h2, ?_, ?_, h5⟩, ?_⟩
      · show s.sent + s.way = _
        rw [h3, h2, show (i + 1) / 5 = i / 5 + 1 by omega]
        rw [show 1 + (i / 5 + 1) = (1 + i / 5) + 1 by omega, Nat.mul_succ]
      · show 0 = _
        rw [if_neg c0]; omega
      · rw [if_pos (by omega), List.length_map, List.length_range', h2]
structure TickI (w : World) (la j i : Nat) (wr : World) : Prop where
  l : ∃ F s, Ld wr la F la 2 s ∧ TkS s j i
  b : Below la w wr
theorem Ld.sz {w : World} {B : Nat} {F : Nat → Prop} {lb : Nat} {id : Int} {s : Lk} (h : Ld w B F lb id s) : B ≤ w.heap.size := by
  obtain ⟨v, rs, hl⟩ := h.l
  have h1 := hl.hi lb hl.fl
  have h2 := h.b lb hl.fl
  omega
set_option maxHeartbeats 6400000 in
set_option maxRecDepth 20000 in
theorem ticks_walk (n0 n1 : Int) (h0 : -9223372036854775808 ≤ n0 ∧ n0 ≤ 9223372036854775807) (h1 : -9223372036854775808 ≤ n1 ∧ n1 ≤ 9223372036854775807) (w : World) (ht : Tab w) :
    Calls Tryd.prog 5 #[.int .i64 n0, .int .i64 n1] w fun e w' => e = .returned (.bool true) ∧ Below w.heap.size w w' := by
  have K : Hid (∀ W, Below w.heap.size w W → Calls Tryd.prog 6 #[] W fun e w' => e = .returned (.bool true) ∧ Below w.heap.size w w') := fun W h => (lknown_any W (ht.below h ht.lt)).mono fun e w' ⟨he, hB⟩ => ⟨he, h.trans (hB.mono h.size)⟩
  have hc : n0 < 0 ∨ (¬ n0 < 0 ∧ 40 < n0) ∨ (¬ n0 < 0 ∧ ¬ 40 < n0 ∧ n1 < 0) ∨ (¬ n0 < 0 ∧ ¬ 40 < n0 ∧ ¬ n1 < 0 ∧ 60 < n1) ∨ (0 ≤ n0 ∧ n0 ≤ 40 ∧ 0 ≤ n1 ∧ n1 ≤ 60) := by omega
  rcases hc with c | ⟨c, c2⟩ | ⟨c, c2, c3⟩ | ⟨c, c2, c3, c4⟩ | hc
  iterate 4
    · clear ht h0 h1
      go_enter Tryd.func5, Tryd.ntmps5
      go_wp2_with (go_at_call 6; refine (K.out _ (Below.refl _ _)).mono ?_; rintro e w1 ⟨rfl, hB⟩)
      go_ret
      exact ⟨rfl, hB⟩
  obtain ⟨n, rfl⟩ : ∃ n : Nat, n0 = n := ⟨n0.toNat, by omega⟩
  obtain ⟨m, rfl⟩ : ∃ m : Nat, n1 = m := ⟨n1.toNat, by omega⟩
  have hn : n ≤ 40 := by omega
  have hm : m ≤ 60 := by omega
  have q1 : ¬ (n : Int) < 0 := by omega
  have q2 : ¬ (40 : Int) < (n : Int) := by omega
  have q3 : ¬ (m : Int) < 0 := by omega
  have q4 : ¬ (60 : Int) < (m : Int) := by omega
  have hz := hid_into ht.lt
  have hT := hid_into ht
  clear ht h0 h1 hc
  go_enter Tryd.func5, Tryd.ntmps5
  go_wp2_with fail
  refine (Ld.new w w.heap.size (Nat.le_refl _) 2 (by decide)).mono ?_
  rintro e w1 ⟨rfl, A1, B1, s1⟩
  have I0 : TickI w w.heap.size 0 0 w1 := ⟨⟨_, _, A1, ⟨rfl, rfl, rfl, rfl, rfl⟩⟩, B1⟩
  clear A1 B1 s1
  generalize hla : w.heap.size = la at *
  replace hla := hid_into hla
  go_wp2_with fail
  go_loopw [6] (fun i wr => ∃ (j : Nat), i = .int .i64 (j : Int) ∧ j ≤ n ∧ TickI w la j 0 wr) (fun i _ => n - (intOf i).toNat)
  case atStart => exact ⟨0, rfl, Nat.zero_le _, I0⟩
  case round =>
    obtain ⟨j, rfl, hj, I⟩ := hrel
    obtain ⟨F, s, A, hS⟩ := I.l
    by_cases hlt : j < n
    · have hlt' : (j : Int) < (n : Int) := by omega
      have hB1 : Below la w (wr.alloc (.cells #[.int .u8 (j : Int)] 5)) := I.b.alloc A.sz _
      have A1 : Ld (wr.alloc (.cells #[.int .u8 (j : Int)] 5)) la F la 2 s := A.below ((Below.refl _ _).alloc (Nat.le_refl _) _)
      have hbs : Bs (wr.alloc (.cells #[.int .u8 (j : Int)] 5)) (.slice (some ⟨wr.heap.size, 0, none⟩) 1 1) [(j : Int)] := Bs_of_block (heap_alloc_new wr _) (by simp [maxLen])
      have C := hid_into (Ld.send A1 A1.sz (hT.out.below hB1 hz.out) hz.out hbs (fun z hz => by simp at hz; omega) (by simp) (by rw [hS.l]; omega) (by rw [hS.g]; omega))
      have HI : Hid (∀ w2 n2, Ld w2 la (Fw F (wr.alloc (.cells #[.int .u8 (j : Int)] 5)).heap.size n2) la 2 ((s.put [(j : Int)]).goes 16) → Gr F (wr.alloc (.cells #[.int .u8 (j : Int)] 5)) w2 → TickI w la (j + 1) 0 w2) := fun w2 n2 hl hg => ⟨⟨_, _, hl, hS.put _⟩, hB1.trans (hg.below A1.sz A.b)⟩
      have hj8 : IntKind.u8.wrap (j : Int) = (j : Int) := by simp only [IntKind.wrap_u8]; omega
      clear I A hS hB1 A1 hbs hn hm
      generalize ((s.put [(j : Int)]).outs 16).length = ol at *
      go_wp2_with (go_at_call 8; refine C.out.mono ?_; rintro e w2 ⟨ao, cap, n2, rfl, hn2, hp, hl, hg⟩)
      go_roundw
      case rel => exact ⟨j + 1, by go_num, by omega, HI.out _ _ hl hg⟩
      case measure => simp [intOf]; omega
    · obtain rfl : j = n := by omega
      have hI := hid_into I
      clear I A hS
      go_wp2_with fail
      go_loopw [7] (fun i wr => ∃ (k : Nat), i = .int .i64 ((k : Int) + 1) ∧ k ≤ m ∧ TickI w la j k wr) (fun i _ => m + 1 - (intOf i).toNat)
      case atStart => exact ⟨0, rfl, Nat.zero_le _, hI.out⟩
      case round =>
        obtain ⟨k, rfl, hk, I⟩ := hrel
        obtain ⟨F, s, A, hS⟩ := I.l
        by_cases hlt2 : k < m
        · have hlt2' : (k : Int) + 1 ≤ (m : Int) := by omega
          have hT2 := hS.tick
          have hsn : s.since ≤ 4 := by rw [hS.t]; split <;> omega
          have hmul : min j 16 * (1 + k / 5) ≤ 16 * 13 := Nat.mul_le_mul (by omega) (by omega)
          have C := hid_into (Ld.tick A (hT.out.below I.b hz.out) hz.out (by rw [hS.g]; omega) hsn)
          have HI : Hid (∀ w2, Ld w2 la F la 2 s.tickS → Gr F wr w2 → TickI w la j (k + 1) w2) := fun w2 hl hg => ⟨⟨_, _, hl, hT2.1⟩, I.b.trans (hg.below A.sz A.b)⟩
          have hlen := hid_into hT2.2
          clear I A hS hT2 hsn hmul hm
          generalize s.tickO.length = tl at *
          by_cases h5 : (k + 1) % 5 = 0
          · have h5' : ((k : Int) + 1).tmod 5 = 0 := by rw [Int.tmod_eq_emod_of_nonneg (by omega)]; omega
            have h6 : tl = min j 16 := by rw [hlen.out, if_pos h5]
            subst h6
            go_wp2_with (go_at_call 12; refine C.out.mono ?_; rintro e w2 ⟨ao, cap, rfl, hp, hl, hg⟩)
            go_roundw
            case rel => exact ⟨k + 1, by go_num, by omega, HI.out _ hl hg⟩
            case measure => simp [intOf]; omega
          · have h5' : ¬ ((k : Int) + 1).tmod 5 = 0 := by rw [Int.tmod_eq_emod_of_nonneg (by omega)]; omega
            have h6 : tl = 0 := by rw [hlen.out, if_neg h5]
            subst h6
            go_wp2_with (go_at_call 12; refine C.out.mono ?_; rintro e w2 ⟨ao, cap, rfl, hp, hl, hg⟩)
            go_roundw
            case rel => exact ⟨k + 1, by go_num, by omega, HI.out _ hl hg⟩
            case measure => simp [intOf]; omega
        · obtain rfl : k = m := by omega
          obtain ⟨M, hM⟩ : ∃ M : Int, M = ((min j 16 * (1 + k / 5) : Nat) : Int) := ⟨_, rfl⟩
          have hmul : min j 16 * (1 + k / 5) ≤ 16 * 13 := Nat.mul_le_mul (by omega) (by omega)
          have hMw : RowKit.wrap64 (min (j : Int) 16 * (1 + (k : Int) / 5)) = M := by
            have e : (min (j : Int) 16 * (1 + (k : Int) / 5)) = M := by
              have e2 : ((min j 16 : Nat) : Int) = min (j : Int) 16 := by omega
              rw [hM]; push_cast; rw [e2]
            rw [e]
            unfold RowKit.wrap64
            omega
          have hst : Hid (∀ W, Below wr.heap.size wr W → Calls Tryd.prog 11 #[.pointer (some ⟨la, 0, none⟩)] W fun e w' => e = .returned (.tuple #[.int .i64 M, .int .i64 0]) ∧ Sm W w') := fun W h => by
            have := (A.below h).stats
            rw [hS.g, hS.v, ← hM] at this
            exact this
          have hlf : Hid (∀ W, Below wr.heap.size wr W → Calls Tryd.prog 9 #[.pointer (some ⟨la, 0, none⟩)] W fun e w' => e = .returned (.int .i64 (j : Int)) ∧ w' = W) := fun W h => by
            have := (A.below h).left
            rw [hS.l] at this
            exact this
          have hbl := hid_into I.b
          clear I A hS hM hmul
          go_wp2_with (first
            | (go_at_call 11; refine (hst.out _ (Below.refl _ _)).mono ?_; rintro e w6 ⟨rfl, h6⟩)
            | (go_at_call 9; refine (hlf.out _ (h6.below _)).mono ?_; rintro e w7 ⟨rfl, h7⟩; subst h7)
            | (go_at_call 6; refine (K.out _ (hbl.out.trans (h6.below _))).mono ?_; rintro e w8 ⟨rfl, h8⟩))
          go_ret
          exact ⟨rfl, by rw [hla.out]; exact h8⟩
end Go.Proofs.YtahodgmdikaedabDoor
