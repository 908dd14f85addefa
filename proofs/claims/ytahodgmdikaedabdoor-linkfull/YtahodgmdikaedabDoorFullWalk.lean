/-
  LinkFull's walk.
-/
import Derived.Test.YtahodgmdikaedabDoorM12
import Derived.Deep.OwnRows
namespace Go.Proofs.YtahodgmdikaedabDoor
open Go.RowKit
theorem made_zero (n : Nat) : madeCells #[Value.int .u8 0] n = (cellsOf (List.replicate n 0)).toArray := by
  apply Array.ext
  · simp [madeCells, cellsOf]
  · intro i h1 h2
    simp [madeCells, cellsOf, Nat.mod_one]
theorem run_make_b (n : Nat) (hn : n ≤ 1000000) (w : World) : (Instr.makeSlice 29 (.int .i64 (n : Int)) (.int .i64 (n : Int))).run Tryd.prog w = .ok (.slice (some ⟨w.heap.size, 0, none⟩) n n) (w.alloc (.cells (cellsOf (List.replicate n 0)).toArray 5)) := by
  have hrun := run_make_row' (P := Tryd.prog) 29 5 (.int .u8 0) 1 Tryd.underlying29 Tryd.info5 rfl .i64 .i64 n (by omega) (by omega) w
  rw [made_zero] at hrun
  exact hrun
theorem put_len (s : Lk) (z : List Int) : ((s.put z).goes 16).L.length = s.L.length + 1 := by simp [Lk.goes, Lk.put]
theorem put_sent (s : Lk) (z : List Int) : ((s.put z).goes 16).sent ≤ s.sent + 16 := by
  show s.sent + ((s.put z).full 16 - s.way) ≤ _
  unfold Lk.full
  have : (s.put z).way = s.way := rfl
  omega
theorem Ld.full {w : World} {B : Nat} {F : Nat → Prop} {lb : Nat} {id : Int} {s : Lk} {sv : Value} {zs : List Int} (h : Ld w B F lb id s) (hs : Bs w sv zs) (hz : zs.length ≤ 4096) (hf : s.L.length = 1000) : Calls Tryd.prog 8 #[.pointer (some ⟨lb, 0, none⟩), sv] w fun e w' => e = .returned (.tuple #[.slice none 0 0, .int .i64 6]) ∧ w' = w := by
  obtain ⟨v, rs, hl⟩ := h.l
  exact send_full hl hs hz hf
/-- Behind j rows. -/
structure FullI (w : World) (la : Nat) (j : Nat) (wr : World) : Prop where
  l : ∃ F s, Ld wr la F la 1 s ∧ s.L.length = min j 1000 ∧ s.sent ≤ 16 * j
  b : Below la w wr
set_option maxHeartbeats 6400000 in
set_option maxRecDepth 20000 in
theorem full_walk (n0 : Int) (h0 : -9223372036854775808 ≤ n0 ∧ n0 ≤ 9223372036854775807) (w : World) (ht : Tab w) :
    Calls Tryd.prog 3 #[.int .i64 n0] w fun e w' => e = .returned (.bool true) ∧ Below w.heap.size w w' := by
  have K : Hid (∀ W, Below w.heap.size w W → Calls Tryd.prog 6 #[] W fun e w' => e = .returned (.bool true) ∧ Below w.heap.size w w') := fun W h => (lknown_any W (ht.below h ht.lt)).mono fun e w' ⟨he, hB⟩ => ⟨he, h.trans (hB.mono h.size)⟩
  by_cases c1 : n0 < 0
  · clear ht h0
    go_enter Tryd.func3, Tryd.ntmps3
    go_wp2_with (go_at_call 6; refine (K.out _ (Below.refl _ _)).mono ?_; rintro e w1 ⟨rfl, hB⟩)
    go_ret
    exact ⟨rfl, hB⟩
  by_cases c2 : 20 < n0
  · clear ht h0
    go_enter Tryd.func3, Tryd.ntmps3
    go_wp2_with (go_at_call 6; refine (K.out _ (Below.refl _ _)).mono ?_; rintro e w1 ⟨rfl, hB⟩)
    go_ret
    exact ⟨rfl, hB⟩
  obtain ⟨n, rfl⟩ : ∃ n : Nat, n0 = n := ⟨n0.toNat, by omega⟩
  have hn : n ≤ 20 := by omega
  have hz := hid_into ht.lt
  have hT := hid_into ht
  clear ht h0
  go_enter Tryd.func3, Tryd.ntmps3
  go_wp2_with fail
  refine (Ld.new w w.heap.size (Nat.le_refl _) 1 (by decide)).mono ?_
  rintro e w1 ⟨rfl, A1, B1, s1⟩
  have I0 : FullI w w.heap.size 0 w1 := ⟨⟨_, _, A1, rfl, Nat.zero_le _⟩, B1⟩
  clear A1 B1 s1
  generalize hla : w.heap.size = la at *
  replace hla := hid_into hla
  go_wp2_with fail
  go_loopw [4] (fun i wr => ∃ (j : Nat), i = .int .i64 (j : Int) ∧ j ≤ 1000 + n ∧ FullI w la j wr) (fun i _ => 1000 + n - (intOf i).toNat)
  case atStart => exact ⟨0, rfl, Nat.zero_le _, I0⟩
  case round =>
    obtain ⟨j, rfl, hj, I⟩ := hrel
    obtain ⟨F, s, A, hL, hS⟩ := I.l
    by_cases hlt : j < 1000 + n
    · have hlt' : (j : Int) < 1000 + (n : Int) := by omega
      by_cases hk : j < 1000
      · have hk' : (j : Int) < 1000 := by omega
        have C := Ld.send (sv := .slice none 0 0) (zs := []) A (by have := A.hi la; obtain ⟨v, rs, hl⟩ := A.l; have := hl.hi la hl.fl; omega) (hT.out.below I.b hz.out) hz.out (Bs_nil _) (fun z hz => by cases hz) (by decide) (by omega) (by omega)
        have C := hid_into C
        have HI : Hid (∀ w2 n2, wr.heap.size ≤ n2 → Ld w2 la (Fw F wr.heap.size n2) la 1 ((s.put []).goes 16) → Gr F wr w2 → FullI w la (j + 1) w2) := fun w2 n2 _ hl hg => ⟨⟨_, _, hl, by rw [put_len]; omega, by have := put_sent s []; omega⟩, I.b.trans (hg.below (by obtain ⟨v, rs, hl⟩ := A.l; have := hl.hi la hl.fl; omega) A.b)⟩
        clear I A hL hS hn
        generalize ((s.put []).outs 16).length = ol at *
        go_wp2_with (go_at_call 8; refine C.out.mono ?_; rintro e w2 ⟨ao, cap, n2, rfl, hn2, hp, hl, hg⟩)
        go_roundw
        case rel => exact ⟨j + 1, by go_num, by omega, HI.out _ _ hn2 hl hg⟩
        case measure => simp [intOf]; omega
      · have hk' : ¬ (j : Int) < 1000 := by omega
        have C := hid_into (Ld.full (sv := .slice none 0 0) (zs := []) A (Bs_nil _) (by decide) (by omega))
        have HI : Hid (FullI w la (j + 1) wr) := ⟨⟨F, s, A, by omega, by omega⟩, I.b⟩
        clear I A hL hS hn
        go_wp2_with (go_at_call 8; refine C.out.mono ?_; rintro e w2 ⟨rfl, h2⟩; subst h2)
        go_roundw
        case rel => exact ⟨j + 1, by go_num, by omega, HI.out⟩
        case measure => simp [intOf]; omega
    · obtain rfl : j = 1000 + n := by omega
      have hlt' : ¬ ((1000 + n : Nat) : Int) < 1000 + (n : Int) := by omega
      have hI := hid_into I.b
      have hT2 : Hid (∀ W, Below la w W → Tab W) := fun W h => hT.out.below h hz.out
      have hlf : Hid (∀ W, Below wr.heap.size wr W → Calls Tryd.prog 9 #[.pointer (some ⟨la, 0, none⟩)] W fun e w' => e = .returned (.int .i64 1000) ∧ w' = W) := fun W h => by
        have := (A.below h).left
        rw [hL, show min (1000 + n) 1000 = 1000 by omega] at this
        exact this
      have hsz : Hid (la ≤ wr.heap.size) := by show _ ≤ _; obtain ⟨v, rs, hl⟩ := A.l; have := hl.hi la hl.fl; omega
      clear I A hL hS
      have hmk : Hid (∀ (W : World) g, Cw W g (cellsOf (List.replicate (4096 + n) 0)) 5 → Bs W (.slice (some ⟨g, 0, none⟩) (4096 + n) (4096 + n)) (List.replicate (4096 + n) 0)) := fun W g h => by
        have := Cw.bs h (by rw [List.length_replicate]; unfold maxLen; omega)
        rw [List.length_replicate] at this
        exact this
      have T0 : Hid (∀ W, Below wr.heap.size wr W → Tab W) := fun W h => hT2.out W (hI.out.trans (h.mono hsz.out))
      have z0 : Hid (0 < wr.heap.size) := by show _ < _; have := hz.out; have := hsz.out; omega
      have SND : Hid (∀ (W : World) lb sv, (∃ F, Ld W wr.heap.size F lb 1 newL) → Below wr.heap.size wr W → Bs W sv (List.replicate (4096 + n) 0) → Calls Tryd.prog 8 #[.pointer (some ⟨lb, 0, none⟩), sv] W fun e w' => ∃ ao l cap, e = .returned (.tuple #[.slice ao l cap, .int .i64 (if 0 < n then 5 else 0)]) ∧ Below wr.heap.size wr w') := fun W lb sv ⟨F, hl⟩ hB hbs => by
        by_cases h0 : 0 < n
        · rw [if_pos h0]
          refine (send_long (lb := lb) hbs (by rw [List.length_replicate]; omega)).mono ?_
          rintro e w' ⟨rfl, rfl⟩
          exact ⟨none, 0, 0, rfl, hB⟩
        · rw [if_neg h0]
          refine (Ld.send hl hB.size (T0.out _ hB) z0.out hbs (fun z hz => by rw [List.eq_of_mem_replicate hz]; decide) (by rw [List.length_replicate]; omega) (by decide) (by decide)).mono ?_
          rintro e w' ⟨ao, cap, n2, rfl, _, _, _, hg⟩
          exact ⟨ao, _, cap, rfl, hB.trans (hg.below hB.size hl.b)⟩
      have q0 : (0 : Int) ≤ 4096 + (n : Int) := by omega
      have e1 : Hid (IntKind.i64.wrap ((4096 : Int) + (n : Int)) = ((4096 + n : Nat) : Int)) := by show _ = _; rw [IntWalk.i64_in _ (by omega)]; omega
      go_wp2_with fail
      obtain ⟨Z, hZ⟩ : ∃ Z, Z = (cellsOf (List.replicate (4096 + n) 0)).toArray := ⟨_, rfl⟩
      have km := fun W => run_make_b (4096 + n) (by omega) W
      rw [← e1.out, ← hZ] at km
      have hmk2 : Hid (∀ W : World, Bs (W.alloc (.cells Z 5)) (.slice (some ⟨W.heap.size, 0, none⟩) (4096 + n) (4096 + n)) (List.replicate (4096 + n) 0)) := fun W => hmk.out _ _ (by rw [hZ]; exact Cw.new W _ 5)
      clear hZ
      have LN : Hid (∀ W, Below wr.heap.size wr W → Calls Tryd.prog 7 #[.int .i64 1] W fun e w' => e = .returned (.pointer (some ⟨W.heap.size, 0, none⟩)) ∧ (∃ F, Ld w' wr.heap.size F W.heap.size 1 newL) ∧ Below W.heap.size W w' ∧ Below wr.heap.size wr w') := fun W h => by
        refine (Ld.new W wr.heap.size h.size 1 (by decide)).mono ?_
        rintro e w' ⟨rfl, hl, hb, hs⟩
        exact ⟨rfl, ⟨_, hl⟩, hb, h.trans (hb.mono h.size)⟩
      have LA : ∀ W lb, (∃ F, Ld W wr.heap.size F lb 1 newL) → ∃ F, Ld (W.alloc (.cells Z 5)) wr.heap.size F lb 1 newL := fun W lb ⟨F, h⟩ => ⟨F, h.below ((Below.refl _ _).alloc (Nat.le_refl _) _)⟩
      replace LA := hid_into LA
      have wb : Below wr.heap.size wr wr.drew := (Below.refl _ wr).drew
      have wz : Below wr.heap.size wr (wr.drew.alloc (.cells Z 5)) := wb.alloc (Nat.le_refl _) _
      replace wb := hid_into wb
      replace wz := hid_into wz
      by_cases h0 : 0 < n
      · have h0' : (0 : Int) < (n : Int) := by omega
        rw [if_pos h0] at SND
        go_region_held3 (fun _ => True) (trivial) (first
          | (go_at_call 7; refine (LN.out _ (by first | exact wb.out | exact wz.out)).mono ?_; rintro e w5 ⟨rfl, A5, B5, B6⟩)
          | (go_at_call 8; refine (SND.out _ _ _ ?_ ?_ ?_).mono ?_; (first | exact A5 | exact LA.out _ _ A5 | (have A6 := A5; rw [show (wr.alloc (.cells Z 5)).drew.heap.size = wr.heap.size + 1 from World.size_alloc _ _] at A6; exact A6)); (first | exact B6 | exact B6.alloc B6.size _); (first | exact hmk2.out _ | exact (hmk2.out wr).below (show Below (wr.alloc (.cells Z 5)).heap.size (wr.alloc (.cells Z 5)) w5 from ⟨B5.os, B5.tape, B5.output, B5.size, B5.block⟩) (Nat.le_refl _)); rintro e w8 ⟨ao8, l8, cap8, rfl, hg8⟩))
        all_goals
          (clear km
           go_wp2_with (first
             | (go_at_call 9; refine (hlf.out _ hg8).mono ?_; rintro e w9 ⟨rfl, h9⟩; subst h9)
             | (go_at_call 6; refine (K.out _ (hI.out.trans (hg8.mono hsz.out))).mono ?_; rintro e w10 ⟨rfl, h10⟩))
           go_ret
           exact ⟨rfl, by rw [hla.out]; exact h10⟩)
      · have h0' : ¬ (0 : Int) < (n : Int) := by omega
        rw [if_neg h0] at SND
        go_region_held3 (fun _ => True) (trivial) (first
          | (go_at_call 7; refine (LN.out _ (by first | exact wb.out | exact wz.out)).mono ?_; rintro e w5 ⟨rfl, A5, B5, B6⟩)
          | (go_at_call 8; refine (SND.out _ _ _ ?_ ?_ ?_).mono ?_; (first | exact A5 | exact LA.out _ _ A5 | (have A6 := A5; rw [show (wr.alloc (.cells Z 5)).drew.heap.size = wr.heap.size + 1 from World.size_alloc _ _] at A6; exact A6)); (first | exact B6 | exact B6.alloc B6.size _); (first | exact hmk2.out _ | exact (hmk2.out wr).below (show Below (wr.alloc (.cells Z 5)).heap.size (wr.alloc (.cells Z 5)) w5 from ⟨B5.os, B5.tape, B5.output, B5.size, B5.block⟩) (Nat.le_refl _)); rintro e w8 ⟨ao8, l8, cap8, rfl, hg8⟩))
        all_goals
          (clear km
           go_wp2_with (first
             | (go_at_call 9; refine (hlf.out _ hg8).mono ?_; rintro e w9 ⟨rfl, h9⟩; subst h9)
             | (go_at_call 6; refine (K.out _ (hI.out.trans (hg8.mono hsz.out))).mono ?_; rintro e w10 ⟨rfl, h10⟩))
           go_ret
           exact ⟨rfl, by rw [hla.out]; exact h10⟩)
end Go.Proofs.YtahodgmdikaedabDoor
