/-
  The law's ints and known, by contracts; Due of nil timers.
-/
import Derived.Test.YtilaankipjcgaaaDue
namespace Go.Proofs.Ytilaankipjcgaaa
open Go.RowKit Go.Maps
variable {w w' : World} {F : Nat → Prop} {sb : Nat} {s : List Pr}
theorem due_nil (w : World) (now : Int) : Calls Try.prog 14 #[.pointer none, .int .i64 now] w fun e w' => e = .returned (.slice none 0 0) ∧ w' = w := by
  go_enter Try.func14, Try.ntmps14
  go_wp2_with fail
  go_loopw [5] (fun x wr => x = .slice none 0 0 ∧ wr = w) (fun _ _ => 0)
  case atStart => exact ⟨rfl, rfl⟩
  case round =>
    obtain ⟨rfl, rfl⟩ := hrel
    go_wp2_with (go_at_call 18; refine (tlen_nil _).mono ?_; rintro e w2 ⟨rfl, rfl⟩)
    go_ret
    exact ⟨rfl, rfl⟩
/-- The slice v reads as the numbers zs. -/
def Is (w : World) (v : Value) (zs : List Int) : Prop :=
  (zs = [] ∧ ∃ ao cap, v = .slice ao 0 cap) ∨
  (zs ≠ [] ∧ zs.length ≤ 9223372036854775807 ∧ ∃ b off cap, v = .slice (some ⟨b, off, none⟩) zs.length cap ∧ ∀ i, i < zs.length → w.cell? ⟨b, off + i, none⟩ = some (.int .i64 (zs.getD i 0)))
theorem Is.len {v : Value} {zs : List Int} (h : Is w v zs) : ∃ ao cap, v = .slice ao zs.length cap ∧ zs.length ≤ 9223372036854775807 := by
  rcases h with ⟨rfl, ao, cap, rfl⟩ | ⟨_, hl, b, off, cap, rfl, _⟩
  · exact ⟨ao, cap, rfl, by simp⟩
  · exact ⟨_, cap, rfl, hl⟩
theorem Is.keep {v : Value} {zs : List Int} (h : Is w v zs) (hk : ∀ k, v.ownBlock = some k → k < w.heap.size → w'.heap[k]? = w.heap[k]?) : Is w' v zs := by
  rcases h with h | ⟨hz, hl, b, off, cap, rfl, hcell⟩
  · exact Or.inl h
  · refine Or.inr ⟨hz, hl, b, off, cap, rfl, fun i hi => ?_⟩
    have h1 := hcell i hi
    have hlt := World.block_lt_of_cell? w _ h1
    rw [World.cell?_of_block (w := w) (hk b rfl hlt)]
    exact h1
theorem Sm.is {v : Value} {zs : List Int} (h : Sm w w') (hb : Is w v zs) : Is w' v zs := hb.keep fun k _ _ => by rw [h.heap]
theorem Ir.is {v : Value} {zs : List Int} (h : Ir w v zs) (hl : zs.length ≤ 9223372036854775807) : Is w v zs := by
  rcases h.2 with ⟨h1, h2⟩ | ⟨g, cap, cur, h1, h2, h3⟩
  · exact Or.inl ⟨List.eq_nil_of_length_eq_zero h2, none, 0, h1⟩
  · by_cases hz : zs = []
    · subst hz
      exact Or.inl ⟨rfl, _, cap, h1⟩
    · refine Or.inr ⟨hz, hl, g, 0, cap, h1, fun i hi => ?_⟩
      have := World.ownsRow.cells h (g := g) (by rw [h1]; rfl) i (.int .i64 (zs.getD i 0)) (by simp [hi, List.getD])
      simpa [Addr.add_lit] using this
theorem eq_of_all (xs ys : List Int) (hl : xs.length = ys.length) (h : ∀ j, j < xs.length → xs.getD j 0 = ys.getD j 0) : xs = ys := by
  apply List.ext_getElem hl
  intro i h1 h2
  have := h i h1
  simpa [List.getD, h1, h2] using this
def eqB (xs ys : List Int) : Bool := decide (xs = ys)
theorem eqB_true {xs ys : List Int} (h : xs = ys) : eqB xs ys = true := by simp [eqB, h]
theorem eqB_false {xs ys : List Int} (h : xs ≠ ys) : eqB xs ys = false := by simp [eqB, h]
set_option maxHeartbeats 800000 in
theorem ints_any (va vb : Value) (xs ys : List Int) (w : World) (ha : Is w va xs) (hb : Is w vb ys) :
    Calls Try.prog 13 #[va, vb] w fun e w' => e = .returned (.bool (eqB xs ys)) ∧ Sm w w' := by
  obtain ⟨a1, c1, h1, m1⟩ := ha.len
  obtain ⟨a2, c2, h2, m2⟩ := hb.len
  subst h1; subst h2
  by_cases hl : xs.length = ys.length
  · have hne : ((xs.length : Int) != (ys.length : Int)) = false := by simp [hl]
    have HL : Hid (xs.length = ys.length) := hl
    clear hl
    go_enter Try.func13, Try.ntmps13
    go_wp2
    go_loopw [5] (fun i wr => ∃ k : Nat, k ≤ xs.length ∧ i = .int .i64 k ∧ Sm w wr ∧ Hid (∀ j, j < k → xs.getD j 0 = ys.getD j 0)) (fun i _ => xs.length - (intOf i).toNat)
    case atStart => exact ⟨0, Nat.zero_le _, rfl, Sm.refl _, fun j hj => by omega⟩
    case round =>
      obtain ⟨k, hk, rfl, hsm, HJ⟩ := hrel
      by_cases hlt : k < xs.length
      · have hlt2 : k < ys.length := by have := HL.out; omega
        rcases hsm.is ha with ⟨h0, _⟩ | ⟨_, _, b1, o1, d1, he1, hcell1⟩
        · subst h0; simp at hlt
        rcases hsm.is hb with ⟨h0, _⟩ | ⟨_, _, b2, o2, d2, he2, hcell2⟩
        · subst h0; simp at hlt2
        simp only [Value.slice.injEq] at he1 he2
        obtain ⟨rfl, _, rfl⟩ := he1
        obtain ⟨rfl, _, rfl⟩ := he2
        have hx := hcell1 k hlt
        have hy := hcell2 k hlt2
        clear hcell1 hcell2
        obtain ⟨x, ex⟩ : ∃ x, x = xs.getD k 0 := ⟨_, rfl⟩
        obtain ⟨y, ey⟩ : ∃ y, y = ys.getD k 0 := ⟨_, rfl⟩
        rw [← ex] at hx
        rw [← ey] at hy
        have HX : Hid (x = xs.getD k 0) := ex
        have HY : Hid (y = ys.getD k 0) := ey
        clear ex ey
        by_cases hxy : x = y
        · subst hxy
          have HJ2 : Hid (∀ j, j < k + 1 → xs.getD j 0 = ys.getD j 0) := by
            intro j hj
            by_cases hjk : j = k
            · subst hjk; rw [← HX.out, ← HY.out]
            · exact HJ.out j (by omega)
          clear HJ HX HY
          go_wp2
          go_quiet (fail)
          go_wp2
          go_roundw
          case rel => exact ⟨k + 1, by omega, by go_num, hsm.trans (Sm.drewN _ _), HJ2⟩
          case measure => simp [intOf]; omega
        · have hxy' : (x != y) = true := by simp [hxy]
          have HF : Hid (eqB xs ys = false) := eqB_false (fun e => hxy (by rw [HX.out, HY.out, e]))
          clear HJ HX HY hxy
          go_wp2
          go_quiet (fail)
          go_wp2
          go_ret
          exact ⟨by rw [HF.out]; rfl, hsm.trans (Sm.drewN _ _)⟩
      · have HT : Hid (eqB xs ys = true) := eqB_true (eq_of_all xs ys HL.out (fun j hj => HJ.out j (by omega)))
        clear HJ
        go_wp2
        go_ret
        exact ⟨by rw [HT.out]; rfl, hsm⟩
  · have hne : ((xs.length : Int) != (ys.length : Int)) = true := by simp; omega
    have HF : Hid (eqB xs ys = false) := eqB_false (fun e => hl (by rw [e]))
    go_enter Try.func13, Try.ntmps13
    go_wp2
    go_ret
    exact ⟨by rw [HF.out]; rfl, Sm.refl _⟩
/-- timers of the call's own: all blocks from B on. -/
def To (B : Nat) (w : World) (sb : Nat) (s : List Pr) : Prop := Tm w (fun k => B ≤ k ∧ k < w.heap.size) sb s
theorem To.of {B : Nat} (h : Tm w F sb s) (hF : ∀ k, F k → B ≤ k) : To B w sb s := h.more fun k hk hl => ⟨hF k hk, hl⟩
theorem set_own {B : Nat} (h : To B w sb s) (hB : B ≤ w.heap.size) (id due : Int) (hid : In64 id) (hdu : In64 due) :
    Calls Try.prog 9 #[.pointer (some ⟨sb, 0, none⟩), .int .i64 id, .int .i64 due] w fun e w' => e = .returned (.bool (canS s id)) ∧ To B w' sb (setS s id due) ∧ Below B w w' := by
  refine (set_any h id due hid hdu).mono ?_
  rintro e w' ⟨rfl, h2, hg⟩
  refine ⟨rfl, To.of h2 fun k hk => ?_, hg.below hB fun k hk => hk.1⟩
  rcases hk with hk | hk
  · exact hk.1
  · omega
theorem due_own {B : Nat} (h : To B w sb s) (hB : B ≤ w.heap.size) (now : Int) : Calls Try.prog 14 #[.pointer (some ⟨sb, 0, none⟩), .int .i64 now] w fun e w' =>
    ∃ ao cap, e = .returned (.slice ao (dues s now).length cap) ∧ Ir w' (.slice ao (dues s now).length cap) (dues s now) ∧ (∀ k, (Value.slice ao (dues s now).length cap).ownBlock = some k → w.heap.size ≤ k) ∧ To B w' sb (rest s now) ∧ Below B w w' ∧ Grows (fun k => B ≤ k ∧ k < w.heap.size) w w' := by
  refine (due_any h now fun k hk => hk.2).mono ?_
  rintro e w' ⟨v, rfl, h1, h2, h3, h4⟩
  obtain ⟨ao, cap, rfl⟩ := h1.form
  exact ⟨ao, cap, rfl, h1, h2, To.of h3 fun k hk => hk.1, h4.below hB fun k hk => hk.1, h4⟩
theorem in64 (x : Int) (h1 : -1000000000000 ≤ x) (h2 : x ≤ 1000000000000) : In64 x := by unfold In64; omega
def kn4 : List Pr := setS (setS (setS (setS [] 7 5) 3 5) 9 4) 9 6
theorem kn_dues : dues kn4 5 = [3, 7] := by decide
theorem kn_rest : (rest kn4 5).length = 1 := by decide
theorem is_two (w : World) (a b : Int) : Is (w.alloc (.cells #[.int .i64 a, .int .i64 b] 3)) (.slice (some ⟨w.heap.size, 0, none⟩) 2 2) [a, b] := by
  refine Or.inr ⟨by simp, by simp, w.heap.size, 0, 2, rfl, fun i hi => ?_⟩
  have := (Cw.new w [.int .i64 a, .int .i64 b] 3).cell i
  rw [Nat.zero_add]
  refine this.trans ?_
  match i, hi with
  | 0, _ => rfl
  | 1, _ => rfl
theorem due_kn {B : Nat} (h : To B w sb kn4) (hB : B ≤ w.heap.size) : Calls Try.prog 14 #[.pointer (some ⟨sb, 0, none⟩), .int .i64 5] w fun e w' =>
    ∃ ao cap, e = .returned (.slice ao 2 cap) ∧ Is w' (.slice ao 2 cap) [3, 7] ∧ To B w' sb (rest kn4 5) ∧ Below B w w' := by
  refine (due_own h hB 5).mono ?_
  rintro e w' ⟨ao, cap, rfl, h1, -, h2, h3, -⟩
  rw [kn_dues] at h1 ⊢
  exact ⟨ao, cap, rfl, h1.is (by simp), h2, h3⟩
theorem eq_two : eqB [3, 7] [3, 7] = true := rfl
set_option maxRecDepth 20000 in
set_option maxHeartbeats 1000000 in
theorem known_any (w : World) : Calls Try.prog 19 #[] w fun e w' => e = .returned (.bool true) ∧ Below w.heap.size w w' := by
  have kr := kn_rest
  go_enter Try.func19, Try.ntmps19
  go_wp2_with (first
    | (go_at_call 8; refine (new_any _).mono ?_; rintro e w1 ⟨rfl, h1, B1⟩; have H := hid_into (To.of h1 fun k hk => hk); have BB := hid_into B1; have hsz := hid_into B1.size; clear h1 B1)
    | (go_at_call 9; refine (set_own H.out hsz.out _ _ (in64 _ (by decide) (by decide)) (in64 _ (by decide) (by decide))).mono ?_; rintro e w2 ⟨rfl, h2, B2⟩; replace H := hid_into h2; replace BB := hid_into (BB.out.trans B2); replace hsz := hid_into BB.out.size; clear h2 B2)
    | (go_at_call 14; refine (due_kn H.out hsz.out).mono ?_; rintro e w3 ⟨ao, cap, rfl, hi3, h3, B3⟩; replace hi3 := hid_into hi3; replace H := hid_into h3; replace BB := hid_into (BB.out.trans B3); replace hsz := hid_into BB.out.size; clear h3 B3)
    | (go_at_call 13; refine (ints_any _ _ _ _ _ (hi3.out.keep fun k _ hk => Below.heap_alloc _ _ _ hk) (is_two _ 3 7)).mono ?_; rintro e w4 ⟨rfl, sm4⟩; rw [eq_two]; replace BB := hid_into ((BB.out.alloc hsz.out _).trans (sm4.below _)); replace H : Hid (To _ w4 _ _) := hid_into ((H.out.keep fun k _ hk => by rw [sm4.heap]; exact Below.heap_alloc _ _ _ hk).more fun k hk _ => ⟨hk.1, by rw [sm4.size]; simp; have := hk.2; omega⟩); clear sm4)
    | (go_at_call 18; refine (tlen_any H.out).mono ?_; rintro e w5 ⟨rfl, rfl⟩; rw [kr]))
  go_ret
  exact ⟨rfl, BB.out⟩
end Go.Proofs.Ytilaankipjcgaaa
