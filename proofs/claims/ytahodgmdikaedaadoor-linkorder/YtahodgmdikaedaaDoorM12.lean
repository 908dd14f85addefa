/-
  Joined from: LkRead, LkNum, LkSend, LkAns, LkHear.
-/
import Derived.Test.YtahodgmdikaedaaDoorM10
import Derived.Test.YtahodgmdikaedaaDoorM11
section
/-
  Of which packet bytes are the record: read, by contract.
-/
namespace Go.Proofs.YtahodgmdikaedaaDoor
open Go.RowKit
theorem decP_len {zs : List Int} : (decP zs).length ≤ zs.length := by
  unfold decP
  split
  · rw [List.length_take, List.length_drop]; omega
  · simp
section
variable {w : World} {sv : Value} {zs : List Int}
set_option maxHeartbeats 1600000 in
set_option maxRecDepth 20000 in
theorem read_no1 (hb : Bs w sv zs) (hy : Byt zs) (hz : zs.length ≤ 1000000) (ht : Tab w) (h1 : ¬ oneB zs) :
    Calls Tryd.prog 37 #[sv] w fun e w' => e = .returned (.tuple #[.agg zero4.toArray, .bool false]) ∧ Below w.heap.size w w' := by
  obtain ⟨ao, cap, rfl, hm⟩ := hb.len
  have C1 : Hid (∀ W, Below w.heap.size w W → Calls Tryd.prog 51 #[.slice ao zs.length cap] W fun e w' => ∃ ao cap, e = .returned (.tuple #[.slice ao (decP zs).length cap, .int .i64 (decN zs), .int .i64 (decE zs)]) ∧ Ow w' W.heap.size (.slice ao (decP zs).length cap) (decP zs) ∧ Below W.heap.size W w') := fun W hB => dec_any _ zs W (hb.below hB (Nat.le_refl _)) hy (by omega) (ht.below hB ht.lt)
  have h1' : decE zs ≠ 0 ∨ (decE zs = 0 ∧ decN zs ≠ zs.length) := by
    by_cases c : decE zs = 0
    · exact Or.inr ⟨c, fun h => h1 ⟨c, h⟩⟩
    · exact Or.inl c
  clear hb hy ht h1
  generalize decE zs = dE at *
  generalize decN zs = dN at *
  rcases h1' with h1 | ⟨rfl, h1⟩
  · go_enter Tryd.func37, Tryd.ntmps37
    go_wp2_with (refine wpList_alloc_row rfl 80 rfl zero4 zero80 ?_; intro w1 ox hb1 hs1)
    refine (C1.out _ hb1).mono ?_
    rintro e w2 ⟨ao2, cap2, rfl, ho2, hb2⟩
    have ox2 := ox.below hb2 (by have := hs1.out; omega)
    have B2 : Below w.heap.size w w2 := hb1.trans (hb2.mono (by have := hs1.out; omega))
    clear ho2
    go_wp2_with (refine wpList_store_rw rfl 80 (.tmp 2) (.tmp 22) rfl w.heap.size zero4 zero4 80 (by rfl) (by rfl) ox2 size80z rfl zero4_one.out ?_; intro w3 ox3 O3)
    exact ret_row2 rfl rfl rfl ox3 Tryd.underlying80 rfl size80z ⟨rfl, B2.trans (O3.below (Nat.le_refl _))⟩
  · have h2 : ¬ (dN : Int) = (zs.length : Int) := by omega
    clear h1
    go_enter Tryd.func37, Tryd.ntmps37
    go_wp2_with (refine wpList_alloc_row rfl 80 rfl zero4 zero80 ?_; intro w1 ox hb1 hs1)
    refine (C1.out _ hb1).mono ?_
    rintro e w2 ⟨ao2, cap2, rfl, ho2, hb2⟩
    have ox2 := ox.below hb2 (by have := hs1.out; omega)
    have B2 : Below w.heap.size w w2 := hb1.trans (hb2.mono (by have := hs1.out; omega))
    clear ho2
    go_wp2_with (refine wpList_store_rw rfl 80 (.tmp 2) (.tmp 22) rfl w.heap.size zero4 zero4 80 (by rfl) (by rfl) ox2 size80z rfl zero4_one.out ?_; intro w3 ox3 O3)
    exact ret_row2 rfl rfl rfl ox3 Tryd.underlying80 rfl size80z ⟨rfl, B2.trans (O3.below (Nat.le_refl _))⟩
/-- Behind the frame: what a packet's parts are. -/
theorem read_one (hb : Bs w sv zs) (hy : Byt zs) (hz : zs.length ≤ 1000000) (ht : Tab w) (h1 : oneB zs) (W : World) (hB : Below w.heap.size w W) :
    Calls Tryd.prog 51 #[sv] W fun e w' => ∃ ao cap, e = .returned (.tuple #[.slice ao (decP zs).length cap, .int .i64 (zs.length : Int), .int .i64 0]) ∧ Below W.heap.size W w' ∧
      Hid (Calls Tryd.prog 52 #[.slice ao (decP zs).length cap] w' fun e w'' => ∃ ao cap, e = .returned (.tuple #[.agg (pkC (prs (decP zs)).id (prs (decP zs)).n (prs (decP zs)).ack (.slice ao (prs (decP zs)).row.length cap)).toArray, .int .i64 (prs (decP zs)).e]) ∧ Ow w'' w'.heap.size (.slice ao (prs (decP zs)).row.length cap) (prs (decP zs)).row ∧ Below w'.heap.size w' w'') := by
  refine (dec_any _ zs W (hb.below hB (Nat.le_refl _)) hy (by omega) (ht.below hB ht.lt)).mono ?_
  rintro e w' ⟨ao, cap, rfl, ho, hb2⟩
  rw [h1.1, h1.2]
  have hl := decP_len (zs := zs)
  exact ⟨ao, cap, rfl, hb2, parse_any w' _ (decP zs) ho.bs (decP_byt hy) (by omega)⟩
set_option maxHeartbeats 3200000 in
set_option maxRecDepth 20000 in
theorem read_no2 (hb : Bs w sv zs) (hy : Byt zs) (hz : zs.length ≤ 1000000) (ht : Tab w) (h1 : oneB zs) (h2 : ¬ (prs (decP zs)).ok) :
    Calls Tryd.prog 37 #[sv] w fun e w' => e = .returned (.tuple #[.agg zero4.toArray, .bool false]) ∧ Below w.heap.size w w' := by
  have C1 := hid_into (read_one hb hy hz ht h1)
  obtain ⟨ao, cap, rfl, hm⟩ := hb.len
  clear hb hy ht h1
  generalize (decP zs).length = dl at *
  generalize prs (decP zs) = t at *
  obtain ⟨ti, tn, ta, tr, te⟩ := t
  have h2' : te ≠ 0 ∨ (te = 0 ∧ tn < 0) ∨ (te = 0 ∧ ¬ tn < 0 ∧ ta < 0) ∨ (te = 0 ∧ ¬ tn < 0 ∧ ¬ ta < 0 ∧ (4096 : Int) < (tr.length : Int)) := by
    have h3 : ¬ (te = 0 ∧ 0 ≤ tn ∧ 0 ≤ ta ∧ tr.length ≤ 4096) := h2
    omega
  clear h2
  rcases h2' with h2 | ⟨rfl, h2⟩ | ⟨rfl, h3, h2⟩ | ⟨rfl, h3, h4, h2⟩
  all_goals
    (go_enter Tryd.func37, Tryd.ntmps37
     go_wp2_with (refine wpList_alloc_row rfl 80 rfl zero4 zero80 ?_; intro w1 ox hb1 hs1)
     refine (C1.out _ hb1).mono ?_
     rintro e w2 ⟨ao2, cap2, rfl, hb2, C2⟩
     have ox2 := ox.below hb2 (by have := hs1.out; omega)
     have B2 : Below w.heap.size w w2 := hb1.trans (hb2.mono (by have := hs1.out; omega))
     go_wp2_with fail
     refine C2.out.mono ?_
     rintro e w4 ⟨ao4, cap4, rfl, ho4, hb4⟩
     have ox4 := ox2.below hb4 ox2.lt
     have B4 : Below w.heap.size w w4 := B2.trans (hb4.mono B2.size)
     clear ho4 C2
     go_wp2_with (first
       | (refine wpList_alloc_row rfl 80 rfl zero4 zero80 ?_; intro w5 px5 hb5 hs5; have ox5 := ox4.below hb5 ox4.lt)
       | (refine wpList_store_rw rfl 80 (.tmp 7) (.tmp 26) rfl w4.heap.size zero4 (pkC ti tn ta (.slice ao4 tr.length cap4)) 80 (by rfl) (by rfl) px5 size80z (len80 _ _ _ _) (pkC_one _ _ _ _ _ _).out ?_; intro w6 px6 O6; have q1 : w6.cell? ⟨w4.heap.size, 1, none⟩ = some (.int .i64 tn) := px6.cell 1; have q2 : w6.cell? ⟨w4.heap.size, 2, none⟩ = some (.int .i64 ta) := px6.cell 2; have q3 : w6.cell? ⟨w4.heap.size, 3, none⟩ = some (.slice ao4 tr.length cap4) := px6.cell 3)
       | (refine wpList_store_rw rfl 80 (.tmp 2) (.tmp 46) rfl w.heap.size zero4 zero4 80 (by rfl) (by rfl) (O6.cw ox5 (by have := ox4.lt; omega)) size80z rfl zero4_one.out ?_; intro w7 ox7 O7))
     exact ret_row2 rfl rfl rfl ox7 Tryd.underlying80 rfl size80z ⟨rfl, ((B4.trans (hb5.mono B4.size)).trans (O6.below B4.size)).trans (O7.below (Nat.le_refl _))⟩)
set_option maxHeartbeats 3200000 in
set_option maxRecDepth 20000 in
theorem read_yes (hb : Bs w sv zs) (hy : Byt zs) (hz : zs.length ≤ 1000000) (ht : Tab w) (h1 : oneB zs) (h2 : (prs (decP zs)).ok) :
    Calls Tryd.prog 37 #[sv] w fun e w' => ∃ ao cap, e = .returned (.tuple #[.agg (pkC (prs (decP zs)).id (prs (decP zs)).n (prs (decP zs)).ack (.slice ao (prs (decP zs)).row.length cap)).toArray, .bool true]) ∧ Ow w' w.heap.size (.slice ao (prs (decP zs)).row.length cap) (prs (decP zs)).row ∧ Below w.heap.size w w' := by
  have C1 := hid_into (read_one hb hy hz ht h1)
  obtain ⟨ao, cap, rfl, hm⟩ := hb.len
  clear hb hy ht h1
  generalize (decP zs).length = dl at *
  generalize prs (decP zs) = t at *
  obtain ⟨ti, tn, ta, tr, te⟩ := t
  obtain ⟨h2, h3, h4, h5⟩ : te = 0 ∧ 0 ≤ tn ∧ 0 ≤ ta ∧ tr.length ≤ 4096 := h2
  subst h2
  have h3' : ¬ tn < 0 := by omega
  have h4' : ¬ ta < 0 := by omega
  have h5' : ¬ (4096 : Int) < (tr.length : Int) := by omega
  clear h3 h4 h5
  go_enter Tryd.func37, Tryd.ntmps37
  go_wp2_with (refine wpList_alloc_row rfl 80 rfl zero4 zero80 ?_; intro w1 ox hb1 hs1)
  refine (C1.out _ hb1).mono ?_
  rintro e w2 ⟨ao2, cap2, rfl, hb2, C2⟩
  have ox2 := ox.below hb2 (by have := hs1.out; omega)
  have B2 : Below w.heap.size w w2 := hb1.trans (hb2.mono (by have := hs1.out; omega))
  have Z2 : w.heap.size < w2.heap.size := by have := hs1.out; have := hb2.size; omega
  go_wp2_with fail
  refine C2.out.mono ?_
  rintro e w4 ⟨ao4, cap4, rfl, ho4, hb4⟩
  have ox4 := ox2.below hb4 ox2.lt
  have B4 : Below w.heap.size w w4 := B2.trans (hb4.mono B2.size)
  clear C2
  go_wp2_with (first
    | (refine wpList_alloc_row rfl 80 rfl zero4 zero80 ?_; intro w5 px5 hb5 hs5; have ox5 := ox4.below hb5 ox4.lt)
    | (refine wpList_store_rw rfl 80 (.tmp 7) (.tmp 26) rfl w4.heap.size zero4 (pkC ti tn ta (.slice ao4 tr.length cap4)) 80 (by rfl) (by rfl) px5 size80z (len80 _ _ _ _) (pkC_one _ _ _ _ _ _).out ?_; intro w6 px6 O6; have q1 : w6.cell? ⟨w4.heap.size, 1, none⟩ = some (.int .i64 tn) := px6.cell 1; have q2 : w6.cell? ⟨w4.heap.size, 2, none⟩ = some (.int .i64 ta) := px6.cell 2; have q3 : w6.cell? ⟨w4.heap.size, 3, none⟩ = some (.slice ao4 tr.length cap4) := px6.cell 3)
    | (refine wpList_load_rw rfl 80 (.tmp 7) rfl w4.heap.size (pkC ti tn ta (.slice ao4 tr.length cap4)) 80 _ (by rfl) px6 Tryd.underlying80 rfl (size80p _ _ _ _) ?_)
    | (refine wpList_store_rw rfl 80 (.tmp 2) (.tmp 47) rfl w.heap.size zero4 (pkC ti tn ta (.slice ao4 tr.length cap4)) 80 (by rfl) (by rfl) (O6.cw ox5 (by have := ox4.lt; omega)) size80z (len80 _ _ _ _) (pkC_one _ _ _ _ _ _).out ?_; intro w7 ox7 O7))
  refine ret_row2 rfl rfl rfl ox7 Tryd.underlying80 rfl (size80p _ _ _ _) ⟨ao4, cap4, rfl, ?_, ((B4.trans (hb5.mono B4.size)).trans (O6.below B4.size)).trans (O7.below (Nat.le_refl _))⟩
  refine (ho4.mono B2.size).keep fun k hk hlt => ?_
  have h6 := World.ownsRow.lt ho4 k hk
  rw [O7.block k (by omega), O6.block k (by omega), hb5.block k h6.2]
end
end Go.Proofs.YtahodgmdikaedaaDoor
end

section
/-
  A number that is taken fits; a packet's parts, as read tells them.
-/
namespace Go.Proofs.YtahodgmdikaedaaDoor
open Go.RowKit
theorem unfoldI_in (u : Nat) (h : u < 18446744073709551616) : -9223372036854775808 ≤ unfoldI u ∧ unfoldI u ≤ 9223372036854775807 := by
  by_cases h1 : u % 2 = 1
  · rw [unfoldI_odd h1]; omega
  · rw [unfoldI_even h1]; omega
theorem zero_in : -9223372036854775808 ≤ (0 : Int) ∧ (0 : Int) ≤ 9223372036854775807 := by decide
theorem numR_in : ∀ (f k u : Nat) (zs : List Int), f + k = 10 → u < 128 ^ k → Byt zs → -9223372036854775808 ≤ (numR f k u zs).1 ∧ (numR f k u zs).1 ≤ 9223372036854775807
  | 0, _, _, _, _, _, _ => zero_in
  | f + 1, _, _, [], _, _, _ => zero_in
  | f + 1, k, u, z :: r, hk, hu, hz => by
    have hz0 := hz z (List.mem_cons_self ..)
    by_cases h : 128 ≤ z
    · rw [numR_more h]
      refine numR_in f (k + 1) _ r (by omega) ?_ (fun x hx => hz x (List.mem_cons_of_mem _ hx))
      have h1 : (z.toNat % 128) * 128 ^ k ≤ 127 * 128 ^ k := Nat.mul_le_mul_right _ (by omega)
      rw [Nat.pow_succ]
      omega
    · cases hb : badB k z with
      | true => rw [numR_bad h hb]; exact zero_in
      | false =>
        rw [numR_good h hb]
        refine unfoldI_in _ ?_
        by_cases h9 : k = 9
        · subst h9
          have : z ≤ 1 := by
            unfold badB at hb
            simp at hb
            omega
          have h1 : z.toNat * 128 ^ 9 ≤ 1 * 128 ^ 9 := Nat.mul_le_mul_right _ (by omega)
          have h2 := pow_le9 9 (Nat.le_refl _)
          omega
        · have h1 : z.toNat * 128 ^ k ≤ 127 * 128 ^ k := Nat.mul_le_mul_right _ (by omega)
          have h2 := pow_le8 k (by omega)
          omega
theorem numE_in {zs : List Int} (e : Int) (h : Byt zs) : -9223372036854775808 ≤ (numE zs e).1 ∧ (numE zs e).1 ≤ 9223372036854775807 := by
  unfold numE
  split
  · exact zero_in
  · exact numR_in 10 0 0 zs rfl (by decide) h
theorem bytesR_row {zs : List Int} (e : Int) (h : Byt zs) : Byt (bytesR zs e).1 := by
  have h1 := (numR_byt 10 0 0 zs h).1
  have nil : Byt ([] : List Int) := fun z hz => by cases hz
  unfold bytesR
  split
  · exact nil
  · split
    · exact nil
    · split
      · exact nil
      · split
        · exact nil
        · exact fun z hz => h1 z (List.mem_of_mem_take hz)
theorem prs_in {ps : List Int} (h : Byt ps) : (prs ps).n ≤ 9223372036854775807 ∧ (prs ps).ack ≤ 9223372036854775807 ∧ Byt (prs ps).row := by
  have yA : Byt (ptA ps).2.1 := (numR_byt 10 0 0 ps h).1
  have yB : Byt (ptB ps).2.1 := numE_byt _ yA
  have yC : Byt (ptC ps).2.1 := numE_byt _ yB
  refine ⟨(numE_in _ yA).2, (numE_in _ yB).2, ?_⟩
  show Byt (ptD ps).1
  unfold ptD
  split
  · exact bytesR_row _ yC
  · intro z hz; cases hz
/-- A packet that came. -/
structure Pk.Came (p : Pk) : Prop where
  n : p.n ≤ 9223372036854775807
  a : p.ack ≤ 9223372036854775807
  b : Byt p.row
  l : p.row.length ≤ 4096
theorem rdP_came {id : Int} {zs : List Int} {p : Pk} (hy : Byt zs) (hp : rdP id zs = some p) : p.Came := by
  obtain ⟨k1, k2, k3⟩ := prs_in (decP_byt hy)
  unfold rdP at hp
  split at hp
  · next c =>
    obtain rfl := Option.some.inj hp
    obtain ⟨_, c1, c2, c3⟩ := c.2.1
    exact ⟨by show Int.toNat _ ≤ _; omega, by show Int.toNat _ ≤ _; omega, k3, c3⟩
  · cases hp
theorem read_pk {w : World} {sv : Value} {zs : List Int} {id : Int} {p : Pk} (hb : Bs w sv zs) (hy : Byt zs) (hz : zs.length ≤ 1000000) (ht : Tab w) (hp : rdP id zs = some p) :
    Calls Tryd.prog 37 #[sv] w fun e w' => ∃ ao cap, e = .returned (.tuple #[.agg (pkC id p.n p.ack (.slice ao p.row.length cap)).toArray, .bool true]) ∧ Ow w' w.heap.size (.slice ao p.row.length cap) p.row ∧ Below w.heap.size w w' := by
  unfold rdP at hp
  split at hp
  · next c =>
    obtain rfl := Option.some.inj hp
    have h := read_yes hb hy hz ht c.1 c.2.1
    obtain ⟨_, c1, c2, c3⟩ := c.2.1
    rw [c.2.2] at h
    show Calls Tryd.prog 37 #[sv] w fun e w' => ∃ ao cap, e = .returned (.tuple #[.agg (pkC id (((prs (decP zs)).n.toNat : Nat) : Int) (((prs (decP zs)).ack.toNat : Nat) : Int) (.slice ao (prs (decP zs)).row.length cap)).toArray, .bool true]) ∧ Ow w' w.heap.size (.slice ao (prs (decP zs)).row.length cap) (prs (decP zs)).row ∧ Below w.heap.size w w'
    rw [Int.toNat_of_nonneg c1, Int.toNat_of_nonneg c2]
    exact h
  · cases hp
end Go.Proofs.YtahodgmdikaedaaDoor
end

section
/-
  The program's Link: Send, by contract.
-/
namespace Go.Proofs.YtahodgmdikaedaaDoor
open Go.RowKit
/-- An append of one slice to a row of slices, its run. -/
theorem row_app {w : World} {v : Value} {n : Nat} {us : List Value} (hown : w.ownsRow 0 29 1 v n us) (B : Nat) (u : Value) (hu1 : u.oneCell' = true) (hb : w.cell? ⟨B, 0, none⟩ = some u) (h63 : n ≤ 1000000000) :
    ∃ ao cap w', (∀ ty, (Builtin.append_ #[33, 33] ty #[v, .slice (some ⟨B, 0, none⟩) 1 1]).run Tryd.prog w = .ok (.slice ao (n + 1) cap) w') ∧ w'.ownsRow 0 29 1 (.slice ao (n + 1) cap) (n + 1) (us ++ [u]) ∧ w.grownBy w' v.ownBlock ∧ ((Value.slice ao (n + 1) cap).ownBlock = v.ownBlock ∨ (Value.slice ao (n + 1) cap).ownBlock = some w.heap.size) := by
  obtain ⟨i0, hi, hz0, hz1, hz2⟩ := info_parts Tryd.info22
  obtain ⟨v', w', hrun, h2, h3, _, h5⟩ := run_append_own_at (P := Tryd.prog) w 0 33 0 29 i0 (.slice none 0 0) 1 24 Tryd.underlying33 hi hz0 hz1 hz2 rfl (by decide) v n us hown ⟨B, 0, none⟩ 1 1 [u] rfl
    (by intro j y hy
        cases j with
        | zero => rw [Addr.add_lit]; simp at hy; subst hy; exact hb
        | succ j => simp at hy) (by intro y hy; simp at hy; subst hy; exact hu1) (by unfold maxLen; omega) (by omega) (Nat.zero_le _)
  have hv' : ∃ ao cap, v' = .slice ao (n + 1) cap := by
    rcases h2.2 with ⟨_, h6⟩ | ⟨g, cap, cur, h6, _⟩
    · omega
    · exact ⟨some ⟨g, 0, none⟩, cap, h6⟩
  obtain ⟨ao, cap, rfl⟩ := hv'
  exact ⟨ao, cap, w', fun ty => hrun, h2, h3, h5⟩
/-- F and the blocks from m to below n. -/
def Fw (F : Nat → Prop) (m n : Nat) : Nat → Prop := fun k => F k ∨ (m ≤ k ∧ k < n)
/-- Clone, and then the append. -/
theorem send_facts {w : World} {F : Nat → Prop} {lb : Nat} {v sv : Value} {rs : List Rw2} {id : Int} {s : Lk} {zs : List Int} (h : Lp w F lb v rs id s) (hs : Bs w sv zs) (hy : Byt zs) (hz : zs.length ≤ 4096) (hf : s.L.length < 1000) :
    Calls Tryd.prog 34 #[sv] w.drew fun e w2 => ∃ ar cr ao cap w3, e = .returned (.slice ar zs.length cr) ∧ w2.cell? ⟨lb, 1, none⟩ = some v ∧ lb < w2.heap.size ∧
      Hid (∀ ty, (Builtin.append_ #[33, 33] ty #[v, .slice (some ⟨w2.heap.size, 0, none⟩) 1 1]).run Tryd.prog (w2.alloc (.cells #[.slice ar zs.length cr] 29)) = .ok (.slice ao (rs.length + 1) cap) w3) ∧
      w3.cell? ⟨lb, 1, none⟩ = some v ∧ w3.frozen? ⟨lb, 1, none⟩ = false ∧
      Hid (Lp (w3.setCell ⟨lb, 1, none⟩ (.slice ao (rs.length + 1) cap)) (Fw F w.heap.size w3.heap.size) lb (.slice ao (rs.length + 1) cap) (rs ++ [(.slice ar zs.length cr, zs)]) id (s.put zs) ∧ Gr F w (w3.setCell ⟨lb, 1, none⟩ (.slice ao (rs.length + 1) cap)) ∧ w.heap.size ≤ w3.heap.size) := by
  refine (clone_any sv zs w.drew (hs.below ((Below.refl w.heap.size w).drew) (Nat.le_refl _)) (by omega)).mono ?_
  rintro e w2 ⟨ar, cr, rfl, ho, hB⟩
  have hB : Below w.heap.size w w2 := (Below.refl w.heap.size w).drew.trans hB
  have ho : Ow w2 w.heap.size (.slice ar zs.length cr) zs := ho
  have h2 := h.below hB
  have hlw := h.hi lb h.fl
  obtain ⟨ww, hww⟩ : ∃ ww, ww = w2.alloc (.cells #[.slice ar zs.length cr] 29) := ⟨_, rfl⟩
  have hBa : Below w2.heap.size w2 ww := by rw [hww]; exact (Below.refl _ _).alloc (Nat.le_refl _) _
  have ha := h2.below hBa
  have hsz : ww.heap.size = w2.heap.size + 1 := by rw [hww]; exact World.size_alloc _ _
  obtain ⟨ao, cap, w3, hr, hrow, hg, hat⟩ := row_app ha.row w2.heap.size (.slice ar zs.length cr) rfl (by rw [hww, cell_of_row _ _ _ _ _ _ (heap_alloc_new w2 _)]; rfl) (by have := h.len; omega)
  have hs1 := hB.size
  have hs3 := hg.size
  have hvb : v.ownBlock ≠ some lb := fun e => (h.fv lb e).2 rfl
  have hlb3 : w3.heap[lb]? = ww.heap[lb]? := hg.block lb (by omega) fun e => hvb e.symm
  have q3 : Cw w3 lb (lpC id v s) 77 := ha.q.keep hlb3
  have hsw : (w3.setCell ⟨lb, 1, none⟩ (.slice ao (rs.length + 1) cap)).heap.size = w3.heap.size := by simp [World.setCell]
  have vb : ∀ k, v.ownBlock = some k → k < w.heap.size := fun k hk => h.hi k (h.fv k hk).1
  have vb' : ∀ k, (Value.slice ao (rs.length + 1) cap).ownBlock = some k → v.ownBlock = some k ∨ (w2.heap.size < k + 1 ∧ k < w3.heap.size) := fun k hk => by
    have hlt := (World.ownsRow.lt hrow k hk).2
    rcases hat with e | e
    · exact Or.inl (by rw [← e]; exact hk)
    · rw [e] at hk
      have := Option.some.inj hk
      exact Or.inr ⟨by omega, hlt⟩
  have keep : ∀ k, k < w2.heap.size → k ≠ lb → v.ownBlock ≠ some k → (w3.setCell ⟨lb, 1, none⟩ (.slice ao (rs.length + 1) cap)).heap[k]? = w2.heap[k]? := fun k h1 h2 h3 => by
    rw [Below.heap_setCell _ _ _ _ h2, hg.block k (by omega) fun e => h3 e.symm, hBa.block k h1]
  have hrs : rs.length = s.L.length := h.len
  refine ⟨ar, cr, ao, cap, w3, rfl, h2.cells.2.1, by omega, by rw [hww] at hr; exact hr, q3.cell 1, q3.frozen 1, ⟨?_, ?_, ?_, ?_, ?_, ?_, ?_, h.i, ?_⟩, ?_, by omega⟩
  · exact q3.set 1 _
  · have e1 : slOf (rs ++ [(.slice ar zs.length cr, zs)]) = slOf rs ++ [.slice ar zs.length cr] := by simp [slOf]
    rw [e1, List.length_append]
    exact ownsRow_keep hrow fun k hk _ => Below.heap_setCell _ _ _ _ fun e => by
      rcases vb' k hk with h1 | h1
      · exact (h.fv k h1).2 e
      · have : k = lb := e
        omega
  · rw [bytesOf2_append, h.e]; rfl
  · intro r hr2
    rcases List.mem_append.1 hr2 with hr2 | hr2
    · obtain ⟨b1, b2, b3, b4⟩ := h2.each r hr2
      refine ⟨b1.keep fun k hk hlt => keep k hlt (b4 k hk).2.1 (b4 k hk).2.2, b2, b3, fun k hk => ⟨Or.inl (b4 k hk).1, (b4 k hk).2.1, fun e => ?_⟩⟩
      rcases vb' k e with h1 | h1
      · exact (b4 k hk).2.2 h1
      · have := h.hi k (b4 k hk).1
        omega
    · obtain rfl : r = (.slice ar zs.length cr, zs) := by simpa using hr2
      have hk0 : ∀ k, (Value.slice ar zs.length cr).ownBlock = some k → w.heap.size ≤ k ∧ k < w2.heap.size := fun k hk => World.ownsRow.lt ho k hk
      refine ⟨ho.bs.keep fun k hk hlt => keep k hlt (by have := hk0 k hk; omega) (fun e => by have := vb k e; have := hk0 k hk; omega), hy, hz, fun k hk => ⟨Or.inr ⟨(hk0 k hk).1, by have := (hk0 k hk).2; omega⟩, by have := hk0 k hk; omega, fun e => ?_⟩⟩
      rcases vb' k e with h1 | h1
      · have := vb k h1; have := hk0 k hk; omega
      · have := hk0 k hk; omega
  · exact Or.inl h.fl
  · intro k hk
    rcases vb' k hk with h1 | h1
    · exact ⟨Or.inl (h.fv k h1).1, (h.fv k h1).2⟩
    · exact ⟨Or.inr ⟨by omega, h1.2⟩, by omega⟩
  · intro k hk
    rw [hsw]
    rcases hk with hk | hk
    · have := h.hi k hk; omega
    · exact hk.2
  · refine ⟨h.ok.f, ?_, h.ok.w6, ?_, h.ok.t, h.ok.bf, h.ok.bc, h.ok.bs, h.ok.bv⟩
    · show s.way ≤ (s.L ++ [zs]).length
      have := h.ok.w
      rw [List.length_append]; omega
    · show (s.L ++ [zs]).length ≤ 1000
      rw [List.length_append, List.length_singleton]; omega
  · have g1 : Gr F w ww := Gr.of_below (hB.trans (hBa.mono hB.size)) F fun k hk hb => by omega
    refine (g1.trans (Gr.grownBy hg (F := fun k => v.ownBlock = some k) fun k hk => hk) fun k hk => Or.inl (h.fv k hk).1).trans (Gr.setCell _ _ _ (F := fun k => k = lb) rfl) fun k hk => Or.inl (by rw [hk]; exact h.fl)
section
variable {w : World} {F : Nat → Prop} {lb : Nat} {v sv : Value} {rs : List Rw2} {id : Int} {s : Lk} {zs : List Int}
theorem send_nil (w : World) (sv : Value) : Calls Tryd.prog 14 #[.pointer none, sv] w fun e w' => e = .returned (.tuple #[.slice none 0 0, .int .i64 1]) ∧ w' = w := by
  go_enter Tryd.func14, Tryd.ntmps14
  go_wp2_with fail
  go_ret2
  exact ⟨rfl, rfl⟩
theorem send_long (hs : Bs w sv zs) (hz : 4096 < zs.length) : Calls Tryd.prog 14 #[.pointer (some ⟨lb, 0, none⟩), sv] w fun e w' => e = .returned (.tuple #[.slice none 0 0, .int .i64 5]) ∧ w' = w := by
  obtain ⟨ao, cap, rfl, _⟩ := hs.len
  have hz' : (4096 : Int) < (zs.length : Int) := by omega
  clear hs
  go_enter Tryd.func14, Tryd.ntmps14
  go_wp2_with fail
  go_ret2
  exact ⟨rfl, rfl⟩
set_option maxRecDepth 20000 in
theorem send_full (h : Lp w F lb v rs id s) (hs : Bs w sv zs) (hz : zs.length ≤ 4096) (hf : s.L.length = 1000) : Calls Tryd.prog 14 #[.pointer (some ⟨lb, 0, none⟩), sv] w fun e w' => e = .returned (.tuple #[.slice none 0 0, .int .i64 6]) ∧ w' = w := by
  obtain ⟨ao, cap, rfl, _⟩ := hs.len
  have hz' : ¬ (4096 : Int) < (zs.length : Int) := by omega
  have C := left_any h
  rw [hf] at C
  have C := hid_into C
  clear hs h hf
  go_enter Tryd.func14, Tryd.ntmps14
  go_wp2_with (go_at_call 19; refine C.out.mono ?_; rintro e w1 ⟨rfl, hw⟩; replace hw := hw.symm; subst hw)
  go_ret2
  exact ⟨rfl, rfl⟩
set_option maxHeartbeats 3200000 in
set_option maxRecDepth 20000 in
theorem send_any (h : Lp w F lb v rs id s) (ht : Tab w) (h0 : ¬ F 0) (hs : Bs w sv zs) (hy : Byt zs) (hz : zs.length ≤ 4096) (hf : s.L.length < 1000) (hb : s.sent ≤ 90000000000000) :
    Calls Tryd.prog 14 #[.pointer (some ⟨lb, 0, none⟩), sv] w fun e w' => ∃ ao cap v' rs' n, e = .returned (.tuple #[.slice ao ((s.put zs).outs 16).length cap, .int .i64 0]) ∧ w.heap.size ≤ n ∧ Po w' n id ((s.put zs).outs 16) (.slice ao ((s.put zs).outs 16).length cap) ∧ Lp w' (Fw F w.heap.size n) lb v' rs' id ((s.put zs).goes 16) ∧ Gr F w w' := by
  have CF := hid_into (send_facts h hs hy hz hf)
  have c1 := h.cells.2.1
  have f1 := h.fz 1
  have hl := h.hi lb h.fl
  have HL := hid_into (left_any h)
  have HT : Hid (∀ W, Gr F w W → Tab W) := fun W hg => ht.gr hg h0
  have HC := hid_into h.fl
  have HH : Hid (0 < w.heap.size ∧ s.sent ≤ 90000000000000) := ⟨ht.lt, hb⟩
  have hl' : ¬ (1000 : Int) ≤ (s.L.length : Int) := by omega
  have hz' : ¬ (4096 : Int) < (zs.length : Int) := by omega
  have hrn := h.len
  obtain ⟨ao, cap, hv⟩ : ∃ ao cap, v = .slice ao rs.length cap := by
    rcases h.row.2 with ⟨rfl, h0⟩ | ⟨g, cap, cur, rfl, _⟩
    · exact ⟨none, 0, by rw [h0]⟩
    · exact ⟨_, cap, rfl⟩
  obtain ⟨so, sc, hsv, _⟩ := hs.len
  subst hv hsv
  clear h ht hs hf hz hb hrn
  go_enter Tryd.func14, Tryd.ntmps14
  go_wp2_with (go_at_call 19; refine HL.out.mono ?_; rintro e w1 ⟨rfl, hw⟩; replace hw := hw.symm; subst hw)
  go_region_law (first
    | (refine step_made_row rfl (.tmp 23) rfl ar _ cr (by rfl) ?_)
    | (refine step_append_eq rfl 33 (.tmp 21) (.tmp 24) rfl _ _ _ (by rfl) (by rfl) HR.out ?_)
    | (go_simp; go_wp2_with (go_at_call 34; refine CF.out.mono ?_; rintro e w2 ⟨ar, cr, ao3, cap3, w3, rfl, k2, l2, HR, k3, f3, HF⟩)))
  all_goals
    (have HX := hid_into (lfill_any HF.out.1 (HT.out _ HF.out.2.1) (fun e => by rcases e with e | e; exact h0 e; have := HH.out; omega) HH.out.2)
     have hsz : Hid ((w3.setCell ⟨lb, 1, none⟩ (.slice ao3 (rs.length + 1) cap3)).heap.size = w3.heap.size) := by show _ = _; simp [World.setCell]
     clear HR k2 k3 l2 f3
     go_wp2_with (go_at_call 35; refine HX.out.mono ?_; rintro e w4 ⟨ao4, cap4, rfl, hP, hL, hG⟩)
     go_ret2
     refine ⟨ao4, cap4, _, _, w3.heap.size, rfl, HF.out.2.2, by rw [hsz.out] at hP; exact hP, hL, HF.out.2.1.trans hG fun k hk => Or.inl ?_⟩
     rw [hk]
     exact HC.out)
end
end Go.Proofs.YtahodgmdikaedaaDoor
end

section
/-
  Hear's four steps, put together: accept and confirm whatever the packet; what is kept from step to step.
-/
namespace Go.Proofs.YtahodgmdikaedaaDoor
open Go.RowKit
theorem Oa.lt {w : World} {B ab : Nat} {u : Value} {os : List Rw2} (h : Oa w B ab u os) : ∀ k, (u.ownBlock = some k ∨ ∃ r ∈ os, r.1.ownBlock = some k) → k < w.heap.size := fun k hk => by
  rcases hk with hk | ⟨r, hr, hk⟩
  · exact (World.ownsRow.lt h.o.row k hk).2
  · exact (World.ownsRow.lt (h.o.each r hr).1 k hk).2
theorem Oa.gr2 {G : Nat → Prop} {w w' : World} {B ab T : Nat} {u : Value} {os : List Rw2} (h : Oa w B ab u os) (hT : ∀ k, (u.ownBlock = some k ∨ ∃ r ∈ os, r.1.ownBlock = some k) → k < T) (hg : Gr G w w') (hn : ∀ k, B ≤ k → k ≠ ab → k < T → ¬ G k) : Oa w' B ab u os := by
  refine ⟨⟨ownsRow_keep h.o.row fun k hk hlt => hg.block k hlt (hn k (h.o.from k hk) (fun e => h.u (by rw [hk, e])) (hT k (Or.inl hk))), fun r hr => ?_⟩, h.u, h.r⟩
  obtain ⟨e1, e2, e3, e4⟩ := h.o.each r hr
  exact ⟨e1.keep fun k hk hlt => hg.block k hlt (hn k (World.ownsRow.lt e1 k hk).1 (fun e => h.r r hr (by rw [hk, e])) (hT k (Or.inr ⟨r, hr, hk⟩))), e2, e3, e4⟩
def fnC (lb : Nat) : List Value := [.func (Fn.func 38) #[.pointer (some ⟨lb, 0, none⟩)] #[], .func (Fn.func 39) #[.pointer (some ⟨lb, 0, none⟩)] #[], .func (Fn.func 40) #[.pointer (some ⟨lb, 0, none⟩)] #[], .func (Fn.func 41) #[.pointer (some ⟨lb, 0, none⟩)] #[]]
section
variable {w : World} {F : Nat → Prop} {lb : Nat} {v : Value} {rs : List Rw2} {id : Int} {s : Lk}
/-- Whatever the packet's number. -/
theorem accept_any (h : Lp w F lb v rs id s) (hc : s.came < 100000000000000) (hv : s.vain < 100000000000000) (B : Nat) (hB : B ≤ w.heap.size) (p : Pk) (hp : p.Came) (ao : Option Addr) (cap : Nat) (hr : Ow w B (.slice ao p.row.length cap) p.row)
    (ab : Nat) (ov : Value) (ha : Cw w ab (anC (.slice none 0 0) ov) 84) (hab : ¬ F ab) (hra : (Value.slice ao p.row.length cap).ownBlock ≠ some ab) (hrb : ∀ k, (Value.slice ao p.row.length cap).ownBlock = some k → ¬ F k) :
    Calls Tryd.prog 39 #[.pointer (some ⟨lb, 0, none⟩), .agg (pkC id p.n p.ack (.slice ao p.row.length cap)).toArray, .pointer (some ⟨ab, 0, none⟩)] w fun e w' => e = .returned (.tuple #[]) ∧
      ∃ ao' cap' os, Cw w' ab (anC (.slice ao' os.length cap') ov) 84 ∧ Oa w' B ab (.slice ao' os.length cap') os ∧ bytesOf2 os = s.rows p ∧ Lp w' F lb v rs id (s.come p) ∧ Gr (fun k => k = lb ∨ k = ab) w w' := by
  have hlab : lb ≠ ab := fun e => hab (by rw [← e]; exact h.fl)
  by_cases c1 : p.n = s.came + 1
  · have e1 : s.rows p = [p.row] := if_pos c1
    have e2 : s.come p = { s with came := s.came + 1 } := if_pos c1
    rw [e1, e2, show ((p.n : Nat) : Int) = ((s.came + 1 : Nat) : Int) by rw [c1]]
    refine (accept_yes h id p.ack hc B hB ao cap p.row hr hp.b hp.l ab ov ha hab hra hrb).mono ?_
    rintro e w' ⟨rfl, ao', cap', q1, q2, q3, q4⟩
    exact ⟨rfl, ao', cap', [(.slice ao p.row.length cap, p.row)], q1, q2, rfl, q3, q4⟩
  · have e1 : s.rows p = [] := if_neg c1
    rw [e1]
    by_cases c2 : p.n = 0
    · have e2 : s.come p = s := by unfold Lk.come; rw [if_neg c1, if_neg (by omega)]
      rw [e2, show ((p.n : Nat) : Int) = 0 by rw [c2]; rfl]
      refine (accept_zero id p.ack _ ab _).mono ?_
      rintro e w' ⟨rfl, hB'⟩
      exact ⟨rfl, none, 0, [], ha.below hB' ha.lt, Oa.nil _ _ _, rfl, h.below hB', Gr.of_below hB' _ fun k hk hb => by omega⟩
    · have e2 : s.come p = { s with vain := s.vain + 1 } := by unfold Lk.come; rw [if_neg c1, if_pos (by omega)]
      rw [e2]
      refine (accept_no h id p.ack p.n (by omega) hp.n c1 hv _ ab).mono ?_
      rintro e w' ⟨rfl, q3, q4⟩
      exact ⟨rfl, none, 0, [], q4.cw ha fun e => hlab e.symm, Oa.nil _ _ _, rfl, q3, q4.mono fun k hk => Or.inl hk⟩
/-- Whatever goes out. -/
theorem confirm_any (h : Lp w F lb v rs id s) (ht : Tab w) (h0 : ¬ F 0) (hs : s.sent < 100000000000000) (p : Pk) (rv av : Value) (ab B : Nat) (hBw : B ≤ w.heap.size) (hBa : ab < B) (hBF : ∀ k, F k → k < B) (ps : List Pk) (uo : Option Addr) (uc : Nat) (ha : Cw w ab (anC av (.slice uo ps.length uc)) 84) (hab : ¬ F ab) (hu : Po w B id ps (.slice uo ps.length uc)) :
    Calls Tryd.prog 41 #[.pointer (some ⟨lb, 0, none⟩), .agg (pkC id p.n p.ack rv).toArray, .pointer (some ⟨ab, 0, none⟩)] w fun e w' => e = .returned (.tuple #[]) ∧
      ∃ ao cap, Cw w' ab (anC av (.slice ao (if 0 < p.n ∧ ps = [] then [⟨0, s.came, []⟩] else ps).length cap)) 84 ∧ Po w' B id (if 0 < p.n ∧ ps = [] then [⟨0, s.came, []⟩] else ps) (.slice ao (if 0 < p.n ∧ ps = [] then [⟨0, s.came, []⟩] else ps).length cap) ∧
        Lp w' F lb v rs id (if 0 < p.n ∧ ps = [] then s.sent1 else s) ∧ Gr (fun k => k = lb ∨ k = ab ∨ B ≤ k) w w' := by
  by_cases c : 0 < p.n ∧ ps = []
  · rw [if_pos c, if_pos c]
    obtain ⟨c1, rfl⟩ := c
    obtain ⟨os, ho, he⟩ := hu
    have : os = [] := by
      have := pb_len he
      exact List.eq_nil_of_length_eq_zero this
    subst this
    exact confirm_yes h ht h0 hs id p.ack rv av p.n c1 ab B hBw hBa hBF uo uc ha hab ho
  · rw [if_neg c, if_neg c]
    have c' : p.n = 0 ∨ (0 < p.n ∧ 0 < ps.length) := by
      by_cases c1 : p.n = 0
      · exact Or.inl c1
      · refine Or.inr ⟨by omega, ?_⟩
        cases ps with
        | nil => exact absurd ⟨by omega, rfl⟩ c
        | cons x r => simp
    refine (confirm_no id p.ack rv av p.n ps.length uo uc _ ab ha c').mono ?_
    rintro e w' ⟨rfl, hB'⟩
    obtain ⟨os, ho, he⟩ := hu
    exact ⟨rfl, uo, uc, ha.below hB' ha.lt, ⟨os, ho.below hB', he⟩, h.below hB', Gr.of_below hB' _ fun k hk hb => by omega⟩
/-- What is kept from step to step. -/
structure Hr (w : World) (F : Nat → Prop) (lb : Nat) (id : Int) (p : Pk) (rv : Value) (pb fb ab : Nat) (W : World) (v : Value) (rs : List Rw2) (s : Lk) (av ov : Value) : Prop where
  l : Lp W F lb v rs id s
  k : Cw W pb (pkC id p.n p.ack rv) 80
  f : Cw W fb (fnC lb) 85
  a : Cw W ab (anC av ov) 84
  g : Gr F w W
variable {W W' : World} {p : Pk} {rv av av' ov ov' : Value} {pb fb ab : Nat} {v' : Value} {rs' : List Rw2} {s' : Lk}
theorem Hr.step (h : Hr w F lb id p rv pb fb ab W v rs s av ov) {G : Nat → Prop} (hg : Gr G W W') (hl : Lp W' F lb v' rs' id s') (ha : Cw W' ab (anC av' ov') 84) (hp : ¬ G pb) (hf : ¬ G fb) (hG : ∀ k, G k → F k ∨ w.heap.size ≤ k) : Hr w F lb id p rv pb fb ab W' v' rs' s' av' ov' :=
  ⟨hl, hg.cw h.k hp, hg.cw h.f hf, ha, h.g.trans hg hG⟩
theorem Hr.fns (h : Hr w F lb id p rv pb fb ab W v rs s av ov) : W.cell? ⟨fb, 0, none⟩ = some (.func (Fn.func 38) #[.pointer (some ⟨lb, 0, none⟩)] #[]) ∧ W.cell? ⟨fb, 1, none⟩ = some (.func (Fn.func 39) #[.pointer (some ⟨lb, 0, none⟩)] #[]) ∧ W.cell? ⟨fb, 2, none⟩ = some (.func (Fn.func 40) #[.pointer (some ⟨lb, 0, none⟩)] #[]) ∧ W.cell? ⟨fb, 3, none⟩ = some (.func (Fn.func 41) #[.pointer (some ⟨lb, 0, none⟩)] #[]) :=
  ⟨h.f.cell 0, h.f.cell 1, h.f.cell 2, h.f.cell 3⟩
end
end Go.Proofs.YtahodgmdikaedaaDoor
end

section
/-
  The program's Link: Hear, by contract.
-/
namespace Go.Proofs.YtahodgmdikaedaaDoor
open Go.RowKit
theorem ownsRow_mono {w : World} {B B' : Nat} {t : TypeId} {v : Value} {n : Nat} {us : List Value} (h : w.ownsRow B t 1 v n us) (hb : B' ≤ B) : w.ownsRow B' t 1 v n us := by
  obtain ⟨h1, h2⟩ := h
  refine ⟨h1, ?_⟩
  rcases h2 with h2 | ⟨g, cap, cur, e1, e2, e3⟩
  · exact Or.inl h2
  · exact Or.inr ⟨g, cap, cur, e1, Nat.le_trans hb e2, e3⟩
theorem Osl.mono {w : World} {B B' : Nat} {v : Value} {rs : List Rw2} (h : Osl w B v rs) (hb : B' ≤ B) : Osl w B' v rs :=
  ⟨ownsRow_mono h.row hb, fun r hr => ⟨(h.each r hr).1.mono hb, (h.each r hr).2⟩⟩
theorem Po.mono {w : World} {B B' : Nat} {id : Int} {ps : List Pk} {u : Value} (h : Po w B id ps u) (hb : B' ≤ B) : Po w B' id ps u := by
  obtain ⟨os, h1, h2⟩ := h
  exact ⟨os, h1.mono hb, h2⟩
theorem zero84 : (Tryd.prog.info? 84).bind (·.zero) = some (.agg (anC (.slice none 0 0) (.slice none 0 0)).toArray) := by kernel_rfl
section
variable {w : World} {F : Nat → Prop} {lb : Nat} {v sv : Value} {rs : List Rw2} {id : Int} {s : Lk} {zs : List Int}
theorem hear_nil (w : World) (sv : Value) : Calls Tryd.prog 16 #[.pointer none, sv] w fun e w' => e = .returned (.tuple #[.slice none 0 0, .slice none 0 0]) ∧ w' = w := by
  go_enter Tryd.func16, Tryd.ntmps16
  go_wp2_with fail
  go_ret2
  exact ⟨rfl, rfl⟩
theorem rdP_none {id : Int} {zs : List Int} (h : rdP id zs = none) : ¬ oneB zs ∨ (oneB zs ∧ ¬ (prs (decP zs)).ok) ∨ (oneB zs ∧ (prs (decP zs)).ok ∧ (prs (decP zs)).id ≠ id) := by
  unfold rdP at h
  split at h
  · cases h
  · next c =>
    by_cases c1 : oneB zs
    · by_cases c2 : (prs (decP zs)).ok
      · exact Or.inr (Or.inr ⟨c1, c2, fun c3 => c ⟨c1, c2, c3⟩⟩)
      · exact Or.inr (Or.inl ⟨c1, c2⟩)
    · exact Or.inl c1
/-- What read says of bytes that are no packet of this link. -/
theorem read_none (hb : Bs w sv zs) (hy : Byt zs) (hz : zs.length ≤ 1000000) (ht : Tab w) (hp : rdP id zs = none) :
    Calls Tryd.prog 37 #[sv] w fun e w' => ∃ a n c ao l cap ok, e = .returned (.tuple #[.agg (pkC a n c (.slice ao l cap)).toArray, .bool ok]) ∧ (ok = false ∨ (ok = true ∧ a ≠ id)) ∧ Below w.heap.size w w' := by
  rcases rdP_none hp with h | ⟨h1, h2⟩ | ⟨h1, h2, h3⟩
  · refine (read_no1 hb hy hz ht h).mono ?_
    rintro e w' ⟨rfl, hB⟩
    exact ⟨0, 0, 0, none, 0, 0, false, rfl, Or.inl rfl, hB⟩
  · refine (read_no2 hb hy hz ht h1 h2).mono ?_
    rintro e w' ⟨rfl, hB⟩
    exact ⟨0, 0, 0, none, 0, 0, false, rfl, Or.inl rfl, hB⟩
  · refine (read_yes hb hy hz ht h1 h2).mono ?_
    rintro e w' ⟨ao, cap, rfl, _, hB⟩
    exact ⟨_, _, _, ao, _, cap, true, rfl, Or.inr ⟨rfl, h3⟩, hB⟩
set_option maxHeartbeats 3200000 in
set_option maxRecDepth 20000 in
theorem hear_no (h : Lp w F lb v rs id s) (ht : Tab w) (hb : Bs w sv zs) (hy : Byt zs) (hz : zs.length ≤ 1000000) (hp : rdP id zs = none) (hv : s.vain < 100000000000000) :
    Calls Tryd.prog 16 #[.pointer (some ⟨lb, 0, none⟩), sv] w fun e w' => e = .returned (.tuple #[.slice none 0 0, .slice none 0 0]) ∧ Lp w' F lb v rs id { s with vain := s.vain + 1 } ∧ Gr (fun k => k = lb) w w' := by
  have C1 := hid_into (read_none hb hy hz ht hp)
  have HH := hid_into h
  clear h hb hy hz hp ht
  go_enter Tryd.func16, Tryd.ntmps16
  go_wp2_with fail
  refine C1.out.mono ?_
  rintro e w1 ⟨a, n, c, ao, l, cap, ok, rfl, hok, hB⟩
  go_wp2_with (first
    | (refine wpList_alloc_row rfl 80 rfl zero4 zero80 ?_; intro w2 px hb2 hs2)
    | (refine wpList_store_rw rfl 80 (.tmp 6) (.tmp 16) rfl w1.heap.size zero4 (pkC a n c (.slice ao l cap)) 80 (by rfl) (by rfl) px size80z (len80 _ _ _ _) (pkC_one _ _ _ _ _ _).out ?_; intro w3 px3 O3))
  have B3 : Below w.heap.size w w3 := (hB.trans (hb2.mono hB.size)).trans (O3.below hB.size)
  have h3 := HH.out.below B3
  obtain ⟨c0, _, _, _, _, _, _, c7⟩ := h3.cells
  have f7 := h3.fz 7
  have p0 : w3.cell? ⟨w1.heap.size, 0, none⟩ = some (.int .i64 a) := px3.cell 0
  have H4 : Hid (∀ m, Lp ((w3.drewN m).setCell ⟨lb, 7, none⟩ (.int .i64 ((s.vain : Int) + 1))) F lb v rs id { s with vain := s.vain + 1 } ∧ Gr (fun k => k = lb) w ((w3.drewN m).setCell ⟨lb, 7, none⟩ (.int .i64 ((s.vain : Int) + 1)))) := fun m => by
    have h3' : Lp (w3.drewN m) F lb v rs id s := h3.keep (fun _ _ => rfl) (Nat.le_refl _)
    obtain ⟨h4, g4⟩ := h3'.set 7 (.int .i64 ((s.vain : Int) + 1)) (s' := { s with vain := s.vain + 1 }) rfl rfl ⟨h3.ok.f, h3.ok.w, h3.ok.w6, h3.ok.l, h3.ok.t, h3.ok.bf, h3.ok.bc, h3.ok.bs, hv⟩
    have g3 : Gr (fun k => k = lb) w3 (w3.drewN m) := ⟨rfl, rfl, rfl, Nat.le_refl _, fun _ _ _ => rfl⟩
    exact ⟨h4, ((Gr.of_below B3 (fun k => k = lb) fun k hk hb' => by omega).trans g3 fun k hk => Or.inl hk).trans g4 fun k hk => Or.inl hk⟩
  clear h3 B3 hB hb2 hs2 px px3 O3
  rcases hok with rfl | ⟨rfl, ha⟩
  · go_quiet (fail)
    go_wp2_with fail
    go_ret2
    exact ⟨rfl, H4.out _⟩
  · go_quiet (fail)
    go_wp2_with fail
    go_ret2
    exact ⟨rfl, H4.out _⟩
theorem one84 : Hid (∀ x ∈ anC (.slice none 0 0) (.slice none 0 0), x.oneCell' = true) := by
  intro x hx
  simp only [anC, List.mem_cons, List.not_mem_nil, or_false] at hx
  rcases hx with rfl | rfl <;> rfl
set_option maxHeartbeats 6400000 in
set_option maxRecDepth 20000 in
theorem hear_yes (h : Lp w F lb v rs id s) (ht : Tab w) (h0 : ¬ F 0) (hb : Bs w sv zs) (hy : Byt zs) (hz : zs.length ≤ 1000000) (p : Pk) (hp : rdP id zs = some p) (b1 : s.sent ≤ 80000000000000) (b2 : s.came < 100000000000000) (b3 : s.vain < 100000000000000) (b4 : s.first + s.way ≤ 100000000000000) :
    Calls Tryd.prog 16 #[.pointer (some ⟨lb, 0, none⟩), sv] w fun e w' => ∃ ao cap os bo bc v' rs', e = .returned (.tuple #[.slice ao os.length cap, .slice bo (s.hearO 16 p).length bc]) ∧ Osl w' w.heap.size (.slice ao os.length cap) os ∧ bytesOf2 os = s.rows p ∧ Po w' w.heap.size id (s.hearO 16 p) (.slice bo (s.hearO 16 p).length bc) ∧ Lp w' F lb v' rs' id (s.hearS 16 p) ∧ Gr F w w' := by
  have C1 := hid_into (read_pk hb hy hz ht hp)
  have hpc := rdP_came hy hp
  have HH := hid_into h
  have HT := hid_into ht
  clear h hb hy hz hp ht
  go_enter Tryd.func16, Tryd.ntmps16
  go_wp2_with fail
  refine C1.out.mono ?_
  rintro e w1 ⟨ao, cap, rfl, ho, hB⟩
  go_wp2_with (first
    | (refine wpList_alloc_row rfl 80 rfl zero4 zero80 ?_; intro w2 px hb2 hs2)
    | (refine wpList_store_rw rfl 80 (.tmp 6) (.tmp 16) rfl w1.heap.size zero4 (pkC id p.n p.ack (.slice ao p.row.length cap)) 80 (by rfl) (by rfl) px size80z (len80 _ _ _ _) (pkC_one _ _ _ _ _ _).out ?_; intro w3 px3 O3))
  have B3 : Below w.heap.size w w3 := (hB.trans (hb2.mono hB.size)).trans (O3.below hB.size)
  have h3 := HH.out.below B3
  obtain ⟨c0, _, _, _, _, _, _, c7⟩ := h3.cells
  have f7 := h3.fz 7
  have p0 : w3.cell? ⟨w1.heap.size, 0, none⟩ = some (.int .i64 id) := px3.cell 0
  go_quiet (fail)
  go_wp2_with (first
    | (refine wpList_alloc_row rfl 84 rfl (anC (.slice none 0 0) (.slice none 0 0)) zero84 ?_; intro w4 ax hb4 hs4))
  have hb4 : Below w3.heap.size w3 w4 := ⟨hb4.os, hb4.tape, hb4.output, hb4.size, hb4.block⟩
  have ax : Cw w4 w3.heap.size (anC (.slice none 0 0) (.slice none 0 0)) 84 := ax
  have hpb : w1.heap.size < w3.heap.size := px3.lt
  have hb3 : w.heap.size ≤ w3.heap.size := B3.size
  have hb1 : w.heap.size ≤ w1.heap.size := hB.size
  have B4 : Below w.heap.size w w4 := B3.trans (hb4.mono hb3)
  have hs4' : w4.heap.size = w3.heap.size + 1 := hs4.out
  have B5 : Below w.heap.size w (w4.alloc (.cells #[.func (Fn.func 38) #[.pointer (some ⟨lb, 0, none⟩)] #[], .func (Fn.func 39) #[.pointer (some ⟨lb, 0, none⟩)] #[], .func (Fn.func 40) #[.pointer (some ⟨lb, 0, none⟩)] #[], .func (Fn.func 41) #[.pointer (some ⟨lb, 0, none⟩)] #[]] 85)) := B4.alloc B4.size _
  have HF : ∀ k, F k → k < w.heap.size := HH.out.hi
  have hlw := HF lb HH.out.fl
  have ho3 : Ow w3 w.heap.size (.slice ao p.row.length cap) p.row := ho.keep fun k hk hlt => by
    rw [O3.block k (by omega), hb2.block k hlt]
  have hrvlt : ∀ k, (Value.slice ao p.row.length cap).ownBlock = some k → w.heap.size ≤ k ∧ k < w1.heap.size := fun k hk => World.ownsRow.lt ho k hk
  have ho5 : Ow (w4.alloc (.cells #[.func (Fn.func 38) #[.pointer (some ⟨lb, 0, none⟩)] #[], .func (Fn.func 39) #[.pointer (some ⟨lb, 0, none⟩)] #[], .func (Fn.func 40) #[.pointer (some ⟨lb, 0, none⟩)] #[], .func (Fn.func 41) #[.pointer (some ⟨lb, 0, none⟩)] #[]] 85)) w.heap.size (.slice ao p.row.length cap) p.row := (ho3.keep (w' := w4) fun k hk hlt => hb4.block k hlt).keep fun k hk hlt => Below.heap_alloc _ _ _ hlt
  have K5 : Hr w F lb id p (.slice ao p.row.length cap) w1.heap.size w4.heap.size w3.heap.size (w4.alloc (.cells #[.func (Fn.func 38) #[.pointer (some ⟨lb, 0, none⟩)] #[], .func (Fn.func 39) #[.pointer (some ⟨lb, 0, none⟩)] #[], .func (Fn.func 40) #[.pointer (some ⟨lb, 0, none⟩)] #[], .func (Fn.func 41) #[.pointer (some ⟨lb, 0, none⟩)] #[]] 85)) v rs s (.slice none 0 0) (.slice none 0 0) :=
    ⟨HH.out.below B5, (px3.below hb4 px3.lt).alloc _, Cw.new w4 (fnC lb) 85, ax.alloc _, Gr.of_below B5 F fun k hk hb' => by omega⟩
  have hsz5 : (w4.alloc (.cells #[.func (Fn.func 38) #[.pointer (some ⟨lb, 0, none⟩)] #[], .func (Fn.func 39) #[.pointer (some ⟨lb, 0, none⟩)] #[], .func (Fn.func 40) #[.pointer (some ⟨lb, 0, none⟩)] #[], .func (Fn.func 41) #[.pointer (some ⟨lb, 0, none⟩)] #[]] 85)).heap.size = w4.heap.size + 1 := World.size_alloc _ _
  generalize hpbE : w1.heap.size = pb at *
  generalize habE : w3.heap.size = ab at *
  generalize hfbE : w4.heap.size = fb at *
  clear c0 c7 f7 p0 h3 px3 O3 hb2 hs2 px hB hb4 hs4 ax B4 B5 B3 ho3 ho
  have nF : ∀ k, w.heap.size ≤ k → ¬ F k := fun k hk hf => by have := HF k hf; omega
  have HT5 : ∀ W, Gr F w W → Tab W := fun W hg => HT.out.gr hg h0
  have HE := hid_into (And.intro hpc (And.intro HF (And.intro nF (And.intro HT5 hrvlt))))
  clear hpc HF nF HT5 hrvlt
  have hsent : Hid ((s.hear1 p).sent ≤ 90000000000000) := by
    show _ ≤ _
    have e1 : (s.hear1 p).sent = s.sent := by unfold Lk.hear1 Lk.come; split; rfl; split <;> rfl
    omega
  have hsent2 : Hid (((s.hear1 p).goes 16).sent < 100000000000000) := by
    show _ < _
    have e1 : (s.hear1 p).sent = s.sent := by unfold Lk.hear1 Lk.come; split; rfl; split <;> rfl
    have e2 : ((s.hear1 p).goes 16).sent = (s.hear1 p).sent + ((s.hear1 p).full 16 - (s.hear1 p).way) := rfl
    have e3 : (s.hear1 p).full 16 - (s.hear1 p).way ≤ 16 := by unfold Lk.full; omega
    omega
  obtain ⟨j0, j1, j2, j3⟩ := K5.fns
  generalize w4.alloc (.cells #[.func (Fn.func 38) #[.pointer (some ⟨lb, 0, none⟩)] #[], .func (Fn.func 39) #[.pointer (some ⟨lb, 0, none⟩)] #[], .func (Fn.func 40) #[.pointer (some ⟨lb, 0, none⟩)] #[], .func (Fn.func 41) #[.pointer (some ⟨lb, 0, none⟩)] #[]] 85) = w5 at *
  replace hs4' := hid_into hs4'
  replace hsz5 := hid_into hsz5
  refine wp_loop_rounds 5 ?_
  rw [rounds_succ]
  go_wp2_with (refine wpList_load_rw rfl 80 (.tmp 6) rfl pb (pkC id p.n p.ack (.slice ao p.row.length cap)) 80 _ (by rfl) K5.k Tryd.underlying80 rfl (size80p _ _ _ _) ?_)
  have nlb : ∀ k, w.heap.size ≤ k → k ≠ lb := fun k hk e => by omega
  have nlb := hid_into nlb
  have e7 : (s.own p.ack).came = s.came ∧ (s.own p.ack).vain = s.vain := ⟨rfl, rfl⟩
  have gAB : ∀ W W' : World, ∀ k, k = lb ∨ k = ab → F k ∨ w.heap.size ≤ k := fun _ _ k hk => by
    rcases hk with rfl | rfl
    · exact Or.inl K5.l.fl
    · exact Or.inr hb3
  have gAB := hid_into gAB
  have hfb : Hid (w.heap.size ≤ fb ∧ pb ≠ ab ∧ fb ≠ ab) := by show _ ∧ _; have := hs4'.out; omega
  have hbb : Hid (w.heap.size ≤ pb ∧ w.heap.size ≤ ab ∧ pb < ab) := ⟨hb1, hb3, hpb⟩
  have hra : Hid ((Value.slice ao p.row.length cap).ownBlock ≠ some ab) := fun e => by
    have := (HE.out.2.2.2.2 ab e).2
    omega
  have hW5 : Hid (w.heap.size ≤ w5.heap.size) := by show _ ≤ _; have := hsz5.out; have := hfb.out; omega
  have hba5 := hid_into K5.a.lt
  have ho5 := hid_into ho5
  have hk1 := hid_into b4
  clear hs4' hsz5 hb1 hb3 hpb e7 b4 hpbE habE hfbE hlw
  refine (release_any K5.l id p.n p.ack HE.out.1.a (by have : s.ownN p.ack ≤ s.way := Nat.min_le_left _ _; have := hk1.out; omega) _ _).mono ?_
  rintro e w6 ⟨rfl, v6, rs6, hl6, hg6, hsz6⟩
  have K6 : Hr w F lb id p (.slice ao p.row.length cap) pb fb ab w6 v6 rs6 (s.own p.ack) (.slice none 0 0) (.slice none 0 0) := K5.step hg6 hl6 (hg6.cw K5.a (HE.out.2.2.1 ab hbb.out.2.1)) (HE.out.2.2.1 pb hbb.out.1) (HE.out.2.2.1 fb hfb.out.1) fun k hk => Or.inl hk
  have ho6 : Hid (Ow w6 w.heap.size (.slice ao p.row.length cap) p.row) := ho5.out.keep fun k hk hlt => hg6.block k hlt (HE.out.2.2.1 k (HE.out.2.2.2.2 k hk).1)
  have hW6 : Hid (w.heap.size ≤ w6.heap.size) := Nat.le_trans hW5.out hg6.size
  clear j0 j1 j2 j3 K5 hl6 hg6 hsz6 ho5 hW5 hba5 hk1
  obtain ⟨j0, j1, j2, j3⟩ := K6.fns
  go_wp2_with fail
  rw [rounds_succ]
  go_wp2_with (refine wpList_load_rw rfl 80 (.tmp 6) rfl pb (pkC id p.n p.ack (.slice ao p.row.length cap)) 80 _ (by rfl) K6.k Tryd.underlying80 rfl (size80p _ _ _ _) ?_)
  refine (accept_any K6.l b2 b3 w.heap.size hW6.out p HE.out.1 ao cap ho6.out ab _ K6.a (HE.out.2.2.1 ab hbb.out.2.1) hra.out fun k hk => HE.out.2.2.1 k (HE.out.2.2.2.2 k hk).1).mono ?_
  rintro e w7 ⟨rfl, ao7, cap7, os, ha7, hoa7, hrows, hl7, hg7⟩
  have K7 : Hr w F lb id p (.slice ao p.row.length cap) pb fb ab w7 v6 rs6 (s.hear1 p) (.slice ao7 os.length cap7) (.slice none 0 0) := K6.step hg7 hl7 ha7 (fun e => by rcases e with e | e; exact nlb.out pb hbb.out.1 e; exact hfb.out.2.1 e) (fun e => by rcases e with e | e; exact nlb.out fb hfb.out.1 e; exact hfb.out.2.2 e) (gAB.out w6 w7)
  have hO7 := hid_into hoa7
  have hrows : Hid (bytesOf2 os = s.rows p) := hrows
  clear j0 j1 j2 j3 K6 ha7 hoa7 hl7 hg7 ho6 hW6
  obtain ⟨j0, j1, j2, j3⟩ := K7.fns
  go_wp2_with fail
  rw [rounds_succ]
  go_wp2_with (refine wpList_load_rw rfl 80 (.tmp 6) rfl pb (pkC id p.n p.ack (.slice ao p.row.length cap)) 80 _ (by rfl) K7.k Tryd.underlying80 rfl (size80p _ _ _ _) ?_)
  refine (proceed_any K7.l (HE.out.2.2.2.1 _ K7.g) h0 hsent.out id p.n p.ack _ _ _ ab K7.a (HE.out.2.2.1 ab hbb.out.2.1)).mono ?_
  rintro e w8 ⟨rfl, ao8, cap8, B8, hB8, ha8, hp8, hl8, hg8⟩
  have K8 : Hr w F lb id p (.slice ao p.row.length cap) pb fb ab w8 v6 rs6 ((s.hear1 p).goes 16) (.slice ao7 os.length cap7) (.slice ao8 ((s.hear1 p).outs 16).length cap8) := K7.step hg8 hl8 ha8 (fun e => by rcases e with e | e; exact nlb.out pb hbb.out.1 e; exact hfb.out.2.1 e) (fun e => by rcases e with e | e; exact nlb.out fb hfb.out.1 e; exact hfb.out.2.2 e) (gAB.out w7 w8)
  have hT7 := hid_into hO7.out.lt
  have hO8 := hid_into (hO7.out.gr hg8 fun k hk hka e => by rcases e with e | e; exact nlb.out k hk e; exact hka e)
  have hB8 : Hid (w7.heap.size ≤ B8 ∧ B8 ≤ w8.heap.size ∧ w.heap.size ≤ w7.heap.size ∧ ab < w7.heap.size) := ⟨hB8.1, hB8.2, K7.g.size, K7.a.lt⟩
  have hp8 := hid_into hp8
  clear j0 j1 j2 j3 K7 ha8 hl8 hg8 hO7
  obtain ⟨j0, j1, j2, j3⟩ := K8.fns
  go_wp2_with fail
  rw [rounds_succ]
  go_wp2_with (refine wpList_load_rw rfl 80 (.tmp 6) rfl pb (pkC id p.n p.ack (.slice ao p.row.length cap)) 80 _ (by rfl) K8.k Tryd.underlying80 rfl (size80p _ _ _ _) ?_)
  refine (confirm_any K8.l (HE.out.2.2.2.1 _ K8.g) h0 hsent2.out p _ _ ab B8 hB8.out.2.1 (by have := hB8.out; omega) (fun k hk => by have := HE.out.2.1 k hk; have := hB8.out; omega) ((s.hear1 p).outs 16) ao8 cap8 K8.a (HE.out.2.2.1 ab hbb.out.2.1) hp8.out).mono ?_
  rintro e w9 ⟨rfl, ao9, cap9, ha9, hp9, hl9, hg9⟩
  have hO9 := hid_into (hO8.out.gr2 hT7.out hg9 fun k hk hka hkt e => by
    have := hB8.out
    rcases e with e | e | e
    · exact nlb.out k hk e
    · exact hka e
    · omega)
  have hG9 : Hid (Gr F w w9) := K8.g.trans hg9 fun k hk => by
    have := hB8.out
    rcases hk with hk | hk | hk
    · exact gAB.out w8 w9 k (Or.inl hk)
    · exact gAB.out w8 w9 k (Or.inr hk)
    · exact Or.inr (by omega)
  have hl9 : Hid (Lp w9 F lb v6 rs6 id (s.hearS 16 p)) := hl9
  have hp9 : Hid (Po w9 B8 id (s.hearO 16 p) (.slice ao9 (s.hearO 16 p).length cap9)) := hp9
  have ha9 : Cw w9 ab (anC (.slice ao7 os.length cap7) (.slice ao9 (s.hearO 16 p).length cap9)) 84 := ha9
  obtain ⟨a0, a1⟩ : w9.cell? ⟨ab, 0, none⟩ = some (.slice ao7 os.length cap7) ∧ w9.cell? ⟨ab, 1, none⟩ = some (.slice ao9 (s.hearO 16 p).length cap9) := ⟨ha9.cell 0, ha9.cell 1⟩
  clear j0 j1 j2 j3 ha9 hg9 hp8 hO8
  go_wp2_with fail
  rw [rounds_succ]
  go_wp2_with fail
  go_region_held3 (fun V => V.cell? ⟨ab, 0, none⟩ = some (.slice ao7 os.length cap7) ∧ V.cell? ⟨ab, 1, none⟩ = some (.slice ao9 (s.hearO 16 p).length cap9)) (exact ⟨a0, a1⟩) (fail)
  all_goals
    (go_wp2_with fail
     go_ret2
     refine ⟨ao7, cap7, os, ao9, cap9, v6, rs6, rfl, hO9.out.o.gr (Gr.drew (fun _ => False) w9) (fun _ _ h => h), hrows.out, (hp9.out.mono (by have := hB8.out; omega)).gr (Gr.drew (fun _ => False) w9) (fun _ _ h => h), hl9.out.drew, hG9.out.trans (Gr.drew (fun _ => False) w9) fun k hk => hk.elim⟩)
end
end Go.Proofs.YtahodgmdikaedaaDoor
end
