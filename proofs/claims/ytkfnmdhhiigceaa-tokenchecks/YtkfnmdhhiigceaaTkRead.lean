/-
  read, by contract: sixteen bytes, and of a word's text that word.
-/
import Derived.Test.YtkfnmdhhiigceaaTkStr
import Derived.Test.YtkfnmdhhiigceaaTkHalf
import Derived.Deep.RegionHeld3
namespace Go.Proofs.Ytkfnmdhhiigceaa
open Go.RowKit Dg
/-- What two signs make of a byte. -/
def two (a b : Int) : Int := bits .or .u8 (IntKind.u8.wrap (hv a * 16)) (hv b)
theorem two_bounds (a b : Int) : 0 ≤ two a b ∧ two a b < 256 := by
  have h1 := hv_bounds a
  have h2 := hv_bounds b
  obtain ⟨x, hx⟩ := Int.eq_ofNat_of_zero_le h1.1
  obtain ⟨y, hy⟩ := Int.eq_ofNat_of_zero_le h2.1
  unfold two
  rw [hx, hy, IntKind.wrap_u8', show ((x : Int) * 16) % 256 = ((x * 16 % 256 : Nat) : Int) by omega, u8_or_nat _ _ (by omega) (by omega)]
  have := Nat.or_lt_two_pow (n := 8) (show x * 16 % 256 < 2 ^ 8 by omega) (show y < 2 ^ 8 by omega)
  omega
theorem two_dg {a b : Int} (h1 : 0 ≤ dg a) (h2 : 0 ≤ dg b) : two a b = 16 * dg a + dg b := by
  have l1 := dg_le a
  have l2 := dg_le b
  unfold two hv
  rw [if_pos h1, if_pos h2]
  obtain ⟨x, hx⟩ := Int.eq_ofNat_of_zero_le h1
  obtain ⟨y, hy⟩ := Int.eq_ofNat_of_zero_le h2
  have bx : x < 16 := by omega
  have bY : y < 16 := by omega
  rw [hx, hy, IntKind.wrap_u8', show ((x : Int) * 16) % 256 = ((x * 16 : Nat) : Int) by omega, u8_or_nat _ _ (by omega) (by omega)]
  have : x * 16 ||| y = x * 16 + y := by
    have := Nat.two_pow_add_eq_or_of_lt (i := 4) (b := y) (by omega) x
    rw [show 2 ^ 4 * x = x * 16 by omega] at this
    omega
  rw [this]
  omega
/-- Behind i bytes. -/
def rdT (xs : List Int) (i : Nat) : List Int := (List.range 16).map fun j => if j < i then two (xs.getD (at0 j) 0) (xs.getD (at0 j + 1) 0) else 0
theorem rdT_tk (xs : List Int) (i : Nat) : Tk (rdT xs i) := by
  refine ⟨by simp [rdT], fun z hz => ?_⟩
  simp only [rdT, List.mem_map, List.mem_range] at hz
  obtain ⟨j, _, rfl⟩ := hz
  split
  · exact two_bounds _ _
  · omega
theorem rdT_zero (xs : List Int) : rdT xs 0 = zeroB 16 := by
  simp [rdT, zeroB, List.replicate]
  rfl
theorem rdT_get (xs : List Int) (i j : Nat) (hj : j < 16) : (rdT xs i).getD j 0 = if j < i then two (xs.getD (at0 j) 0) (xs.getD (at0 j + 1) 0) else 0 := by simp [rdT, List.getD, hj]
theorem rdT_set (xs : List Int) {i : Nat} (hi : i < 16) : (rdT xs i).set i (two (xs.getD (at0 i) 0) (xs.getD (at0 i + 1) 0)) = rdT xs (i + 1) := by
  refine ext16 (by rw [List.length_set]; exact (rdT_tk xs i).1) (rdT_tk xs _).1 fun j hj => ?_
  rw [rdT_get _ _ _ hj]
  by_cases h : i = j
  · subst h
    rw [if_pos (by omega)]
    simp [List.getD, (rdT_tk xs i).1, hi]
  · rw [show ((rdT xs i).set i (two (xs.getD (at0 i) 0) (xs.getD (at0 i + 1) 0))).getD j 0 = (rdT xs i).getD j 0 by simp [List.getD, List.getElem?_set_ne h], rdT_get _ _ _ hj]
    by_cases h2 : j < i
    · rw [if_pos h2, if_pos (by omega)]
    · rw [if_neg h2, if_neg (by omega)]
theorem rdT_txt {xs : List Int} (h : isT xs) : rdT xs 16 = unT xs := by
  refine ext16 (rdT_tk xs _).1 (unT_len _) fun j hj => ?_
  obtain ⟨e1, e2, e3, e4, e5⟩ := at0_parts hj
  have m1 := h.2 (at0 j) (by omega)
  have m2 := h.2 (at0 j + 1) e5
  rw [if_neg (by omega)] at m1 m2
  rw [rdT_get _ _ _ hj, unT_get _ _ hj, if_pos hj, two_dg m1 m2]
theorem Try.zero25t : (Try.prog.info? 25).bind (·.zero) = some (.agg (cellsOf (zeroB 16)).toArray) := by kernel_rfl
theorem zero_tk : Tk (zeroB 16) := ⟨zeroB_len 16, fun z hz => by rw [zeroB, List.mem_replicate] at hz; omega⟩
set_option maxRecDepth 20000 in
set_option maxHeartbeats 1600000 in
theorem read_any (xs : List Int) (hby : Byt xs) (hl : xs.length ≤ 1000000000000) (w : World) :
    Calls Try.prog 24 #[.string (strOfNums xs)] w fun e w' => ∃ n : Nat, n ≤ 16 ∧ (n = 16 ∨ ¬ 35 ≤ xs.length) ∧ e = .returned (.agg (cellsOf (rdT xs n)).toArray) ∧ Below w.heap.size w w' := by
  have HX := hid_into hby
  have hat := fun k hk W => str_at hby k hk W
  have hsz : (strOfNums xs).size = xs.length := strOfNums_size xs
  have HZ := hid_into Try.zero25t
  have HI := hs25 zero_tk
  generalize strOfNums xs = S at *
  clear hby
  replace hat := hid_into hat
  replace hsz := hid_into hsz
  go_enter Try.func24, Try.ntmps24
  refine wp_seq (wp_region_lit (wpList_alloc_row rfl 25 rfl (cellsOf (zeroB 16)) HZ.out ?_))
  intro V1 hq1 Q1 QS1
  go_wp2_with (refine wpList_alloc_row rfl 25 rfl (cellsOf (zeroB 16)) HZ.out ?_; intro W1 hc1 B1 HS1)
  obtain ⟨tb, htb⟩ : ∃ tb, tb = V1.heap.size := ⟨_, rfl⟩
  rw [← htb] at hc1
  simp only [← htb]
  have HT : Hid (tb = w.heap.size + 1) := by refine hid_into ?_; rw [htb, QS1.out]
  have hq2 : Cw W1 w.heap.size (cellsOf (zeroB 16)) 25 := hq1.below B1 hq1.lt
  have BB1 : Below w.heap.size w W1 := Q1.trans (B1.mono Q1.size)
  clear hq1 Q1 QS1 B1 HS1 htb
  have hc1' : Cw W1 tb (cellsOf (rdT xs 0)) 25 := by rw [rdT_zero]; exact hc1
  go_loopw [6] (fun iv wx => ∃ k : Nat, k ≤ 16 ∧ iv = .int .i64 k ∧ Cw wx tb (cellsOf (rdT xs k)) 25 ∧ Cw wx w.heap.size (cellsOf (zeroB 16)) 25 ∧ Below w.heap.size w wx) (fun iv _ => 16 - (intOf iv).toNat)
  case atStart => exact ⟨0, Nat.zero_le _, rfl, hc1', hq2, BB1⟩
  case round =>
    clear hc1 hc1' hq2 BB1
    obtain ⟨k, hk, rfl, hc, hq, bel⟩ := hrel
    by_cases hk16 : k < 16
    · have hki : (k : Int) < 16 := by omega
      obtain ⟨q, hq4⟩ : ∃ q, q = k / 4 := ⟨_, rfl⟩
      have q1 : (k : Int) / 4 = (q : Int) := by omega
      have q2 : (k : Int).tdiv 4 = (q : Int) := by rw [Int.tdiv_eq_ediv_of_nonneg (by omega)]; exact q1
      obtain ⟨a, ha⟩ : ∃ a, a = at0 k := ⟨_, rfl⟩
      have a1 : 2 * (k : Int) + (q : Int) = (a : Int) := by rw [ha, hq4]; unfold at0; omega
      have a2 : a ≤ 33 := by rw [ha]; unfold at0; omega
      have q3 : q ≤ 4 := by omega
      replace ha := hid_into ha
      clear hq4
      by_cases hs : a + 2 ≤ xs.length
      · have hs1 : ¬ (S.size : Int) < (a : Int) + 2 := by rw [hsz.out]; omega
        have i1 := fun W => hat.out a (by omega) W
        have i2 : ∀ W, (Instr.index 9 (.string S) (.int .i64 ((a : Int) + 1))).run Try.prog W = .ok (.int .u8 (xs.getD (a + 1) 0)) W := fun W => hat.out (a + 1) (by omega) W
        have w1 : IntKind.i64.wrap ((a : Int) + 1) = (a : Int) + 1 := wrap64_small _ (by omega) (by omega)
        have b1 := HX.out.get a
        have b2 := HX.out.get (a + 1)
        have HSET : Hid ((rdT xs k).set k (two (xs.getD a 0) (xs.getD (a + 1) 0)) = rdT xs (k + 1)) := by refine hid_into ?_; rw [ha.out]; exact rdT_set xs hk16
        have ck := hc.byte k (by rw [(rdT_tk xs k).1]; exact hk16)
        have fk := hc.frozen k
        generalize xs.getD a 0 = x1 at *
        generalize xs.getD (a + 1) 0 = x2 at *
        have C1 := half_any x1 b1.1 b1.2
        have C2 := half_any x2 b2.1 b2.2
        obtain ⟨z, hz⟩ : ∃ z, z = two x1 x2 := ⟨_, rfl⟩
        rw [← hz] at HSET
        have k1 := hv_bounds x1
        have z1 : bits .or .u8 (IntKind.u8.wrap (hv x1 * 16)) (hv x2) = z := hz.symm
        have z2 : bits .or .u8 (hv x1 * 16 % 256) (hv x2) = z := by rw [hz]; unfold two; rw [IntKind.wrap_u8']
        generalize hv x1 = y1 at *
        generalize hv x2 = y2 at *
        generalize (rdT xs k).getD k 0 = old at *
        clear hz b1 b2
        replace C1 := hid_into C1
        replace C2 := hid_into C2
        have hc' : Cw (wr.setCell ⟨tb, k, none⟩ (.int .u8 z)).drew tb (cellsOf (rdT xs (k + 1))) 25 := by have := hc.setB k z; rw [HSET.out] at this; exact this
        have hq' : Cw (wr.setCell ⟨tb, k, none⟩ (.int .u8 z)).drew w.heap.size (cellsOf (zeroB 16)) 25 := (Only.set tb k wr (.int .u8 z)).cw hq (by have := HT.out; omega)
        have bel' : Below w.heap.size w (wr.setCell ⟨tb, k, none⟩ (.int .u8 z)).drew := (bel.trans ((Only.set tb k wr (.int .u8 z)).below (by have := HT.out; omega))).drew
        go_upto_region 7 with fail
        go_region_law (go_simp; go_wp2_with (first
          | (go_at_call 33; refine (C1.out _).mono ?_; rintro e w2 ⟨rfl, rfl⟩)
          | (go_at_call 33; refine (C2.out _).mono ?_; rintro e w2 ⟨rfl, rfl⟩)))
        all_goals (go_wp2_with fail)
        all_goals (exact ⟨⟨k + 1, by omega, by go_num, hc', hq', bel'⟩, by simp [intOf]; omega⟩)
      · have hs1 : (S.size : Int) < (a : Int) + 2 := by rw [hsz.out]; omega
        have ne : ¬ 35 ≤ xs.length := by have := ha.out; unfold at0 at this; omega
        go_wp2_with (first
          | (refine wpList_load_rw rfl 25 (.tmp 3) rfl tb (cellsOf (rdT xs k)) 25 _ rfl hc Try.underlying25 rfl (hs25 (rdT_tk xs k)) ?_)
          | (refine wpList_store_rw rfl 25 (.tmp 2) (.tmp 33) rfl w.heap.size (cellsOf (zeroB 16)) (cellsOf (rdT xs k)) 25 rfl rfl hq HI (hlB (by rw [zeroB_len, (rdT_tk xs k).1])) (cellsOf_one _) ?_; intro WA hcA OA))
        exact ret_row rfl rfl rfl hcA Try.underlying25 rfl (hs25 (rdT_tk xs k)) ⟨k, hk, Or.inr ne, rfl, bel.trans (OA.below (Nat.le_refl _))⟩
    · obtain rfl : k = 16 := by omega
      have hki : ¬ ((16 : Nat) : Int) < 16 := by omega
      go_wp2_with (first
        | (refine wpList_load_rw rfl 25 (.tmp 3) rfl tb (cellsOf (rdT xs 16)) 25 _ rfl hc Try.underlying25 rfl (hs25 (rdT_tk xs 16)) ?_)
        | (refine wpList_store_rw rfl 25 (.tmp 2) (.tmp 33) rfl w.heap.size (cellsOf (zeroB 16)) (cellsOf (rdT xs 16)) 25 rfl rfl hq HI (hlB (by rw [zeroB_len, (rdT_tk xs 16).1])) (cellsOf_one _) ?_; intro WA hcA OA))
      exact ret_row rfl rfl rfl hcA Try.underlying25 rfl (hs25 (rdT_tk xs 16)) ⟨16, hk, Or.inl rfl, rfl, bel.trans (OA.below (Nat.le_refl _))⟩
end Go.Proofs.Ytkfnmdhhiigceaa
