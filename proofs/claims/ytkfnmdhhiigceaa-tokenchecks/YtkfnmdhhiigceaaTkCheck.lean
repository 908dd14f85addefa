/-
  Check, by contract; words held against each other.
-/
import Derived.Test.YtkfnmdhhiigceaaTkMake
import Derived.Test.YtkfnmdhhiigceaaTkRText
namespace Go.Proofs.Ytkfnmdhhiigceaa
open Go.RowKit Dg
theorem run_eq16 (ty : TypeId) (hu : Try.prog.underlying ty = some (.array 16 5)) {xs ys : List Int} (hx : Tk xs) (hy : Tk ys) (w : World) :
    (Op.equalIn 10000 ty (.agg (cellsOf xs).toArray) (.agg (cellsOf ys).toArray)).run Try.prog w = .ok (eqB xs ys) w := by
  have hx := hx.1
  have hy := hy.1
  rw [← all_range_eqI xs ys (hx.trans hy.symm), hx, List.range_eq_range']
  show (Op.equalIn (9998 + 2) ty _ _).run Try.prog w = _
  rw [Op.equalIn]
  simp only [Sem.run_bind, run_underlying hu, Result.andThen_ok, sizeOf5, Std.Legacy.Range.forIn_eq_forIn_range', Std.Legacy.Range.size, Nat.sub_zero, Nat.add_sub_cancel, Nat.div_one]
  have hl : ∀ i ∈ List.range' 0 16 1, i < 16 := fun i hi => by simpa using (List.mem_range'_1.1 hi).2
  generalize List.range' 0 16 1 = l at hl ⊢
  induction l with
  | nil => simp
  | cons i l ih =>
    have hi : i < 16 := hl i (by simp)
    have px : (part 5 (cellsOf xs).toArray (i * 1)).run Try.prog w = .ok (.int .u8 (xs.getD i 0)) w := by
      simp [part, isAgg, run_underlying Try.underlying5, cellsOf, List.getD, List.getElem?_eq_getElem (show i < xs.length by omega)]
    have py : (part 5 (cellsOf ys).toArray (i * 1)).run Try.prog w = .ok (.int .u8 (ys.getD i 0)) w := by
      simp [part, isAgg, run_underlying Try.underlying5, cellsOf, List.getD, List.getElem?_eq_getElem (show i < ys.length by omega)]
    have pe : (Op.equalIn (9998 + 1) 5 (.int .u8 (xs.getD i 0)) (.int .u8 (ys.getD i 0))).run Try.prog w = .ok (xs.getD i 0 == ys.getD i 0) w := by
      rw [run_equalIn_int w 9998 5 .u8 .u8 _ _ Try.underlying5]
    simp only [List.forIn_cons, Sem.run_bind, px, py, pe, Result.andThen_ok, List.all_cons]
    cases hb : (xs.getD i 0 == ys.getD i 0)
    · simp
    · simp only [Bool.not_true, Bool.false_eq_true, if_false, Sem.run_pure, Result.andThen_ok, Bool.true_and]
      exact ih fun j hj => hl j (by simp [hj])
set_option maxRecDepth 20000 in
set_option maxHeartbeats 2000000 in
theorem check_eq (vk : Value) (key : List Int) (m p l : Int) (t : List Int) (ht : Tk t) (w : World) (hk : Bs w vk key) (hky : Byt key) (hkn : key.length ≤ 100000) (hm : I64 m) (hp : I64 p) (hl : I64 l) (c : Int) (b : Bool) (hb : eqB t (mkT key m p l) = !b) (hbc : c = if b then 16 else 0) :
    Calls Try.prog 10 #[vk, .int .i64 m, .int .i64 p, .int .i64 l, .agg (cellsOf t).toArray] w fun e w' => e = .returned (.int .i64 c) ∧ Below w.heap.size w w' := by
  have CM := hid_into (fun W (h : Bs W vk key) => make_any vk key m p l W h hky hkn hm hp hl)
  have HIt := hs25 ht
  have heq := fun W => run_eq16 25 Try.underlying25 ht (mkT_tk key m p l) W
  rw [hb] at heq
  clear hb
  have HBC := hid_into hbc
  clear hbc
  generalize mkT key m p l = T at *
  go_enter Try.func10, Try.ntmps10
  refine wp_seq (wp_region_lit ?_)
  refine wpList_box_row rfl 25 (.tmp 4) rfl (cellsOf t) rfl ?_
  intro W1 hc1 B1 HS1
  have hk1 := hk.below B1 (Nat.le_refl _)
  clear hk
  go_wp2_with fail
  refine wp_region_held (S := fun V => Cw V w.heap.size (cellsOf t) 25) (by kernel_rfl) ?_
  change wpAnyH _ _ _ _ _ _ _ _ (World.drew _)
  have SX : Cw W1.drew w.heap.size (cellsOf t) 25 := hc1
  refine wpAnyH_take (i := 0) (v := .agg (cellsOf t).toArray) rfl (by kernel_rfl) (by kernel_rfl) (by kernel_rfl) (fun _ _ _ h => h) (yieldsIf_load_mid (by rfl) 25 (.tmp 9) rfl w.heap.size 0 rfl (cellsOf t) _ (fun _ k => Cw.range k) Try.underlying25 rfl HIt.out) SX ?_
  refine wpAnyH_take (i := 1) (v := vk) rfl (by kernel_rfl) (by kernel_rfl) (by kernel_rfl) (fun _ _ _ h => h) (Or.inl ⟨by rfl, by intro w _; go_simp⟩) SX ?_
  refine wpAnyH_take (i := 2) (v := .int .i64 m) rfl (by kernel_rfl) (by kernel_rfl) (by kernel_rfl) (fun _ _ _ h => h) (Or.inl ⟨by rfl, by intro w _; go_simp⟩) SX ?_
  refine wpAnyH_take (i := 3) (v := .int .i64 p) rfl (by kernel_rfl) (by kernel_rfl) (by kernel_rfl) (fun _ _ _ h => h) (Or.inl ⟨by rfl, by intro w _; go_simp⟩) SX ?_
  refine wpAnyH_take (i := 4) (v := .int .i64 l) rfl (by kernel_rfl) (by kernel_rfl) (by kernel_rfl) (fun _ _ _ h => h) (Or.inl ⟨by rfl, by intro w _; go_simp⟩) SX ?_
  refine wpAnyH_ready (rs := [5]) (by kernel_rfl) (by simp) ?_
  refine AllReadyH.cons rfl (fun KK hK => ?_) AllReadyH.nil
  go_simp
  refine (CM.out _ (by exact hk1)).mono ?_
  rintro e W3 ⟨rfl, B3⟩
  dsimp only
  have B3' : Below W1.heap.size W1 W3 := (Below.refl _ W1).drew.trans B3
  have BB3 := B1.trans (B3'.mono B1.size)
  have hc3 : Cw W3 w.heap.size (cellsOf t) 25 := hc1.below B3' hc1.lt
  refine hK.out _ _ (by exact hc3) (fun _ => ?_)
  clear hK KK SX B3 B3'
  have SX := hc3
  refine wpAnyH_take (i := 6) (v := .bool b) rfl (by kernel_rfl) (by kernel_rfl) (by kernel_rfl) (fun _ _ _ h => h) (Or.inl ⟨by rfl, by intro w _; go_simp⟩) SX ?_
  refine wpAnyH_done (by kernel_rfl) ?_ _
  cases b with
  | true =>
    clear heq
    go_wp2_with fail
    go_ret
    exact ⟨by rw [HBC.out]; rfl, BB3⟩
  | false =>
    clear heq
    go_wp2_with fail
    go_ret
    exact ⟨by rw [HBC.out]; rfl, BB3⟩
/-- Check: whether it is that word. -/
theorem check_any (vk : Value) (key : List Int) (m p l : Int) (t : List Int) (ht : Tk t) (w : World) (hk : Bs w vk key) (hky : Byt key) (hkn : key.length ≤ 100000) (hm : I64 m) (hp : I64 p) (hl : I64 l) :
    Calls Try.prog 10 #[vk, .int .i64 m, .int .i64 p, .int .i64 l, .agg (cellsOf t).toArray] w fun e w' => e = .returned (.int .i64 (if t = mkT key m p l then 0 else 16)) ∧ Below w.heap.size w w' := by
  by_cases h : t = mkT key m p l
  · exact check_eq vk key m p l t ht w hk hky hkn hm hp hl _ false (by rw [eqB_true h]; rfl) (by rw [if_pos h]; rfl)
  · exact check_eq vk key m p l t ht w hk hky hkn hm hp hl _ true (by rw [eqB_false h]; rfl) (by rw [if_neg h]; rfl)
end Go.Proofs.Ytkfnmdhhiigceaa
