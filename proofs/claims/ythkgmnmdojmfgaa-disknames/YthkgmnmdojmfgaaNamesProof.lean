/-
  PROVED: gauntletlaw3.DiskNames answers true for all rows of bytes and both answers to whether the file is synced, and leaves its arguments as they were.
-/
import Derived.Test.YthkgmnmdojmfgaaRowKit
import Derived.Test.YthkgmnmdojmfgaaNamesWalk
namespace Go.Proofs.Ythkgmnmdojmfgaa.diskNames
open Go.ChangeShapes Go.WideShapes Go.ChangeAt Go.RowKit

set_option maxRecDepth 100000 in
theorem contract (H : Type) (enc : TypeId × Value → H) (W : World) (base : Nat) (args : Array Value) (ds gs : List (DataW H)) (before : List MemPlace)
    (hval : ∀ (j : Nat) t v, Try.f8.params[j]? = some t → args[j]? = some v → Value.okWide Try.prog W .any base t v)
    (hW : DataW.Whole enc Try.prog Try.f8.params.toList Rows.diskNamesSpec.vars false W args.toList ds gs before)
    (hsz : (DataW.weightsEach Try.prog (Try.f8.params.toList ++ (OpenSpec.ofChange Rows.diskNamesSpec).bare.plain.varTypes Try.prog) (ds ++ gs)).all (· ≤ reachBytes) = true) :
    Calls Try.prog 8 args W fun e W' => ∃ v, e = .returned v ∧ Rows.diskNamesSpec.post enc Try.prog Try.f8 false true false false W args v W' := by
  have hW' := hW
  obtain ⟨p, q, hA0, hV, rfl, hfz, hnd⟩ := hW
  have hA : DataW.TrodAll enc Try.prog W 0 (fun _ => true) true Try.f8.params.toList args.toList ds p := hA0
  rw [Try.params8] at hA hval
  obtain ⟨v0, vs0, d0, ds0, p0, q0, hargs, rfl, rfl, h0, r0⟩ := trodAll_cons hA
  obtain ⟨v1, vs1, d1, ds1, p1, q1, rfl, rfl, rfl, h1, r1⟩ := trodAll_cons r0
  obtain ⟨v2, vs2, d2, ds2, p2, q2, rfl, rfl, rfl, h2, r2⟩ := trodAll_cons r1
  obtain ⟨v3, vs3, d3, ds3, p3, q3, rfl, rfl, rfl, h3, r3⟩ := trodAll_cons r2
  obtain ⟨rfl, rfl, rfl⟩ := trodAll_nil r3
  obtain rfl : args = #[v0, v1, v2, v3] := by cases args; simp_all
  obtain ⟨rfl, rfl⟩ := trodVars_none hV
  have hv0 := hval 0 32 v0 rfl rfl
  have hv1 := hval 1 32 v1 rfl rfl
  have hv2 := hval 2 32 v2 rfl rfl
  have hv3 := hval 3 4 v3 rfl rfl
  clear hval
  clear hA0
  have hw : ∀ (j : Nat) (t : TypeId) (d : DataW H), ([32, 32, 32, 4] : List TypeId)[j]? = some t → ([d0, d1, d2, d3] : List (DataW H))[j]? = some d → ∀ x ∈ DataW.weights Try.prog t d, x ≤ reachBytes := by
    intro j t d ht hd x hx
    have h : (DataW.weightsEach Try.prog [32, 32, 32, 4] [d0, d1, d2, d3]).all (fun x => decide (x ≤ reachBytes)) = true := hsz
    have := List.all_eq_true.1 h x (DataW.weights_mem_each ht hd x hx)
    simpa using this
  obtain ⟨a0, len0, cap0, rfl⟩ := okWide_slice Try.underlying32 hv0
  have k0 := h0
  have lt0 : ∀ x ∈ p0, x.block < W.heap.size := by obtain ⟨m, hm⟩ := k0; exact DataW.trod_lt m _ _ _ hm
  have l0 := len_reach h0 (hw 0 32 d0 rfl rfl)
  obtain ⟨zs0, hbs0, hby0⟩ := bs_in h0
  have e0 : zs0.length = len0 := by obtain ⟨_, _, hv, _⟩ := hbs0.len; simp only [Value.slice.injEq] at hv; exact hv.2.1.symm
  obtain ⟨a1, len1, cap1, rfl⟩ := okWide_slice Try.underlying32 hv1
  have k1 := h1
  have lt1 : ∀ x ∈ p1, x.block < W.heap.size := by obtain ⟨m, hm⟩ := k1; exact DataW.trod_lt m _ _ _ hm
  have l1 := len_reach h1 (hw 1 32 d1 rfl rfl)
  obtain ⟨zs1, hbs1, hby1⟩ := bs_in h1
  have e1 : zs1.length = len1 := by obtain ⟨_, _, hv, _⟩ := hbs1.len; simp only [Value.slice.injEq] at hv; exact hv.2.1.symm
  obtain ⟨a2, len2, cap2, rfl⟩ := okWide_slice Try.underlying32 hv2
  have k2 := h2
  have lt2 : ∀ x ∈ p2, x.block < W.heap.size := by obtain ⟨m, hm⟩ := k2; exact DataW.trod_lt m _ _ _ hm
  have l2 := len_reach h2 (hw 2 32 d2 rfl rfl)
  obtain ⟨zs2, hbs2, hby2⟩ := bs_in h2
  have e2 : zs2.length = len2 := by obtain ⟨_, _, hv, _⟩ := hbs2.len; simp only [Value.slice.injEq] at hv; exact hv.2.1.symm
  obtain ⟨b3, rfl, rfl, rfl⟩ := open_bool Try.underlying4 hv3 h3
  refine (names_walk _ _ _ zs0 zs1 zs2 b3 W hbs0 hbs1 hbs2 hby0 hby1 hby2 (by omega) (by omega) (by omega)).mono fun e W' ⟨he, bel⟩ => ?_
  subst he
  exact ⟨_, rfl, _, _, _, [], _, [], hW', trodAll_mk1 (shut_bool Try.underlying4 _), (trodAll_cons_mk (Below.trod laidOut (by kernel_rfl) (of_decide_eq_true (by kernel_rfl)) k0 bel lt0) (trodAll_cons_mk (Below.trod laidOut (by kernel_rfl) (of_decide_eq_true (by kernel_rfl)) k1 bel lt1) (trodAll_cons_mk (Below.trod laidOut (by kernel_rfl) (of_decide_eq_true (by kernel_rfl)) k2 bel lt2) (trodAll_cons_mk (shut_bool Try.underlying4 b3) trodAll_mk0)))), rfl, bel.frame _, fun h => by cases h⟩

theorem laid_met (os : Os) : laidMet Try.prog Rows.diskNamesRow.laid ((World.doorLaid Try.prog 14 os).forCall (fun _ _ => 0) ⟨#[], #[.slice none 0 0, .slice none 0 0, .slice none 0 0, .bool false], []⟩).memory :=
  laidMet_of_run' 8 (by kernel_rfl) (by kernel_rfl)
theorem reads (os : Os) {H : Type} (enc : TypeId × Value → H) : ∃ places, DataW.whole enc Try.prog ((World.doorLaid Try.prog 14 os).forCall (fun _ _ => 0) ⟨#[], #[.slice none 0 0, .slice none 0 0, .slice none 0 0, .bool false], []⟩).memory Try.f8.params.toList Rows.diskNamesSpec.vars false #[Value.slice none 0 0, .slice none 0 0, .slice none 0 0, .bool false].toList 8 = some ([.nil, .nil, .nil, .lit (.bool false)], [], places) :=
  ⟨[], by kernel_rfl⟩

set_option maxRecDepth 100000 in
theorem lifted (os : Os) (started : os.Started) (H : Type) (enc : TypeId × Value → H) (F : Stop.Interp) :
    ReturnsInHanded {} Try.checked os 8 .any ((OpenSpec.ofChange Rows.diskNamesSpec).preRow enc Try.prog Try.f8 Rows.diskNamesRow.domain false Rows.diskNamesRow.laid) (((OpenSpec.ofChange Rows.diskNamesSpec).at F).post enc Try.prog Try.f8 false true false false) := by
  obtain ⟨places, hx⟩ := reads os enc
  refine returnsInHanded_of_row (C := Try.checked) (s := OpenSpec.ofChange Rows.diskNamesSpec) own started (by kernel_rfl) Try.func8
    (witness_row_at (enc := enc) (C := Try.checked) false (World.doorLaid Try.prog 14 os) #[.slice none 0 0, .slice none 0 0, .slice none 0 0, .bool false] rfl (by kernel_rfl) (by kernel_rfl) (by kernel_rfl)
      (OpenSpec.preRow_of_cond 8 hx (by kernel_rfl) (fun k hk => by cases hk) (by kernel_rfl) (laid_met os))) ?_
  intro W base args ds gs before hval hW _ _ hsz _ _ _
  exact contract H enc W base args ds gs before hval hW hsz

theorem said : Rows.DiskNamesSaid :=
  OpenClaim.holds_of_cond 8 Try.f8 rfl rfl rfl rfl rfl rfl rfl ⟨rfl, rfl, rfl, rfl, rfl⟩ rfl rfl rfl rfl rfl (by kernel_rfl) Try.func8 (by kernel_rfl)
    (of_decide_eq_true (by kernel_rfl)) (by unfold Func.isWrapper; first | (rw [if_pos (by decide +kernel)]; kernel_rfl) | (rw [if_neg (by decide +kernel)]; exact ⟨rfl, rfl⟩))
    (fun os started H enc _ F => by rw [OpenClaim.pre_eq_preRow]; exact lifted os started H enc F)
end Go.Proofs.Ythkgmnmdojmfgaa.diskNames
namespace Go.Proofs.Ythkgmnmdojmfgaa
theorem diskNames_holds : Rows.DiskNamesSaid := diskNames.said
#print axioms diskNames_holds
end Go.Proofs.Ythkgmnmdojmfgaa
