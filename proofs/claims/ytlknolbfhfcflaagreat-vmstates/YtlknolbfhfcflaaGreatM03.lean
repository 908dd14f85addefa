/-
  Joined from: Reckon.
-/
import Derived.Test.YtlknolbfhfcflaaGreatM02
import Derived.LoopN
section
/-
  The table of the four ways to reckon, and what reckon makes of each: Add, Sub, Mul, Div, and the document's.
-/
namespace Go.Proofs.YtlknolbfhfcflaaGreat
open Go.RowKit
theorem Tryz.size138 : (Tryz.prog.info? 138).map (·.size) = some 8 := by kernel_rfl
theorem Tryz.size137 : (Tryz.prog.info? 137).map (·.size) = some 2 := by kernel_rfl
def zeroR : List Value := [.string ⟨#[]⟩, .nilFunc, .string ⟨#[]⟩, .nilFunc, .string ⟨#[]⟩, .nilFunc, .string ⟨#[]⟩, .nilFunc]
def rowsR : List Value := [.string ⟨#[97, 100, 100]⟩, .func (.func 115) #[] #[], .string ⟨#[115, 117, 98]⟩, .func (.func 116) #[] #[], .string ⟨#[109, 117, 108]⟩, .func (.func 117) #[] #[], .string ⟨#[100, 105, 118]⟩, .func (.func 118) #[] #[]]
theorem Tryz.zero138 : (Tryz.prog.info? 138).bind (·.zero) = some (.agg zeroR.toArray) := by kernel_rfl
abbrev rowsV : Value := .agg #[.string ⟨#[97, 100, 100]⟩, .func (.func 115) #[] #[], .string ⟨#[115, 117, 98]⟩, .func (.func 116) #[] #[], .string ⟨#[109, 117, 108]⟩, .func (.func 117) #[] #[], .string ⟨#[100, 105, 118]⟩, .func (.func 118) #[] #[]]
theorem rows_any (w : World) : Calls Tryz.prog 113 #[] w fun e w' => e = .returned rowsV ∧ Below w.heap.size w w' := by
  obtain ⟨cs, hcs⟩ : ∃ cs, cs = rowsR := ⟨_, rfl⟩
  obtain ⟨os, hos⟩ : ∃ os, os = zeroR := ⟨_, rfl⟩
  show Calls Tryz.prog 113 #[] w fun e w' => e = .returned (.agg rowsR.toArray) ∧ Below w.heap.size w w'
  rw [← hcs]
  have HI : Hid ((Tryz.prog.info? 138).map (·.size) = some os.length) := by rw [hos]; exact Tryz.size138
  have HI2 : Hid ((Tryz.prog.info? 138).map (·.size) = some cs.length) := by rw [hcs]; exact Tryz.size138
  have HL : Hid (os.length = cs.length) := by rw [hos, hcs]; exact hid_into rfl
  have HC : Hid (∀ v ∈ cs, v.oneCell' = true) := by rw [hcs]; exact hid_into (by decide)
  have HO : Hid ((Tryz.prog.info? 138).bind (·.zero) = some (.agg os.toArray)) := by rw [hos]; exact Tryz.zero138
  have HE : Hid (rowsR = cs) := hid_into hcs.symm
  clear hcs hos
  go_enter Tryz.func113, Tryz.ntmps113
  refine wp_seq (wp_region_lit (wpList_alloc_row rfl 138 rfl os HO.out ?_))
  intro W1 hc1 B1 HS1
  refine wpList_nil ?_
  go_wp2_with (refine wpList_store_rw rfl 138 (.tmp 0) (.tmp 5) rfl w.heap.size os cs 138 rfl (congrArg (fun l : List Value => Value.agg l.toArray) HE.out) hc1 HI HL HC.out ?_; intro W2 hc2 O2)
  exact ret_row rfl rfl rfl hc2 Tryz.underlying138 rfl HI2 ⟨rfl, B1.trans (O2.below (Nat.le_refl _))⟩

theorem index0 (w : World) : (Instr.index 138 rowsV (.int .i64 0)).run Tryz.prog w = .ok (.agg #[.string ⟨#[97, 100, 100]⟩, .func (.func 115) #[] #[]]) w := by
  simp [Instr.index, run_underlying Tryz.underlying138, asIntOf, go_sem]
theorem index1 (w : World) : (Instr.index 138 rowsV (.int .i64 1)).run Tryz.prog w = .ok (.agg #[.string ⟨#[115, 117, 98]⟩, .func (.func 116) #[] #[]]) w := by
  simp [Instr.index, run_underlying Tryz.underlying138, asIntOf, go_sem]
theorem index2 (w : World) : (Instr.index 138 rowsV (.int .i64 2)).run Tryz.prog w = .ok (.agg #[.string ⟨#[109, 117, 108]⟩, .func (.func 117) #[] #[]]) w := by
  simp [Instr.index, run_underlying Tryz.underlying138, asIntOf, go_sem]
theorem index3 (w : World) : (Instr.index 138 rowsV (.int .i64 3)).run Tryz.prog w = .ok (.agg #[.string ⟨#[100, 105, 118]⟩, .func (.func 118) #[] #[]]) w := by
  simp [Instr.index, run_underlying Tryz.underlying138, asIntOf, go_sem]
set_option maxHeartbeats 1000000 in
theorem reckon_add (a b : Int) (ha : In32 a) (hb : In32 b) (w : World) : Calls Tryz.prog 111 #[.string ⟨#[97, 100, 100]⟩, .int .i32 a, .int .i32 b] w fun e w' => e = .returned (.int .i32 (heldI (a + b))) ∧ Below w.heap.size w w' := by
  have h1 := ha.1; have h2 := ha.2; have h3 := hb.1; have h4 := hb.2
  have c1 : wrap64 a = a := by unfold wrap64; omega
  have c2 : wrap64 b = b := by unfold wrap64; omega
  have i0 := index0
  go_enter Tryz.func111, Tryz.ntmps111
  go_wp2_with (go_at_call 113; refine (rows_any _).mono ?_; rintro e w1 ⟨rfl, B1⟩; have S1 := B1.size)
  refine wp_loop_rounds 2 ?_
  rw [rounds_succ]
  go_wp2_with (first
    | (refine wpList_store_rw rfl 137 (.tmp 8) (.tmp 12) rfl _ _ [.string ⟨#[97, 100, 100]⟩, .func (.func 115) #[] #[]] 137 rfl rfl (Cw.new _ [.string ⟨#[]⟩, .nilFunc] 137) (hid_into Tryz.size137) (hid_into rfl) (by simp [Value.oneCell']) ?_; intro V0 hc0 O0; have k0 := hc0.cell 0; have l0 := hc0.cell 1; simp only [List.getElem?_cons_zero, List.getElem?_cons_succ] at k0 l0; have E0 := (B1.alloc B1.size (.cells #[.string ⟨#[]⟩, .nilFunc] 137)).trans (O0.below B1.size))
    | (go_at_call 115; refine (sum_any _ _ ha hb _).mono ?_; rintro e w' ⟨rfl, rfl⟩)
    | (go_at_call 114; refine (hold_any _ _).mono ?_; rintro e w' ⟨rfl, rfl⟩))
  go_ret
  exact ⟨by rfl, E0⟩
set_option maxHeartbeats 1000000 in
theorem reckon_sub (a b : Int) (ha : In32 a) (hb : In32 b) (w : World) : Calls Tryz.prog 111 #[.string ⟨#[115, 117, 98]⟩, .int .i32 a, .int .i32 b] w fun e w' => e = .returned (.int .i32 (heldI (a - b))) ∧ Below w.heap.size w w' := by
  have h1 := ha.1; have h2 := ha.2; have h3 := hb.1; have h4 := hb.2
  have c1 : wrap64 a = a := by unfold wrap64; omega
  have c2 : wrap64 b = b := by unfold wrap64; omega
  have i0 := index0
  have i1 := index1
  go_enter Tryz.func111, Tryz.ntmps111
  go_wp2_with (go_at_call 113; refine (rows_any _).mono ?_; rintro e w1 ⟨rfl, B1⟩; have S1 := B1.size)
  refine wp_loop_rounds 3 ?_
  rw [rounds_succ]
  go_wp2_with (first
    | (refine wpList_store_rw rfl 137 (.tmp 8) (.tmp 12) rfl _ _ [.string ⟨#[97, 100, 100]⟩, .func (.func 115) #[] #[]] 137 rfl rfl (Cw.new _ [.string ⟨#[]⟩, .nilFunc] 137) (hid_into Tryz.size137) (hid_into rfl) (by simp [Value.oneCell']) ?_; intro V0 hc0 O0; have k0 := hc0.cell 0; have l0 := hc0.cell 1; simp only [List.getElem?_cons_zero, List.getElem?_cons_succ] at k0 l0; have E0 := (B1.alloc B1.size (.cells #[.string ⟨#[]⟩, .nilFunc] 137)).trans (O0.below B1.size)))
  rw [rounds_succ]
  go_wp2_with (first
    | (refine wpList_store_rw rfl 137 (.tmp 8) (.tmp 12) rfl _ _ [.string ⟨#[115, 117, 98]⟩, .func (.func 116) #[] #[]] 137 rfl rfl (Cw.new _ [.string ⟨#[]⟩, .nilFunc] 137) (hid_into Tryz.size137) (hid_into rfl) (by simp [Value.oneCell']) ?_; intro V1 hc1 O1; have k1 := hc1.cell 0; have l1 := hc1.cell 1; simp only [List.getElem?_cons_zero, List.getElem?_cons_succ] at k1 l1; have E1 := (E0.alloc E0.size (.cells #[.string ⟨#[]⟩, .nilFunc] 137)).trans (O1.below E0.size))
    | (go_at_call 116; refine (difference_any _ _ ha hb _).mono ?_; rintro e w' ⟨rfl, rfl⟩)
    | (go_at_call 114; refine (hold_any _ _).mono ?_; rintro e w' ⟨rfl, rfl⟩))
  go_ret
  exact ⟨by rfl, E1⟩
set_option maxHeartbeats 1000000 in
theorem reckon_mul (a b : Int) (ha : In32 a) (hb : In32 b) (w : World) : Calls Tryz.prog 111 #[.string ⟨#[109, 117, 108]⟩, .int .i32 a, .int .i32 b] w fun e w' => e = .returned (.int .i32 (heldI (a * b / 65536))) ∧ Below w.heap.size w w' := by
  have h1 := ha.1; have h2 := ha.2; have h3 := hb.1; have h4 := hb.2
  have c1 : wrap64 a = a := by unfold wrap64; omega
  have c2 : wrap64 b = b := by unfold wrap64; omega
  have i0 := index0
  have i1 := index1
  have i2 := index2
  go_enter Tryz.func111, Tryz.ntmps111
  go_wp2_with (go_at_call 113; refine (rows_any _).mono ?_; rintro e w1 ⟨rfl, B1⟩; have S1 := B1.size)
  refine wp_loop_rounds 4 ?_
  rw [rounds_succ]
  go_wp2_with (first
    | (refine wpList_store_rw rfl 137 (.tmp 8) (.tmp 12) rfl _ _ [.string ⟨#[97, 100, 100]⟩, .func (.func 115) #[] #[]] 137 rfl rfl (Cw.new _ [.string ⟨#[]⟩, .nilFunc] 137) (hid_into Tryz.size137) (hid_into rfl) (by simp [Value.oneCell']) ?_; intro V0 hc0 O0; have k0 := hc0.cell 0; have l0 := hc0.cell 1; simp only [List.getElem?_cons_zero, List.getElem?_cons_succ] at k0 l0; have E0 := (B1.alloc B1.size (.cells #[.string ⟨#[]⟩, .nilFunc] 137)).trans (O0.below B1.size)))
  rw [rounds_succ]
  go_wp2_with (first
    | (refine wpList_store_rw rfl 137 (.tmp 8) (.tmp 12) rfl _ _ [.string ⟨#[115, 117, 98]⟩, .func (.func 116) #[] #[]] 137 rfl rfl (Cw.new _ [.string ⟨#[]⟩, .nilFunc] 137) (hid_into Tryz.size137) (hid_into rfl) (by simp [Value.oneCell']) ?_; intro V1 hc1 O1; have k1 := hc1.cell 0; have l1 := hc1.cell 1; simp only [List.getElem?_cons_zero, List.getElem?_cons_succ] at k1 l1; have E1 := (E0.alloc E0.size (.cells #[.string ⟨#[]⟩, .nilFunc] 137)).trans (O1.below E0.size)))
  rw [rounds_succ]
  go_wp2_with (first
    | (refine wpList_store_rw rfl 137 (.tmp 8) (.tmp 12) rfl _ _ [.string ⟨#[109, 117, 108]⟩, .func (.func 117) #[] #[]] 137 rfl rfl (Cw.new _ [.string ⟨#[]⟩, .nilFunc] 137) (hid_into Tryz.size137) (hid_into rfl) (by simp [Value.oneCell']) ?_; intro V2 hc2 O2; have k2 := hc2.cell 0; have l2 := hc2.cell 1; simp only [List.getElem?_cons_zero, List.getElem?_cons_succ] at k2 l2; have E2 := (E1.alloc E1.size (.cells #[.string ⟨#[]⟩, .nilFunc] 137)).trans (O2.below E1.size))
    | (go_at_call 117; refine (product_any _ _ ha hb _).mono ?_; rintro e w' ⟨rfl, rfl⟩)
    | (go_at_call 114; refine (hold_any _ _).mono ?_; rintro e w' ⟨rfl, rfl⟩))
  go_ret
  exact ⟨by rfl, E2⟩
set_option maxHeartbeats 1000000 in
theorem reckon_div (a b : Int) (ha : In32 a) (hb : In32 b) (w : World) : Calls Tryz.prog 111 #[.string ⟨#[100, 105, 118]⟩, .int .i32 a, .int .i32 b] w fun e w' => e = .returned (.int .i32 (heldI (quoI a b))) ∧ Below w.heap.size w w' := by
  have h1 := ha.1; have h2 := ha.2; have h3 := hb.1; have h4 := hb.2
  have c1 : wrap64 a = a := by unfold wrap64; omega
  have c2 : wrap64 b = b := by unfold wrap64; omega
  have i0 := index0
  have i1 := index1
  have i2 := index2
  have i3 := index3
  go_enter Tryz.func111, Tryz.ntmps111
  go_wp2_with (go_at_call 113; refine (rows_any _).mono ?_; rintro e w1 ⟨rfl, B1⟩; have S1 := B1.size)
  refine wp_loop_rounds 5 ?_
  rw [rounds_succ]
  go_wp2_with (first
    | (refine wpList_store_rw rfl 137 (.tmp 8) (.tmp 12) rfl _ _ [.string ⟨#[97, 100, 100]⟩, .func (.func 115) #[] #[]] 137 rfl rfl (Cw.new _ [.string ⟨#[]⟩, .nilFunc] 137) (hid_into Tryz.size137) (hid_into rfl) (by simp [Value.oneCell']) ?_; intro V0 hc0 O0; have k0 := hc0.cell 0; have l0 := hc0.cell 1; simp only [List.getElem?_cons_zero, List.getElem?_cons_succ] at k0 l0; have E0 := (B1.alloc B1.size (.cells #[.string ⟨#[]⟩, .nilFunc] 137)).trans (O0.below B1.size)))
  rw [rounds_succ]
  go_wp2_with (first
    | (refine wpList_store_rw rfl 137 (.tmp 8) (.tmp 12) rfl _ _ [.string ⟨#[115, 117, 98]⟩, .func (.func 116) #[] #[]] 137 rfl rfl (Cw.new _ [.string ⟨#[]⟩, .nilFunc] 137) (hid_into Tryz.size137) (hid_into rfl) (by simp [Value.oneCell']) ?_; intro V1 hc1 O1; have k1 := hc1.cell 0; have l1 := hc1.cell 1; simp only [List.getElem?_cons_zero, List.getElem?_cons_succ] at k1 l1; have E1 := (E0.alloc E0.size (.cells #[.string ⟨#[]⟩, .nilFunc] 137)).trans (O1.below E0.size)))
  rw [rounds_succ]
  go_wp2_with (first
    | (refine wpList_store_rw rfl 137 (.tmp 8) (.tmp 12) rfl _ _ [.string ⟨#[109, 117, 108]⟩, .func (.func 117) #[] #[]] 137 rfl rfl (Cw.new _ [.string ⟨#[]⟩, .nilFunc] 137) (hid_into Tryz.size137) (hid_into rfl) (by simp [Value.oneCell']) ?_; intro V2 hc2 O2; have k2 := hc2.cell 0; have l2 := hc2.cell 1; simp only [List.getElem?_cons_zero, List.getElem?_cons_succ] at k2 l2; have E2 := (E1.alloc E1.size (.cells #[.string ⟨#[]⟩, .nilFunc] 137)).trans (O2.below E1.size)))
  rw [rounds_succ]
  go_wp2_with (first
    | (refine wpList_store_rw rfl 137 (.tmp 8) (.tmp 12) rfl _ _ [.string ⟨#[100, 105, 118]⟩, .func (.func 118) #[] #[]] 137 rfl rfl (Cw.new _ [.string ⟨#[]⟩, .nilFunc] 137) (hid_into Tryz.size137) (hid_into rfl) (by simp [Value.oneCell']) ?_; intro V3 hc3 O3; have k3 := hc3.cell 0; have l3 := hc3.cell 1; simp only [List.getElem?_cons_zero, List.getElem?_cons_succ] at k3 l3; have E3 := (E2.alloc E2.size (.cells #[.string ⟨#[]⟩, .nilFunc] 137)).trans (O3.below E2.size))
    | (go_at_call 118; refine (quotient_any _ _ ha _).mono ?_; rintro e w' ⟨rfl, rfl⟩)
    | (go_at_call 114; refine (hold_any _ _).mono ?_; rintro e w' ⟨rfl, rfl⟩))
  go_ret
  exact ⟨by rfl, E3⟩
theorem Add_any (a b : Int) (ha : In32 a) (hb : In32 b) (w : World) : Calls Tryz.prog 96 #[.int .i32 a, .int .i32 b] w fun e w' => e = .returned (.int .i32 (heldI (a + b))) ∧ Below w.heap.size w w' := by
  go_enter Tryz.func96, Tryz.ntmps96
  go_wp2_with (go_at_call 111; refine (reckon_add _ _ ha hb _).mono ?_; rintro e w1 ⟨rfl, B1⟩)
  go_ret
  exact ⟨by rfl, B1⟩
theorem Sub_any (a b : Int) (ha : In32 a) (hb : In32 b) (w : World) : Calls Tryz.prog 97 #[.int .i32 a, .int .i32 b] w fun e w' => e = .returned (.int .i32 (heldI (a - b))) ∧ Below w.heap.size w w' := by
  go_enter Tryz.func97, Tryz.ntmps97
  go_wp2_with (go_at_call 111; refine (reckon_sub _ _ ha hb _).mono ?_; rintro e w1 ⟨rfl, B1⟩)
  go_ret
  exact ⟨by rfl, B1⟩
theorem Mul_any (a b : Int) (ha : In32 a) (hb : In32 b) (w : World) : Calls Tryz.prog 98 #[.int .i32 a, .int .i32 b] w fun e w' => e = .returned (.int .i32 (heldI (a * b / 65536))) ∧ Below w.heap.size w w' := by
  go_enter Tryz.func98, Tryz.ntmps98
  go_wp2_with (go_at_call 111; refine (reckon_mul _ _ ha hb _).mono ?_; rintro e w1 ⟨rfl, B1⟩)
  go_ret
  exact ⟨by rfl, B1⟩
theorem Div_any (a b : Int) (ha : In32 a) (hb : In32 b) (w : World) : Calls Tryz.prog 99 #[.int .i32 a, .int .i32 b] w fun e w' => e = .returned (.int .i32 (heldI (quoI a b))) ∧ Below w.heap.size w w' := by
  go_enter Tryz.func99, Tryz.ntmps99
  go_wp2_with (go_at_call 111; refine (reckon_div _ _ ha hb _).mono ?_; rintro e w1 ⟨rfl, B1⟩)
  go_ret
  exact ⟨by rfl, B1⟩
end Go.Proofs.YtlknolbfhfcflaaGreat
end
