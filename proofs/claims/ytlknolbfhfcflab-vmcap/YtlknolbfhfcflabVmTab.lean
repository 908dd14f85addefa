/-
  The table of the instructions' functions (doings), store, each instruction by its number (meth_any), and a run of the program.
-/
import Derived.Test.YtlknolbfhfcflabVmOps
import Derived.Laws.EntriesVeiled
namespace Go.Proofs.Ytlknolbfhfcflab
open Go.RowKit
variable {cv : Value} {i0 i1 fr : Int} {p : Pm} {w w' : World} {g : Nat}
def doR : List Value := [.nilFunc, .func (.func 20) #[] #[], .func (.func 21) #[] #[], .func (.func 22) #[] #[], .func (.func 23) #[] #[], .func (.func 24) #[] #[], .func (.func 25) #[] #[], .func (.func 26) #[] #[], .func (.func 27) #[] #[], .func (.func 28) #[] #[], .func (.func 29) #[] #[], .func (.func 30) #[] #[], .func (.func 31) #[] #[], .func (.func 32) #[] #[], .func (.func 33) #[] #[], .func (.func 34) #[] #[], .func (.func 35) #[] #[], .func (.func 36) #[] #[], .func (.func 37) #[] #[], .func (.func 38) #[] #[], .func (.func 39) #[] #[], .func (.func 40) #[] #[], .func (.func 41) #[] #[]]
def zeroD : List Value := [.nilFunc, .nilFunc, .nilFunc, .nilFunc, .nilFunc, .nilFunc, .nilFunc, .nilFunc, .nilFunc, .nilFunc, .nilFunc, .nilFunc, .nilFunc, .nilFunc, .nilFunc, .nilFunc, .nilFunc, .nilFunc, .nilFunc, .nilFunc, .nilFunc, .nilFunc, .nilFunc]
/-- The function that does an op. -/
def methF : Nat → Nat
  | 1 => 20
  | 2 => 21
  | 3 => 22
  | 4 => 23
  | 5 => 24
  | 6 => 25
  | 7 => 26
  | 8 => 27
  | 9 => 28
  | 10 => 29
  | 11 => 30
  | 12 => 31
  | 13 => 32
  | 14 => 33
  | 15 => 34
  | 16 => 35
  | 17 => 36
  | 18 => 37
  | 19 => 38
  | 20 => 39
  | 21 => 40
  | _ => 41
theorem doR_at : ∀ (n : Nat), 1 ≤ n → n ≤ 22 → doR[n]? = some (.func (.func (methF n)) #[] #[])
  | 1, _, _ => rfl
  | 2, _, _ => rfl
  | 3, _, _ => rfl
  | 4, _, _ => rfl
  | 5, _, _ => rfl
  | 6, _, _ => rfl
  | 7, _, _ => rfl
  | 8, _, _ => rfl
  | 9, _, _ => rfl
  | 10, _, _ => rfl
  | 11, _, _ => rfl
  | 12, _, _ => rfl
  | 13, _, _ => rfl
  | 14, _, _ => rfl
  | 15, _, _ => rfl
  | 16, _, _ => rfl
  | 17, _, _ => rfl
  | 18, _, _ => rfl
  | 19, _, _ => rfl
  | 20, _, _ => rfl
  | 21, _, _ => rfl
  | 22, _, _ => rfl
  | 0, h, _ => absurd h (by omega)
  | n + 23, _, h => absurd h (by omega)
theorem enters_meth (n : Nat) : ∀ args w, (callFunc (methF n) args).run Try.prog w = .ok (.enter (methF n) args) w := by
  unfold methF
  split
  · exact enters_of Try.func20 (by kernel_rfl) rfl
  · exact enters_of Try.func21 (by kernel_rfl) rfl
  · exact enters_of Try.func22 (by kernel_rfl) rfl
  · exact enters_of Try.func23 (by kernel_rfl) rfl
  · exact enters_of Try.func24 (by kernel_rfl) rfl
  · exact enters_of Try.func25 (by kernel_rfl) rfl
  · exact enters_of Try.func26 (by kernel_rfl) rfl
  · exact enters_of Try.func27 (by kernel_rfl) rfl
  · exact enters_of Try.func28 (by kernel_rfl) rfl
  · exact enters_of Try.func29 (by kernel_rfl) rfl
  · exact enters_of Try.func30 (by kernel_rfl) rfl
  · exact enters_of Try.func31 (by kernel_rfl) rfl
  · exact enters_of Try.func32 (by kernel_rfl) rfl
  · exact enters_of Try.func33 (by kernel_rfl) rfl
  · exact enters_of Try.func34 (by kernel_rfl) rfl
  · exact enters_of Try.func35 (by kernel_rfl) rfl
  · exact enters_of Try.func36 (by kernel_rfl) rfl
  · exact enters_of Try.func37 (by kernel_rfl) rfl
  · exact enters_of Try.func38 (by kernel_rfl) rfl
  · exact enters_of Try.func39 (by kernel_rfl) rfl
  · exact enters_of Try.func40 (by kernel_rfl) rfl
  · exact enters_of Try.func41 (by kernel_rfl) rfl
theorem Try.size57 : (Try.prog.info? 57).map (·.size) = some 23 := by kernel_rfl
theorem Try.zero57 : (Try.prog.info? 57).bind (·.zero) = some (.agg zeroD.toArray) := by kernel_rfl
set_option maxRecDepth 100000 in
set_option maxHeartbeats 4000000 in
theorem doings_any (w : World) : Calls Try.prog 17 #[] w fun e w' => e = .returned (.agg doR.toArray) ∧ Below w.heap.size w w' := by
  obtain ⟨cs, hcs⟩ : ∃ cs, cs = doR := ⟨_, rfl⟩
  obtain ⟨os, hos⟩ : ∃ os, os = zeroD := ⟨_, rfl⟩
  rw [← hcs]
  have HI : Hid ((Try.prog.info? 57).map (·.size) = some os.length) := by rw [hos]; exact Try.size57
  have HI2 : Hid ((Try.prog.info? 57).map (·.size) = some cs.length) := by rw [hcs]; exact Try.size57
  have HL : Hid (os.length = cs.length) := by rw [hos, hcs]; exact hid_into rfl
  have HC : Hid (∀ v ∈ cs, v.oneCell' = true) := by rw [hcs]; exact hid_into (by decide)
  have HO : Hid ((Try.prog.info? 57).bind (·.zero) = some (.agg os.toArray)) := by rw [hos]; exact Try.zero57
  have HE : Hid (doR = cs) := hid_into hcs.symm
  clear hcs hos
  go_enter Try.func17, Try.ntmps17
  refine wp_seq (wp_region_lit (wpList_alloc_row rfl 57 rfl os HO.out ?_))
  intro W1 hc1 B1 HS1
  refine wpList_nil ?_
  go_wp2_with (refine wpList_store_rw rfl 57 (.tmp 0) (.tmp 1) rfl w.heap.size os cs 57 rfl (congrArg (fun l : List Value => Value.agg l.toArray) HE.out) hc1 HI HL HC.out ?_; intro W2 hc2 O2)
  exact ret_row rfl rfl rfl hc2 Try.underlying57 rfl HI2 ⟨rfl, B1.trans (O2.below (Nat.le_refl _))⟩
set_option maxHeartbeats 1000000 in
theorem storeI_any (k : Nat) (hk : k < 16) (h : Mw w g cv i0 i1 fr p) :
    Calls Try.prog 22 #[.pointer (some ⟨g, 0, none⟩), .int .i64 (k : Int)] w fun e w' => e = .returned (.tuple #[]) ∧ Mw w' g cv i0 i1 fr { p.take with cells := p.cells.set k p.top } ∧ Gg g w w' := by
  have H := hid_into (h.keep (w' := w.drew) rfl)
  have HT := hid_into h.wf.top
  have HC : Hid (p.take.cells = p.cells) := by show _ = _; unfold Pm.take; split <;> rfl
  clear h
  go_enter Try.func22, Try.ntmps22
  go_wp2_with fail
  go_region_with (go_at_call 45; refine (take_any H.out).mono ?_; rintro e w1 ⟨rfl, H1, O1⟩; have c1 := H1.cell k hk; have f1 := H1.row.frozen (4 + k); have H2 := hid_into (H1.setCell k hk _ HT.out); clear H1)
  go_wp2_with fail
  go_end0
  rw [HC.out] at H2
  exact ⟨rfl, H2.out, ⟨O1.os, O1.tape, O1.output, by rw [World.size_setCell, O1.size]; exact Nat.le_refl _, fun j _ hj => (Below.heap_setCell _ _ _ _ hj).trans (O1.block j hj)⟩⟩
/-- Each instruction, by its number. -/
theorem meth_any (x : Ii) (ao : Option Addr) (n cap : Nat) (hx : mayI x n = true) (hn : n ≤ 256) (hi : Ins3 fr i0 i1) (k : Nat) (hk : x.1 = k) (h : Mw w g (.slice ao n cap) i0 i1 fr p) :
    Calls Try.prog (methF k) #[.pointer (some ⟨g, 0, none⟩), .int .i64 x.2] w fun e w' => e = .returned (.tuple #[]) ∧ Mw w' g (.slice ao n cap) i0 i1 fr (opP fr i0 i1 n x p) ∧ Gg g w w' := by
  obtain ⟨o, a⟩ := x
  simp only at hk
  subst hk
  have h1 := mayI_op hx
  have h32 := mayI_arg hx (by omega)
  simp only at h1 h32
  have k1 : 1 ≤ k := by omega
  have k2 : k ≤ 22 := by omega
  match k, k1, k2, hx with
  | 1, _, _, _ => exact push_any a h32 h
  | 2, _, _, hx =>
    have h2 : decide (0 ≤ a ∧ a < 16) = true := hx
    simp only [decide_eq_true_eq] at h2
    obtain ⟨j, rfl⟩ := Int.eq_ofNat_of_zero_le h2.1
    exact load_any j (by omega) h
  | 3, _, _, hx =>
    have h2 : decide (0 ≤ a ∧ a < 16) = true := hx
    simp only [decide_eq_true_eq] at h2
    obtain ⟨j, rfl⟩ := Int.eq_ofNat_of_zero_le h2.1
    exact storeI_any j (by omega) h
  | 4, _, _, _ => exact addI_any a h
  | 5, _, _, _ => exact subI_any a h
  | 6, _, _, _ => exact mulI_any a h
  | 7, _, _, _ => exact divI_any a h
  | 8, _, _, _ => exact minI_any a h
  | 9, _, _, _ => exact maxI_any a h
  | 10, _, _, _ => exact lessI_any a h
  | 11, _, _, _ => exact sameI_any a h
  | 12, _, _, _ => exact notI_any a h
  | 13, _, _, _ => exact dup_any a h
  | 14, _, _, _ => exact swap_any a h
  | 15, _, _, _ => exact drop_any a h
  | 16, _, _, hx =>
    have h2 : decide (a = 0 ∨ a = 1) = true := hx
    simp only [decide_eq_true_eq] at h2
    rcases h2 with rfl | rfl
    · exact input0_any hi h
    · exact input1_any hi h
  | 17, _, _, _ => exact frame_any hi a h
  | 18, _, _, _ => exact jump_any a h
  | 19, _, _, _ => exact zero_any a h
  | 20, _, _, _ => exact win_any a ao n cap h
  | 21, _, _, _ => exact rand_any a h
  | 22, _, _, _ => exact halt_any a ao n cap h
  | 0, h, _, _ => exact absurd h (by omega)
  | k + 23, _, h, _ => exact absurd h (by omega)
end Go.Proofs.Ytlknolbfhfcflab
