/-
  The table of the instructions' functions (doings), store, each instruction by its number (meth_any), and a run of the program.
-/
import Derived.Test.YtlknolbfhfcflaaVmOps
import Derived.Laws.EntriesVeiled
namespace Go.Proofs.Ytlknolbfhfcflaa
open Go.RowKit
variable {cv : Value} {i0 i1 fr : Int} {p : Pm} {w w' : World} {g : Nat}
def doR : List Value := [.nilFunc, .func (.func 67) #[] #[], .func (.func 68) #[] #[], .func (.func 69) #[] #[], .func (.func 70) #[] #[], .func (.func 71) #[] #[], .func (.func 72) #[] #[], .func (.func 73) #[] #[], .func (.func 74) #[] #[], .func (.func 75) #[] #[], .func (.func 76) #[] #[], .func (.func 77) #[] #[], .func (.func 78) #[] #[], .func (.func 79) #[] #[], .func (.func 80) #[] #[], .func (.func 81) #[] #[], .func (.func 82) #[] #[], .func (.func 83) #[] #[], .func (.func 84) #[] #[], .func (.func 85) #[] #[], .func (.func 86) #[] #[], .func (.func 87) #[] #[], .func (.func 88) #[] #[]]
def zeroD : List Value := [.nilFunc, .nilFunc, .nilFunc, .nilFunc, .nilFunc, .nilFunc, .nilFunc, .nilFunc, .nilFunc, .nilFunc, .nilFunc, .nilFunc, .nilFunc, .nilFunc, .nilFunc, .nilFunc, .nilFunc, .nilFunc, .nilFunc, .nilFunc, .nilFunc, .nilFunc, .nilFunc]
/-- The function that does an op. -/
def methF : Nat → Nat
  | 1 => 67
  | 2 => 68
  | 3 => 69
  | 4 => 70
  | 5 => 71
  | 6 => 72
  | 7 => 73
  | 8 => 74
  | 9 => 75
  | 10 => 76
  | 11 => 77
  | 12 => 78
  | 13 => 79
  | 14 => 80
  | 15 => 81
  | 16 => 82
  | 17 => 83
  | 18 => 84
  | 19 => 85
  | 20 => 86
  | 21 => 87
  | _ => 88
theorem doR_at : ∀ (n : Nat), 1 ≤ n → n ≤ 22 → doR[n]? = some (.func (.func (methF n)) #[] #[])
  | 1, _, _ => rfl
  | 2, _, _ => rfl
  | 3, _, _ => rfl
  | 4, _, _ => rfl
  | 5, _, _ => rfl
  | 6, _, _ => rfl
  | 7, _, _ => rfl
  | 8, _, _ => rfl
  | 9, _, _ => rfl
  | 10, _, _ => rfl
  | 11, _, _ => rfl
  | 12, _, _ => rfl
  | 13, _, _ => rfl
  | 14, _, _ => rfl
  | 15, _, _ => rfl
  | 16, _, _ => rfl
  | 17, _, _ => rfl
  | 18, _, _ => rfl
  | 19, _, _ => rfl
  | 20, _, _ => rfl
  | 21, _, _ => rfl
  | 22, _, _ => rfl
  | 0, h, _ => absurd h (by omega)
  | n + 23, _, h => absurd h (by omega)
theorem enters_meth (n : Nat) : ∀ args w, (callFunc (methF n) args).run Try.prog w = .ok (.enter (methF n) args) w := by
  unfold methF
  split
  · exact enters_of Try.func67 (by kernel_rfl) rfl
  · exact enters_of Try.func68 (by kernel_rfl) rfl
  · exact enters_of Try.func69 (by kernel_rfl) rfl
  · exact enters_of Try.func70 (by kernel_rfl) rfl
  · exact enters_of Try.func71 (by kernel_rfl) rfl
  · exact enters_of Try.func72 (by kernel_rfl) rfl
  · exact enters_of Try.func73 (by kernel_rfl) rfl
  · exact enters_of Try.func74 (by kernel_rfl) rfl
  · exact enters_of Try.func75 (by kernel_rfl) rfl
  · exact enters_of Try.func76 (by kernel_rfl) rfl
  · exact enters_of Try.func77 (by kernel_rfl) rfl
  · exact enters_of Try.func78 (by kernel_rfl) rfl
  · exact enters_of Try.func79 (by kernel_rfl) rfl
  · exact enters_of Try.func80 (by kernel_rfl) rfl
  · exact enters_of Try.func81 (by kernel_rfl) rfl
  · exact enters_of Try.func82 (by kernel_rfl) rfl
  · exact enters_of Try.func83 (by kernel_rfl) rfl
  · exact enters_of Try.func84 (by kernel_rfl) rfl
  · exact enters_of Try.func85 (by kernel_rfl) rfl
  · exact enters_of Try.func86 (by kernel_rfl) rfl
  · exact enters_of Try.func87 (by kernel_rfl) rfl
  · exact enters_of Try.func88 (by kernel_rfl) rfl
theorem Try.size93 : (Try.prog.info? 93).map (·.size) = some 23 := by kernel_rfl
theorem Try.zero93 : (Try.prog.info? 93).bind (·.zero) = some (.agg zeroD.toArray) := by kernel_rfl
set_option maxRecDepth 100000 in
set_option maxHeartbeats 4000000 in
theorem doings_any (w : World) : Calls Try.prog 48 #[] w fun e w' => e = .returned (.agg doR.toArray) ∧ Below w.heap.size w w' := by
  obtain ⟨cs, hcs⟩ : ∃ cs, cs = doR := ⟨_, rfl⟩
  obtain ⟨os, hos⟩ : ∃ os, os = zeroD := ⟨_, rfl⟩
  rw [← hcs]
  have HI : Hid ((Try.prog.info? 93).map (·.size) = some os.length) := by rw [hos]; exact Try.size93
  have HI2 : Hid ((Try.prog.info? 93).map (·.size) = some cs.length) := by rw [hcs]; exact Try.size93
  have HL : Hid (os.length = cs.length) := by rw [hos, hcs]; exact hid_into rfl
  have HC : Hid (∀ v ∈ cs, v.oneCell' = true) := by rw [hcs]; exact hid_into (by decide)
  have HO : Hid ((Try.prog.info? 93).bind (·.zero) = some (.agg os.toArray)) := by rw [hos]; exact Try.zero93
  have HE : Hid (doR = cs) := hid_into hcs.symm
  clear hcs hos
  go_enter Try.func48, Try.ntmps48
  refine wp_seq (wp_region_lit (wpList_alloc_row rfl 93 rfl os HO.out ?_))
  intro W1 hc1 B1 HS1
  refine wpList_nil ?_
  go_wp2_with (refine wpList_store_rw rfl 93 (.tmp 0) (.tmp 1) rfl w.heap.size os cs 93 rfl (congrArg (fun l : List Value => Value.agg l.toArray) HE.out) hc1 HI HL HC.out ?_; intro W2 hc2 O2)
  exact ret_row rfl rfl rfl hc2 Try.underlying93 rfl HI2 ⟨rfl, B1.trans (O2.below (Nat.le_refl _))⟩
set_option maxHeartbeats 1000000 in
theorem storeI_any (k : Nat) (hk : k < 16) (h : Mw w g cv i0 i1 fr p) :
    Calls Try.prog 69 #[.pointer (some ⟨g, 0, none⟩), .int .i64 (k : Int)] w fun e w' => e = .returned (.tuple #[]) ∧ Mw w' g cv i0 i1 fr { p.take with cells := p.cells.set k p.top } ∧ Gg g w w' := by
  have H := hid_into (h.keep (w' := w.drew) rfl)
  have HT := hid_into h.wf.top
  have HC : Hid (p.take.cells = p.cells) := by show _ = _; unfold Pm.take; split <;> rfl
  clear h
  go_enter Try.func69, Try.ntmps69
  go_wp2_with fail
  go_region_with (go_at_call 97; refine (take_any H.out).mono ?_; rintro e w1 ⟨rfl, H1, O1⟩; have c1 := H1.cell k hk; have f1 := H1.row.frozen (4 + k); have H2 := hid_into (H1.setCell k hk _ HT.out); clear H1)
  go_wp2_with fail
  go_end0
  rw [HC.out] at H2
  exact ⟨rfl, H2.out, ⟨O1.os, O1.tape, O1.output, by rw [World.size_setCell, O1.size]; exact Nat.le_refl _, fun j _ hj => (Below.heap_setCell _ _ _ _ hj).trans (O1.block j hj)⟩⟩
/-- Each instruction, by its number. -/
theorem meth_any (x : Ii) (ao : Option Addr) (n cap : Nat) (hx : mayI x n = true) (hn : n ≤ 256) (hi : Ins3 fr i0 i1) (k : Nat) (hk : x.1 = k) (h : Mw w g (.slice ao n cap) i0 i1 fr p) :
    Calls Try.prog (methF k) #[.pointer (some ⟨g, 0, none⟩), .int .i64 x.2] w fun e w' => e = .returned (.tuple #[]) ∧ Mw w' g (.slice ao n cap) i0 i1 fr (opP fr i0 i1 n x p) ∧ Gg g w w' := by
  obtain ⟨o, a⟩ := x
  simp only at hk
  subst hk
  have h1 := mayI_op hx
  have h32 := mayI_arg hx (by omega)
  simp only at h1 h32
  have k1 : 1 ≤ k := by omega
  have k2 : k ≤ 22 := by omega
  match k, k1, k2, hx with
  | 1, _, _, _ => exact push_any a h32 h
  | 2, _, _, hx =>
    have h2 : decide (0 ≤ a ∧ a < 16) = true := hx
    simp only [decide_eq_true_eq] at h2
    obtain ⟨j, rfl⟩ := Int.eq_ofNat_of_zero_le h2.1
    exact load_any j (by omega) h
  | 3, _, _, hx =>
    have h2 : decide (0 ≤ a ∧ a < 16) = true := hx
    simp only [decide_eq_true_eq] at h2
    obtain ⟨j, rfl⟩ := Int.eq_ofNat_of_zero_le h2.1
    exact storeI_any j (by omega) h
  | 4, _, _, _ => exact addI_any a h
  | 5, _, _, _ => exact subI_any a h
  | 6, _, _, _ => exact mulI_any a h
  | 7, _, _, _ => exact divI_any a h
  | 8, _, _, _ => exact minI_any a h
  | 9, _, _, _ => exact maxI_any a h
  | 10, _, _, _ => exact lessI_any a h
  | 11, _, _, _ => exact sameI_any a h
  | 12, _, _, _ => exact notI_any a h
  | 13, _, _, _ => exact dup_any a h
  | 14, _, _, _ => exact swap_any a h
  | 15, _, _, _ => exact drop_any a h
  | 16, _, _, hx =>
    have h2 : decide (a = 0 ∨ a = 1) = true := hx
    simp only [decide_eq_true_eq] at h2
    rcases h2 with rfl | rfl
    · exact input0_any hi h
    · exact input1_any hi h
  | 17, _, _, _ => exact frame_any hi a h
  | 18, _, _, _ => exact jump_any a h
  | 19, _, _, _ => exact zero_any a h
  | 20, _, _, _ => exact win_any a ao n cap h
  | 21, _, _, _ => exact rand_any a h
  | 22, _, _, _ => exact halt_any a ao n cap h
  | 0, h, _, _ => exact absurd h (by omega)
  | k + 23, _, h, _ => exact absurd h (by omega)
end Go.Proofs.Ytlknolbfhfcflaa
