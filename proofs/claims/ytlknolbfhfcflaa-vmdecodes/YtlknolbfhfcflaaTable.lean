/-
  The table of the ops: what its maker lays (ops), its rows by their numbers; what the rows' functions answer (may_any), has.
-/
import Derived.Test.YtlknolbfhfcflaaInsRows
import Derived.Shelf.Abstract
namespace Go.Proofs.Ytlknolbfhfcflaa
open Go.RowKit
def opsR : List Value := [.string ⟨#[]⟩, .bool false, .nilFunc, .string ⟨#[112, 117, 115, 104]⟩, .bool true, .func (.func 89) #[] #[], .string ⟨#[108, 111, 97, 100]⟩, .bool true, .func (.func 90) #[] #[], .string ⟨#[115, 116, 111, 114, 101]⟩, .bool true, .func (.func 90) #[] #[], .string ⟨#[97, 100, 100]⟩, .bool false, .func (.func 91) #[] #[], .string ⟨#[115, 117, 98]⟩, .bool false, .func (.func 91) #[] #[], .string ⟨#[109, 117, 108]⟩, .bool false, .func (.func 91) #[] #[], .string ⟨#[100, 105, 118]⟩, .bool false, .func (.func 91) #[] #[], .string ⟨#[109, 105, 110]⟩, .bool false, .func (.func 91) #[] #[], .string ⟨#[109, 97, 120]⟩, .bool false, .func (.func 91) #[] #[], .string ⟨#[108, 101, 115, 115]⟩, .bool false, .func (.func 91) #[] #[], .string ⟨#[115, 97, 109, 101]⟩, .bool false, .func (.func 91) #[] #[], .string ⟨#[110, 111, 116]⟩, .bool false, .func (.func 91) #[] #[], .string ⟨#[100, 117, 112]⟩, .bool false, .func (.func 91) #[] #[], .string ⟨#[115, 119, 97, 112]⟩, .bool false, .func (.func 91) #[] #[], .string ⟨#[100, 114, 111, 112]⟩, .bool false, .func (.func 91) #[] #[], .string ⟨#[105, 110]⟩, .bool true, .func (.func 92) #[] #[], .string ⟨#[102, 114, 97, 109, 101]⟩, .bool false, .func (.func 91) #[] #[], .string ⟨#[106, 117, 109, 112]⟩, .bool true, .func (.func 93) #[] #[], .string ⟨#[122, 101, 114, 111]⟩, .bool true, .func (.func 93) #[] #[], .string ⟨#[119, 105, 110]⟩, .bool true, .func (.func 94) #[] #[], .string ⟨#[114, 97, 110, 100]⟩, .bool false, .func (.func 91) #[] #[], .string ⟨#[104, 97, 108, 116]⟩, .bool false, .func (.func 91) #[] #[]]
def zeroT : List Value := [.string ⟨#[]⟩, .bool false, .nilFunc, .string ⟨#[]⟩, .bool false, .nilFunc, .string ⟨#[]⟩, .bool false, .nilFunc, .string ⟨#[]⟩, .bool false, .nilFunc, .string ⟨#[]⟩, .bool false, .nilFunc, .string ⟨#[]⟩, .bool false, .nilFunc, .string ⟨#[]⟩, .bool false, .nilFunc, .string ⟨#[]⟩, .bool false, .nilFunc, .string ⟨#[]⟩, .bool false, .nilFunc, .string ⟨#[]⟩, .bool false, .nilFunc, .string ⟨#[]⟩, .bool false, .nilFunc, .string ⟨#[]⟩, .bool false, .nilFunc, .string ⟨#[]⟩, .bool false, .nilFunc, .string ⟨#[]⟩, .bool false, .nilFunc, .string ⟨#[]⟩, .bool false, .nilFunc, .string ⟨#[]⟩, .bool false, .nilFunc, .string ⟨#[]⟩, .bool false, .nilFunc, .string ⟨#[]⟩, .bool false, .nilFunc, .string ⟨#[]⟩, .bool false, .nilFunc, .string ⟨#[]⟩, .bool false, .nilFunc, .string ⟨#[]⟩, .bool false, .nilFunc, .string ⟨#[]⟩, .bool false, .nilFunc, .string ⟨#[]⟩, .bool false, .nilFunc]
/-- An op's name. -/
def nameL : Nat → List UInt8
  | 1 => [112, 117, 115, 104]
  | 2 => [108, 111, 97, 100]
  | 3 => [115, 116, 111, 114, 101]
  | 4 => [97, 100, 100]
  | 5 => [115, 117, 98]
  | 6 => [109, 117, 108]
  | 7 => [100, 105, 118]
  | 8 => [109, 105, 110]
  | 9 => [109, 97, 120]
  | 10 => [108, 101, 115, 115]
  | 11 => [115, 97, 109, 101]
  | 12 => [110, 111, 116]
  | 13 => [100, 117, 112]
  | 14 => [115, 119, 97, 112]
  | 15 => [100, 114, 111, 112]
  | 16 => [105, 110]
  | 17 => [102, 114, 97, 109, 101]
  | 18 => [106, 117, 109, 112]
  | 19 => [122, 101, 114, 111]
  | 20 => [119, 105, 110]
  | 21 => [114, 97, 110, 100]
  | 22 => [104, 97, 108, 116]
  | _ => []
/-- The function that tells whether an op's argument may be. -/
def mayF : Nat → Nat
  | 1 => 89
  | 2 => 90
  | 3 => 90
  | 16 => 92
  | 18 => 93
  | 19 => 93
  | 20 => 94
  | _ => 91
theorem opsR_at : ∀ (n : Nat), 1 ≤ n → n ≤ 22 → opsR[n * 3]? = some (.string ⟨(nameL n).toArray⟩) ∧ opsR[n * 3 + 1]? = some (.bool (hasA n)) ∧ opsR[n * 3 + 2]? = some (.func (.func (mayF n)) #[] #[])
  | 1, _, _ => ⟨rfl, rfl, rfl⟩
  | 2, _, _ => ⟨rfl, rfl, rfl⟩
  | 3, _, _ => ⟨rfl, rfl, rfl⟩
  | 4, _, _ => ⟨rfl, rfl, rfl⟩
  | 5, _, _ => ⟨rfl, rfl, rfl⟩
  | 6, _, _ => ⟨rfl, rfl, rfl⟩
  | 7, _, _ => ⟨rfl, rfl, rfl⟩
  | 8, _, _ => ⟨rfl, rfl, rfl⟩
  | 9, _, _ => ⟨rfl, rfl, rfl⟩
  | 10, _, _ => ⟨rfl, rfl, rfl⟩
  | 11, _, _ => ⟨rfl, rfl, rfl⟩
  | 12, _, _ => ⟨rfl, rfl, rfl⟩
  | 13, _, _ => ⟨rfl, rfl, rfl⟩
  | 14, _, _ => ⟨rfl, rfl, rfl⟩
  | 15, _, _ => ⟨rfl, rfl, rfl⟩
  | 16, _, _ => ⟨rfl, rfl, rfl⟩
  | 17, _, _ => ⟨rfl, rfl, rfl⟩
  | 18, _, _ => ⟨rfl, rfl, rfl⟩
  | 19, _, _ => ⟨rfl, rfl, rfl⟩
  | 20, _, _ => ⟨rfl, rfl, rfl⟩
  | 21, _, _ => ⟨rfl, rfl, rfl⟩
  | 22, _, _ => ⟨rfl, rfl, rfl⟩
  | 0, h, _ => absurd h (by omega)
  | n + 23, _, h => absurd h (by omega)
theorem enters_may (n : Nat) : ∀ args w, (callFunc (mayF n) args).run Try.prog w = .ok (.enter (mayF n) args) w := by
  unfold mayF
  split
  · exact enters_of Try.func89 (by kernel_rfl) rfl
  · exact enters_of Try.func90 (by kernel_rfl) rfl
  · exact enters_of Try.func90 (by kernel_rfl) rfl
  · exact enters_of Try.func92 (by kernel_rfl) rfl
  · exact enters_of Try.func93 (by kernel_rfl) rfl
  · exact enters_of Try.func93 (by kernel_rfl) rfl
  · exact enters_of Try.func94 (by kernel_rfl) rfl
  · exact enters_of Try.func91 (by kernel_rfl) rfl
theorem Try.size105 : (Try.prog.info? 105).map (·.size) = some 69 := by kernel_rfl
theorem Try.zero105 : (Try.prog.info? 105).bind (·.zero) = some (.agg zeroT.toArray) := by kernel_rfl
set_option maxRecDepth 100000 in
set_option maxHeartbeats 4000000 in
theorem ops_any (w : World) : Calls Try.prog 55 #[] w fun e w' => e = .returned (.agg opsR.toArray) ∧ Below w.heap.size w w' := by
  obtain ⟨cs, hcs⟩ : ∃ cs, cs = opsR := ⟨_, rfl⟩
  obtain ⟨os, hos⟩ : ∃ os, os = zeroT := ⟨_, rfl⟩
  rw [← hcs]
  have HI : Hid ((Try.prog.info? 105).map (·.size) = some os.length) := by rw [hos]; exact Try.size105
  have HI2 : Hid ((Try.prog.info? 105).map (·.size) = some cs.length) := by rw [hcs]; exact Try.size105
  have HL : Hid (os.length = cs.length) := by rw [hos, hcs]; exact hid_into rfl
  have HC : Hid (∀ v ∈ cs, v.oneCell' = true) := by rw [hcs]; exact hid_into (by decide)
  have HO : Hid ((Try.prog.info? 105).bind (·.zero) = some (.agg os.toArray)) := by rw [hos]; exact Try.zero105
  have HE : Hid (opsR = cs) := hid_into hcs.symm
  clear hcs hos
  go_enter Try.func55, Try.ntmps55
  refine wp_seq (wp_region_lit (wpList_alloc_row rfl 105 rfl os HO.out ?_))
  intro W1 hc1 B1 HS1
  refine wpList_nil ?_
  go_wp2_with (refine wpList_store_rw rfl 105 (.tmp 0) (.tmp 23) rfl w.heap.size os cs 105 rfl (congrArg (fun l : List Value => Value.agg l.toArray) HE.out) hc1 HI HL HC.out ?_; intro W2 hc2 O2)
  exact ret_row rfl rfl rfl hc2 Try.underlying105 rfl HI2 ⟨rfl, B1.trans (O2.below (Nat.le_refl _))⟩
/-- Block g is the table. -/
def Tb (w : World) (g : Nat) : Prop := Cw w g opsR 105
theorem Tb.at {w : World} {g : Nat} (h : Tb w g) (n : Nat) (h1 : 1 ≤ n) (h2 : n ≤ 22) :
    w.cell? ⟨g, n * 3, none⟩ = some (.string ⟨(nameL n).toArray⟩) ∧ w.cell? ⟨g, n * 3 + 1, none⟩ = some (.bool (hasA n)) ∧ w.cell? ⟨g, n * 3 + 2, none⟩ = some (.func (.func (mayF n)) #[] #[]) := by
  obtain ⟨a, b, c⟩ := opsR_at n h1 h2
  exact ⟨(Cw.cell h _).trans a, (Cw.cell h _).trans b, (Cw.cell h _).trans c⟩
theorem Tb.keep {w w' : World} {g : Nat} (h : Tb w g) (hk : w'.heap[g]? = w.heap[g]?) : Tb w' g := Cw.keep h hk
theorem Tb.below {w w' : World} {g : Nat} (h : Tb w g) (hk : Below w.heap.size w w') : Tb w' g := Cw.below h hk (Cw.lt h)

set_option maxHeartbeats 1000000 in
theorem has_any (p : Value) (o : Int) (w : World) : Calls Try.prog 56 #[p, .int .i64 o] w fun e w' => e = .returned (.bool (opI o)) ∧ w' = w := by
  go_enter Try.func56, Try.ntmps56
  by_cases h1 : 0 < o
  · by_cases h2 : o < 23
    · have e : opI o = true := opI_iff.2 ⟨by omega, by omega⟩
      rw [e]
      go_wp2
      go_ret
      exact ⟨rfl, rfl⟩
    · have e : opI o = false := by simp [opI]; omega
      rw [e]
      go_wp2
      go_ret
      exact ⟨rfl, rfl⟩
  · have e : opI o = false := by simp [opI]; omega
    rw [e]
    go_wp2
    go_ret
    exact ⟨rfl, rfl⟩

set_option maxHeartbeats 1000000 in
theorem isNumber_any (v : Value) (a : Int) (w : World) : Calls Try.prog 89 #[v, .int .i64 a] w fun e w' => e = .returned (.bool (decide (-2147483648 ≤ a ∧ a ≤ 2147483647))) ∧ w' = w := by
  go_enter Try.func89, Try.ntmps89
  by_cases h1 : -2147483648 ≤ a
  · by_cases h2 : a ≤ 2147483647
    · rw [show decide (-2147483648 ≤ a ∧ a ≤ 2147483647) = true by simp [h1, h2]]
      go_wp2
      go_ret
      exact ⟨rfl, rfl⟩
    · rw [show decide (-2147483648 ≤ a ∧ a ≤ 2147483647) = false by simp; omega]
      go_wp2
      go_ret
      exact ⟨rfl, rfl⟩
  · rw [show decide (-2147483648 ≤ a ∧ a ≤ 2147483647) = false by simp; omega]
    go_wp2
    go_ret
    exact ⟨rfl, rfl⟩
set_option maxHeartbeats 1000000 in
theorem isCell_any (v : Value) (a : Int) (w : World) : Calls Try.prog 90 #[v, .int .i64 a] w fun e w' => e = .returned (.bool (decide (0 ≤ a ∧ a < 16))) ∧ w' = w := by
  go_enter Try.func90, Try.ntmps90
  by_cases h1 : 0 ≤ a
  · by_cases h2 : a < 16
    · rw [show decide (0 ≤ a ∧ a < 16) = true by simp [h1, h2]]
      go_wp2
      go_ret
      exact ⟨rfl, rfl⟩
    · rw [show decide (0 ≤ a ∧ a < 16) = false by simp; omega]
      go_wp2
      go_ret
      exact ⟨rfl, rfl⟩
  · rw [show decide (0 ≤ a ∧ a < 16) = false by simp; omega]
    go_wp2
    go_ret
    exact ⟨rfl, rfl⟩
set_option maxHeartbeats 1000000 in
theorem isWinner_any (v : Value) (a : Int) (w : World) : Calls Try.prog 94 #[v, .int .i64 a] w fun e w' => e = .returned (.bool (decide (0 ≤ a ∧ a ≤ 2))) ∧ w' = w := by
  go_enter Try.func94, Try.ntmps94
  by_cases h1 : 0 ≤ a
  · by_cases h2 : a ≤ 2
    · rw [show decide (0 ≤ a ∧ a ≤ 2) = true by simp [h1, h2]]
      go_wp2
      go_ret
      exact ⟨rfl, rfl⟩
    · rw [show decide (0 ≤ a ∧ a ≤ 2) = false by simp; omega]
      go_wp2
      go_ret
      exact ⟨rfl, rfl⟩
  · rw [show decide (0 ≤ a ∧ a ≤ 2) = false by simp; omega]
    go_wp2
    go_ret
    exact ⟨rfl, rfl⟩
set_option maxHeartbeats 1000000 in
theorem isPlayer_any (v : Value) (a : Int) (w : World) : Calls Try.prog 92 #[v, .int .i64 a] w fun e w' => e = .returned (.bool (decide (a = 0 ∨ a = 1))) ∧ w' = w := by
  go_enter Try.func92, Try.ntmps92
  by_cases h1 : a = 0
  · subst h1
    go_wp2
    go_ret
    exact ⟨rfl, rfl⟩
  · by_cases h2 : a = 1
    · subst h2
      go_wp2
      go_ret
      exact ⟨rfl, rfl⟩
    · rw [show decide (a = 0 ∨ a = 1) = false by simp; omega]
      have e1 : (a == 0) = false := by simp [h1]
      have e2 : (a == 1) = false := by simp [h2]
      go_wp2
      go_ret
      exact ⟨rfl, rfl⟩
set_option maxHeartbeats 1000000 in
theorem isPlace_any (ao : Option Addr) (n cap : Nat) (a : Int) (w : World) : Calls Try.prog 93 #[.slice ao n cap, .int .i64 a] w fun e w' => e = .returned (.bool (decide (0 ≤ a ∧ a ≤ (n : Int)))) ∧ w' = w := by
  go_enter Try.func93, Try.ntmps93
  by_cases h1 : 0 ≤ a
  · by_cases h2 : a ≤ (n : Int)
    · rw [show decide (0 ≤ a ∧ a ≤ (n : Int)) = true by simp [h1, h2]]
      go_wp2
      go_ret
      exact ⟨rfl, rfl⟩
    · rw [show decide (0 ≤ a ∧ a ≤ (n : Int)) = false by simp; omega]
      go_wp2
      go_ret
      exact ⟨rfl, rfl⟩
  · rw [show decide (0 ≤ a ∧ a ≤ (n : Int)) = false by simp; omega]
    go_wp2
    go_ret
    exact ⟨rfl, rfl⟩
set_option maxHeartbeats 1000000 in
theorem isNought_any (v : Value) (a : Int) (w : World) : Calls Try.prog 91 #[v, .int .i64 a] w fun e w' => e = .returned (.bool (decide (a = 0))) ∧ w' = w := by
  go_enter Try.func91, Try.ntmps91
  go_wp2
  go_ret
  exact ⟨congrArg (fun b => Ending.returned (.bool b)) (by by_cases h : a = 0 <;> simp [h]), rfl⟩
theorem may_any (n : Nat) (h1 : 1 ≤ n) (h2 : n ≤ 22) (ao : Option Addr) (m cap : Nat) (a : Int) (w : World) : Calls Try.prog (mayF n) #[.slice ao m cap, .int .i64 a] w fun e w' => e = .returned (.bool (argI n a m)) ∧ w' = w := by
  unfold mayF argI
  split
  · exact isNumber_any _ a w
  · exact isCell_any _ a w
  · exact isCell_any _ a w
  · exact isPlayer_any _ a w
  · exact isPlace_any ao m cap a w
  · exact isPlace_any ao m cap a w
  · exact isWinner_any _ a w
  · rename_i g1 g2 g3 g4 g5 g6 g7
    have k1 : n ≠ 1 := g1
    have k2 : n ≠ 2 := g2
    have k3 : n ≠ 3 := g3
    have k4 : n ≠ 16 := g4
    have k5 : n ≠ 18 := g5
    have k6 : n ≠ 19 := g6
    have k7 : n ≠ 20 := g7
    rw [if_neg (by omega), if_neg (by omega), if_neg (by omega), if_neg (by omega), if_neg (by omega)]
    exact isNought_any _ a w
end Go.Proofs.Ytlknolbfhfcflaa
