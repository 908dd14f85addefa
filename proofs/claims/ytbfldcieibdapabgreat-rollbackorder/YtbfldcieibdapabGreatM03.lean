/-
  Joined from: Table, Check, InQueue.
-/
import Derived.Test.YtbfldcieibdapabGreatM01
import Derived.Shelf.Abstract
section
/-
  The table of the ops: what its maker lays (ops), its rows by their numbers; what the rows' functions answer (may_any), has.
-/
namespace Go.Proofs.YtbfldcieibdapabGreat
open Go.RowKit
def opsR : List Value := [.string ⟨#[]⟩, .bool false, .nilFunc, .string ⟨#[112, 117, 115, 104]⟩, .bool true, .func (.func 62) #[] #[], .string ⟨#[108, 111, 97, 100]⟩, .bool true, .func (.func 63) #[] #[], .string ⟨#[115, 116, 111, 114, 101]⟩, .bool true, .func (.func 63) #[] #[], .string ⟨#[97, 100, 100]⟩, .bool false, .func (.func 64) #[] #[], .string ⟨#[115, 117, 98]⟩, .bool false, .func (.func 64) #[] #[], .string ⟨#[109, 117, 108]⟩, .bool false, .func (.func 64) #[] #[], .string ⟨#[100, 105, 118]⟩, .bool false, .func (.func 64) #[] #[], .string ⟨#[109, 105, 110]⟩, .bool false, .func (.func 64) #[] #[], .string ⟨#[109, 97, 120]⟩, .bool false, .func (.func 64) #[] #[], .string ⟨#[108, 101, 115, 115]⟩, .bool false, .func (.func 64) #[] #[], .string ⟨#[115, 97, 109, 101]⟩, .bool false, .func (.func 64) #[] #[], .string ⟨#[110, 111, 116]⟩, .bool false, .func (.func 64) #[] #[], .string ⟨#[100, 117, 112]⟩, .bool false, .func (.func 64) #[] #[], .string ⟨#[115, 119, 97, 112]⟩, .bool false, .func (.func 64) #[] #[], .string ⟨#[100, 114, 111, 112]⟩, .bool false, .func (.func 64) #[] #[], .string ⟨#[105, 110]⟩, .bool true, .func (.func 65) #[] #[], .string ⟨#[102, 114, 97, 109, 101]⟩, .bool false, .func (.func 64) #[] #[], .string ⟨#[106, 117, 109, 112]⟩, .bool true, .func (.func 66) #[] #[], .string ⟨#[122, 101, 114, 111]⟩, .bool true, .func (.func 66) #[] #[], .string ⟨#[119, 105, 110]⟩, .bool true, .func (.func 67) #[] #[], .string ⟨#[114, 97, 110, 100]⟩, .bool false, .func (.func 64) #[] #[], .string ⟨#[104, 97, 108, 116]⟩, .bool false, .func (.func 64) #[] #[]]
def zeroT : List Value := [.string ⟨#[]⟩, .bool false, .nilFunc, .string ⟨#[]⟩, .bool false, .nilFunc, .string ⟨#[]⟩, .bool false, .nilFunc, .string ⟨#[]⟩, .bool false, .nilFunc, .string ⟨#[]⟩, .bool false, .nilFunc, .string ⟨#[]⟩, .bool false, .nilFunc, .string ⟨#[]⟩, .bool false, .nilFunc, .string ⟨#[]⟩, .bool false, .nilFunc, .string ⟨#[]⟩, .bool false, .nilFunc, .string ⟨#[]⟩, .bool false, .nilFunc, .string ⟨#[]⟩, .bool false, .nilFunc, .string ⟨#[]⟩, .bool false, .nilFunc, .string ⟨#[]⟩, .bool false, .nilFunc, .string ⟨#[]⟩, .bool false, .nilFunc, .string ⟨#[]⟩, .bool false, .nilFunc, .string ⟨#[]⟩, .bool false, .nilFunc, .string ⟨#[]⟩, .bool false, .nilFunc, .string ⟨#[]⟩, .bool false, .nilFunc, .string ⟨#[]⟩, .bool false, .nilFunc, .string ⟨#[]⟩, .bool false, .nilFunc, .string ⟨#[]⟩, .bool false, .nilFunc, .string ⟨#[]⟩, .bool false, .nilFunc, .string ⟨#[]⟩, .bool false, .nilFunc]
/-- An op's name. -/
def nameL : Nat → List UInt8
  | 1 => [112, 117, 115, 104]
  | 2 => [108, 111, 97, 100]
  | 3 => [115, 116, 111, 114, 101]
  | 4 => [97, 100, 100]
  | 5 => [115, 117, 98]
  | 6 => [109, 117, 108]
  | 7 => [100, 105, 118]
  | 8 => [109, 105, 110]
  | 9 => [109, 97, 120]
  | 10 => [108, 101, 115, 115]
  | 11 => [115, 97, 109, 101]
  | 12 => [110, 111, 116]
  | 13 => [100, 117, 112]
  | 14 => [115, 119, 97, 112]
  | 15 => [100, 114, 111, 112]
  | 16 => [105, 110]
  | 17 => [102, 114, 97, 109, 101]
  | 18 => [106, 117, 109, 112]
  | 19 => [122, 101, 114, 111]
  | 20 => [119, 105, 110]
  | 21 => [114, 97, 110, 100]
  | 22 => [104, 97, 108, 116]
  | _ => []
/-- The function that tells whether an op's argument may be. -/
def mayF : Nat → Nat
  | 1 => 62
  | 2 => 63
  | 3 => 63
  | 16 => 65
  | 18 => 66
  | 19 => 66
  | 20 => 67
  | _ => 64
theorem opsR_at : ∀ (n : Nat), 1 ≤ n → n ≤ 22 → opsR[n * 3]? = some (.string ⟨(nameL n).toArray⟩) ∧ opsR[n * 3 + 1]? = some (.bool (hasA n)) ∧ opsR[n * 3 + 2]? = some (.func (.func (mayF n)) #[] #[])
  | 1, _, _ => ⟨rfl, rfl, rfl⟩
  | 2, _, _ => ⟨rfl, rfl, rfl⟩
  | 3, _, _ => ⟨rfl, rfl, rfl⟩
  | 4, _, _ => ⟨rfl, rfl, rfl⟩
  | 5, _, _ => ⟨rfl, rfl, rfl⟩
  | 6, _, _ => ⟨rfl, rfl, rfl⟩
  | 7, _, _ => ⟨rfl, rfl, rfl⟩
  | 8, _, _ => ⟨rfl, rfl, rfl⟩
  | 9, _, _ => ⟨rfl, rfl, rfl⟩
  | 10, _, _ => ⟨rfl, rfl, rfl⟩
  | 11, _, _ => ⟨rfl, rfl, rfl⟩
  | 12, _, _ => ⟨rfl, rfl, rfl⟩
  | 13, _, _ => ⟨rfl, rfl, rfl⟩
  | 14, _, _ => ⟨rfl, rfl, rfl⟩
  | 15, _, _ => ⟨rfl, rfl, rfl⟩
  | 16, _, _ => ⟨rfl, rfl, rfl⟩
  | 17, _, _ => ⟨rfl, rfl, rfl⟩
  | 18, _, _ => ⟨rfl, rfl, rfl⟩
  | 19, _, _ => ⟨rfl, rfl, rfl⟩
  | 20, _, _ => ⟨rfl, rfl, rfl⟩
  | 21, _, _ => ⟨rfl, rfl, rfl⟩
  | 22, _, _ => ⟨rfl, rfl, rfl⟩
  | 0, h, _ => absurd h (by omega)
  | n + 23, _, h => absurd h (by omega)
theorem enters_may (n : Nat) : ∀ args w, (callFunc (mayF n) args).run Tryz.prog w = .ok (.enter (mayF n) args) w := by
  unfold mayF
  split
  · exact enters_of Tryz.func62 (by kernel_rfl) rfl
  · exact enters_of Tryz.func63 (by kernel_rfl) rfl
  · exact enters_of Tryz.func63 (by kernel_rfl) rfl
  · exact enters_of Tryz.func65 (by kernel_rfl) rfl
  · exact enters_of Tryz.func66 (by kernel_rfl) rfl
  · exact enters_of Tryz.func66 (by kernel_rfl) rfl
  · exact enters_of Tryz.func67 (by kernel_rfl) rfl
  · exact enters_of Tryz.func64 (by kernel_rfl) rfl
theorem Tryz.size104 : (Tryz.prog.info? 104).map (·.size) = some 69 := by kernel_rfl
theorem Tryz.zero104 : (Tryz.prog.info? 104).bind (·.zero) = some (.agg zeroT.toArray) := by kernel_rfl
set_option maxRecDepth 100000 in
set_option maxHeartbeats 4000000 in
theorem ops_any (w : World) : Calls Tryz.prog 52 #[] w fun e w' => e = .returned (.agg opsR.toArray) ∧ Below w.heap.size w w' := by
  obtain ⟨cs, hcs⟩ : ∃ cs, cs = opsR := ⟨_, rfl⟩
  obtain ⟨os, hos⟩ : ∃ os, os = zeroT := ⟨_, rfl⟩
  rw [← hcs]
  have HI : Hid ((Tryz.prog.info? 104).map (·.size) = some os.length) := by rw [hos]; exact Tryz.size104
  have HI2 : Hid ((Tryz.prog.info? 104).map (·.size) = some cs.length) := by rw [hcs]; exact Tryz.size104
  have HL : Hid (os.length = cs.length) := by rw [hos, hcs]; exact hid_into rfl
  have HC : Hid (∀ v ∈ cs, v.oneCell' = true) := by rw [hcs]; exact hid_into (by decide)
  have HO : Hid ((Tryz.prog.info? 104).bind (·.zero) = some (.agg os.toArray)) := by rw [hos]; exact Tryz.zero104
  have HE : Hid (opsR = cs) := hid_into hcs.symm
  clear hcs hos
  go_enter Tryz.func52, Tryz.ntmps52
  refine wp_seq (wp_region_lit (wpList_alloc_row rfl 104 rfl os HO.out ?_))
  intro W1 hc1 B1 HS1
  refine wpList_nil ?_
  go_wp2_with (refine wpList_store_rw rfl 104 (.tmp 0) (.tmp 23) rfl w.heap.size os cs 104 rfl (congrArg (fun l : List Value => Value.agg l.toArray) HE.out) hc1 HI HL HC.out ?_; intro W2 hc2 O2)
  exact ret_row rfl rfl rfl hc2 Tryz.underlying104 rfl HI2 ⟨rfl, B1.trans (O2.below (Nat.le_refl _))⟩
/-- Block g is the table. -/
def Tb (w : World) (g : Nat) : Prop := Cw w g opsR 104
theorem Tb.at {w : World} {g : Nat} (h : Tb w g) (n : Nat) (h1 : 1 ≤ n) (h2 : n ≤ 22) :
    w.cell? ⟨g, n * 3, none⟩ = some (.string ⟨(nameL n).toArray⟩) ∧ w.cell? ⟨g, n * 3 + 1, none⟩ = some (.bool (hasA n)) ∧ w.cell? ⟨g, n * 3 + 2, none⟩ = some (.func (.func (mayF n)) #[] #[]) := by
  obtain ⟨a, b, c⟩ := opsR_at n h1 h2
  exact ⟨(Cw.cell h _).trans a, (Cw.cell h _).trans b, (Cw.cell h _).trans c⟩
theorem Tb.keep {w w' : World} {g : Nat} (h : Tb w g) (hk : w'.heap[g]? = w.heap[g]?) : Tb w' g := Cw.keep h hk
theorem Tb.below {w w' : World} {g : Nat} (h : Tb w g) (hk : Below w.heap.size w w') : Tb w' g := Cw.below h hk (Cw.lt h)

set_option maxHeartbeats 1000000 in
theorem has_any (p : Value) (o : Int) (w : World) : Calls Tryz.prog 53 #[p, .int .i64 o] w fun e w' => e = .returned (.bool (opI o)) ∧ w' = w := by
  go_enter Tryz.func53, Tryz.ntmps53
  by_cases h1 : 0 < o
  · by_cases h2 : o < 23
    · have e : opI o = true := opI_iff.2 ⟨by omega, by omega⟩
      rw [e]
      go_wp2
      go_ret
      exact ⟨rfl, rfl⟩
    · have e : opI o = false := by simp [opI]; omega
      rw [e]
      go_wp2
      go_ret
      exact ⟨rfl, rfl⟩
  · have e : opI o = false := by simp [opI]; omega
    rw [e]
    go_wp2
    go_ret
    exact ⟨rfl, rfl⟩

set_option maxHeartbeats 1000000 in
theorem isNumber_any (v : Value) (a : Int) (w : World) : Calls Tryz.prog 62 #[v, .int .i64 a] w fun e w' => e = .returned (.bool (decide (-2147483648 ≤ a ∧ a ≤ 2147483647))) ∧ w' = w := by
  go_enter Tryz.func62, Tryz.ntmps62
  by_cases h1 : -2147483648 ≤ a
  · by_cases h2 : a ≤ 2147483647
    · rw [show decide (-2147483648 ≤ a ∧ a ≤ 2147483647) = true by simp [h1, h2]]
      go_wp2
      go_ret
      exact ⟨rfl, rfl⟩
    · rw [show decide (-2147483648 ≤ a ∧ a ≤ 2147483647) = false by simp; omega]
      go_wp2
      go_ret
      exact ⟨rfl, rfl⟩
  · rw [show decide (-2147483648 ≤ a ∧ a ≤ 2147483647) = false by simp; omega]
    go_wp2
    go_ret
    exact ⟨rfl, rfl⟩
set_option maxHeartbeats 1000000 in
theorem isCell_any (v : Value) (a : Int) (w : World) : Calls Tryz.prog 63 #[v, .int .i64 a] w fun e w' => e = .returned (.bool (decide (0 ≤ a ∧ a < 16))) ∧ w' = w := by
  go_enter Tryz.func63, Tryz.ntmps63
  by_cases h1 : 0 ≤ a
  · by_cases h2 : a < 16
    · rw [show decide (0 ≤ a ∧ a < 16) = true by simp [h1, h2]]
      go_wp2
      go_ret
      exact ⟨rfl, rfl⟩
    · rw [show decide (0 ≤ a ∧ a < 16) = false by simp; omega]
      go_wp2
      go_ret
      exact ⟨rfl, rfl⟩
  · rw [show decide (0 ≤ a ∧ a < 16) = false by simp; omega]
    go_wp2
    go_ret
    exact ⟨rfl, rfl⟩
set_option maxHeartbeats 1000000 in
theorem isWinner_any (v : Value) (a : Int) (w : World) : Calls Tryz.prog 67 #[v, .int .i64 a] w fun e w' => e = .returned (.bool (decide (0 ≤ a ∧ a ≤ 2))) ∧ w' = w := by
  go_enter Tryz.func67, Tryz.ntmps67
  by_cases h1 : 0 ≤ a
  · by_cases h2 : a ≤ 2
    · rw [show decide (0 ≤ a ∧ a ≤ 2) = true by simp [h1, h2]]
      go_wp2
      go_ret
      exact ⟨rfl, rfl⟩
    · rw [show decide (0 ≤ a ∧ a ≤ 2) = false by simp; omega]
      go_wp2
      go_ret
      exact ⟨rfl, rfl⟩
  · rw [show decide (0 ≤ a ∧ a ≤ 2) = false by simp; omega]
    go_wp2
    go_ret
    exact ⟨rfl, rfl⟩
set_option maxHeartbeats 1000000 in
theorem isPlayer_any (v : Value) (a : Int) (w : World) : Calls Tryz.prog 65 #[v, .int .i64 a] w fun e w' => e = .returned (.bool (decide (a = 0 ∨ a = 1))) ∧ w' = w := by
  go_enter Tryz.func65, Tryz.ntmps65
  by_cases h1 : a = 0
  · subst h1
    go_wp2
    go_ret
    exact ⟨rfl, rfl⟩
  · by_cases h2 : a = 1
    · subst h2
      go_wp2
      go_ret
      exact ⟨rfl, rfl⟩
    · rw [show decide (a = 0 ∨ a = 1) = false by simp; omega]
      have e1 : (a == 0) = false := by simp [h1]
      have e2 : (a == 1) = false := by simp [h2]
      go_wp2
      go_ret
      exact ⟨rfl, rfl⟩
set_option maxHeartbeats 1000000 in
theorem isPlace_any (ao : Option Addr) (n cap : Nat) (a : Int) (w : World) : Calls Tryz.prog 66 #[.slice ao n cap, .int .i64 a] w fun e w' => e = .returned (.bool (decide (0 ≤ a ∧ a ≤ (n : Int)))) ∧ w' = w := by
  go_enter Tryz.func66, Tryz.ntmps66
  by_cases h1 : 0 ≤ a
  · by_cases h2 : a ≤ (n : Int)
    · rw [show decide (0 ≤ a ∧ a ≤ (n : Int)) = true by simp [h1, h2]]
      go_wp2
      go_ret
      exact ⟨rfl, rfl⟩
    · rw [show decide (0 ≤ a ∧ a ≤ (n : Int)) = false by simp; omega]
      go_wp2
      go_ret
      exact ⟨rfl, rfl⟩
  · rw [show decide (0 ≤ a ∧ a ≤ (n : Int)) = false by simp; omega]
    go_wp2
    go_ret
    exact ⟨rfl, rfl⟩
set_option maxHeartbeats 1000000 in
theorem isNought_any (v : Value) (a : Int) (w : World) : Calls Tryz.prog 64 #[v, .int .i64 a] w fun e w' => e = .returned (.bool (decide (a = 0))) ∧ w' = w := by
  go_enter Tryz.func64, Tryz.ntmps64
  go_wp2
  go_ret
  exact ⟨congrArg (fun b => Ending.returned (.bool b)) (by by_cases h : a = 0 <;> simp [h]), rfl⟩
theorem may_any (n : Nat) (h1 : 1 ≤ n) (h2 : n ≤ 22) (ao : Option Addr) (m cap : Nat) (a : Int) (w : World) : Calls Tryz.prog (mayF n) #[.slice ao m cap, .int .i64 a] w fun e w' => e = .returned (.bool (argI n a m)) ∧ w' = w := by
  unfold mayF argI
  split
  · exact isNumber_any _ a w
  · exact isCell_any _ a w
  · exact isCell_any _ a w
  · exact isPlayer_any _ a w
  · exact isPlace_any ao m cap a w
  · exact isPlace_any ao m cap a w
  · exact isWinner_any _ a w
  · rename_i g1 g2 g3 g4 g5 g6 g7
    have k1 : n ≠ 1 := g1
    have k2 : n ≠ 2 := g2
    have k3 : n ≠ 3 := g3
    have k4 : n ≠ 16 := g4
    have k5 : n ≠ 18 := g5
    have k6 : n ≠ 19 := g6
    have k7 : n ≠ 20 := g7
    rw [if_neg (by omega), if_neg (by omega), if_neg (by omega), if_neg (by omega), if_neg (by omega)]
    exact isNought_any _ a w
end Go.Proofs.YtbfldcieibdapabGreat
end

section
/-
  code.Check, and the document's: both answer what chk tells.
-/
namespace Go.Proofs.YtbfldcieibdapabGreat
open Go.RowKit
set_option maxRecDepth 20000 in
set_option maxHeartbeats 4000000 in
theorem check_any (v : Value) (l : List Ii) (w : World) (h : Ls w v l) :
    Calls Tryz.prog 38 #[v] w fun e w' => e = .returned (.tuple #[.int .i64 (chk l).1, .int .i64 (chk l).2]) ∧ Below w.heap.size w w' := by
  obtain ⟨ao, cap, rfl, hm⟩ := h.len
  have hm' : l.length ≤ 9223372036854775807 := by unfold maxLen at hm; omega
  have HL := hid_into h
  clear h hm
  by_cases h256 : 256 < l.length
  · rw [chk_long h256]
    go_enter Tryz.func38, Tryz.ntmps38
    go_wp2
    go_ret2
    exact ⟨rfl, Below.refl _ _⟩
  · obtain ⟨cs, hcs⟩ : ∃ cs, cs = opsR := ⟨_, rfl⟩
    obtain ⟨os, hos⟩ : ∃ os, os = zeroT := ⟨_, rfl⟩
    have HI : Hid ((Tryz.prog.info? 104).map (·.size) = some os.length) := by rw [hos]; exact Tryz.size104
    have HLn : Hid (os.length = cs.length) := by rw [hos, hcs]; exact hid_into rfl
    have HC : Hid (∀ v ∈ cs, v.oneCell' = true) := by rw [hcs]; exact hid_into (by decide)
    have HO : Hid ((Tryz.prog.info? 104).bind (·.zero) = some (.agg os.toArray)) := by rw [hos]; exact Tryz.zero104
    have HOP : ∀ W, Calls Tryz.prog 52 #[] W fun e w' => e = .returned (.agg cs.toArray) ∧ Below W.heap.size W w' := by rw [hcs]; exact ops_any
    have HE : Hid (cs = opsR) := hid_into hcs
    clear hcs hos
    go_enter Tryz.func38, Tryz.ntmps38
    go_wp2_with (first
      | (go_at_call 52; refine (HOP _).mono ?_; rintro e w1 ⟨rfl, B1⟩)
      | (refine wpList_alloc_row rfl 104 rfl os HO.out ?_; intro W1 hc1 B2 HS1)
      | (refine wpList_store_rw rfl 104 (.tmp 4) (.tmp 10) rfl w1.heap.size os cs 104 rfl rfl hc1 HI HLn HC.out ?_; intro W2 hc2 O2))
    have HT : Hid (Tb W2 w1.heap.size) := by
      have e := HE.out
      subst e
      exact hc2
    have HB : Hid (Below w.heap.size w W2) := B1.trans ((B2.mono B1.size).trans (O2.below B1.size))
    have hs1 := B1.size
    have htb : w1.heap.size < W2.heap.size := hc2.lt
    clear HE hc1 hc2 O2 B2 HS1 HO HI HLn HC HOP
    go_loopw [13] (fun i wr => ∃ k : Nat, k ≤ l.length ∧ i = .int .i64 (k : Int) ∧ Hid (∀ j y, j < k → l[j]? = some y → mayI y l.length = true) ∧ Hid (Tb wr w1.heap.size) ∧ Hid (Below w.heap.size w wr)) (fun i _ => l.length - (intOf i).toNat)
    case atStart => exact ⟨0, Nat.zero_le _, rfl, fun j y hj => absurd hj (by omega), HT.out, HB.out⟩
    case round =>
      clear HT HB
      obtain ⟨k, hk, rfl, HA, HT, HB⟩ := hrel
      by_cases hlt : k < l.length
      · obtain ⟨⟨o, a⟩, hx⟩ : ∃ x, l[k]? = some x := ⟨_, List.getElem?_eq_getElem hlt⟩
        obtain ⟨g, off, hao, x0, x1⟩ := HL.out.at HB.out (Nat.le_refl _) k _ hx
        subst hao
        simp only at x0 x1
        have HX := hid_into hx
        clear hx
        have hTl := Cw.lt HT.out
        have HT2 := hid_into (HT.out.below ((Below.refl _ _).alloc (Nat.le_refl _) (.cells #[.int .i64 o, .int .i64 a] 66)))
        have HB2 := hid_into (HB.out.trans (((Below.refl wr.heap.size wr).alloc (Nat.le_refl _) (.cells #[.int .i64 o, .int .i64 a] 66)).mono HB.out.size))
        by_cases ho : opI o = true
        · obtain ⟨o1, o2⟩ := opI_iff.1 ho
          obtain ⟨n, rfl⟩ := Int.eq_ofNat_of_zero_le (show 0 ≤ o by omega)
          obtain ⟨_, _, t2⟩ := HT2.out.at n (by omega) (by omega)
          have hmay := fun W => may_any n (by omega) (by omega) (some ⟨g, off, none⟩) l.length cap a W
          have hent := enters_may n
          have hhas : ∀ p W, Calls Tryz.prog 53 #[p, .int .i64 (n : Int)] W fun e w' => e = .returned (.bool true) ∧ w' = W := fun p W => by have := has_any p (n : Int) W; rwa [ho] at this
          have e22 : (n : Int) < 23 := by omega
          have HM : Hid (mayI (((n : Nat) : Int), a) l.length = argI n a l.length) := by show _ = _; simp [mayI, ho]
          generalize mayF n = fm at t2 hmay hent
          cases hb : argI n a l.length with
          | true =>
            rw [hb] at hmay
            have HM2 := hid_into (HM.out.trans hb)
            clear hb HM
            go_wp2_with fail
            go_quiet (first
              | (go_at_call 53; refine Calls.quiet_of_same ((hhas _ _).mono fun _ _ h => ⟨h.1, h.2⟩))
              | (go_at_fn fm; refine Calls.quiet_of_same ((hmay _).mono fun _ _ h => ⟨h.1, h.2⟩)))
            go_wp2_with fail
            go_roundw
            case rel =>
              refine ⟨k + 1, by omega, by go_num, fun j y hj hy => ?_, HT2.out.below ((Sm.drewN _ _).below _), HB2.out.trans ((Sm.drewN _ _).below _)⟩
              by_cases hjk : j < k
              · exact HA.out j y hjk hy
              · obtain rfl : j = k := by omega
                rw [HX.out] at hy
                cases hy
                exact HM2.out
            case measure => simp [intOf]; omega
          | false =>
            rw [hb] at hmay
            have HM2 := hid_into (HM.out.trans hb)
            clear hb HM
            go_wp2_with fail
            go_quiet (first
              | (go_at_call 53; refine Calls.quiet_of_same ((hhas _ _).mono fun _ _ h => ⟨h.1, h.2⟩))
              | (go_at_fn fm; refine Calls.quiet_of_same ((hmay _).mono fun _ _ h => ⟨h.1, h.2⟩)))
            go_wp2_with fail
            go_ret2
            rw [chk_bad h256 k _ HX.out HA.out HM2.out]
            exact ⟨rfl, HB2.out.trans ((Sm.drewN _ _).below _)⟩
        · have ho' : opI o = false := by simpa using ho
          have HM2 : Hid (mayI (o, a) l.length = false) := by show _ = _; simp [mayI, ho']
          have hhas : ∀ p W, Calls Tryz.prog 53 #[p, .int .i64 o] W fun e w' => e = .returned (.bool false) ∧ w' = W := fun p W => by have := has_any p o W; rwa [ho'] at this
          clear ho ho'
          go_wp2_with fail
          go_quiet ((go_at_call 53; refine Calls.quiet_of_same ((hhas _ _).mono fun _ _ h => ⟨h.1, h.2⟩)))
          go_wp2_with fail
          go_ret2
          rw [chk_bad h256 k _ HX.out HA.out HM2.out]
          exact ⟨rfl, HB2.out.trans ((Sm.drewN _ _).below _)⟩
      · obtain rfl : k = l.length := by omega
        go_wp2_with fail
        go_ret2
        rw [chk_ok h256 (fun x hx => by
          obtain ⟨j, hj, rfl⟩ := List.getElem_of_mem hx
          exact HA.out j _ hj (List.getElem?_eq_getElem hj))]
        exact ⟨rfl, HB.out⟩
end Go.Proofs.YtbfldcieibdapabGreat
end

section
/-
  A Queue's Put, Get, Known, Both, by contracts.
-/
namespace Go.Proofs.YtbfldcieibdapabGreat.In
open Go.RowKit
section
variable {w w' : World} {lo hi qb g0 g1 : Nat} {l0 l1 : List Pl}
theorem put_nil (w : World) (p f x : Int) : Calls Tryz.prog 26 #[.pointer none, .int .i64 p, .int .i64 f, .int .u16 x] w fun e w' => e = .returned (.int .i64 1) ∧ w' = w := by
  go_enter Tryz.func26, Tryz.ntmps26
  go_wp2_with (first
    | (go_at_call 43; refine (row_nil _ _).mono ?_; rintro e w1 ⟨rfl, rfl⟩)
    | (go_at_call 44; refine (rput_nil _ _ _).mono ?_; rintro e w1 ⟨rfl, rfl⟩))
  go_ret
  exact ⟨rfl, rfl⟩
theorem get_nil (w : World) (p f : Int) : Calls Tryz.prog 46 #[.pointer none, .int .i64 p, .int .i64 f] w fun e w' => e = .returned (.tuple #[.int .u16 0, .bool false]) ∧ w' = w := by
  go_enter Tryz.func46, Tryz.ntmps46
  go_wp2_with (first
    | (go_at_call 43; refine (row_nil _ _).mono ?_; rintro e w1 ⟨rfl, rfl⟩)
    | (go_at_call 59; refine (rget_nil _ _).mono ?_; rintro e w1 ⟨rfl, rfl⟩))
  go_ret2
  exact ⟨rfl, rfl⟩
theorem known_nil (w : World) (p : Int) : Calls Tryz.prog 36 #[.pointer none, .int .i64 p] w fun e w' => e = .returned (.int .i64 0) ∧ w' = w := by
  go_enter Tryz.func36, Tryz.ntmps36
  go_wp2_with (first
    | (go_at_call 43; refine (row_nil _ _).mono ?_; rintro e w1 ⟨rfl, rfl⟩)
    | (go_at_call 51; refine (rknown_nil _).mono ?_; rintro e w1 ⟨rfl, rfl⟩))
  go_ret
  exact ⟨rfl, rfl⟩
/-- A row's put, whatever the frame. -/
theorem rput_any {g : Nat} {l : List Pl} (hc : Cw w g (cellsR l) 110) (hn : l.length ≤ 600) (f x : Int) : Calls Tryz.prog 44 #[slR g l.length, .int .i64 f, .int .u16 x] w fun e w' => e = .returned (.int .i64 (putE l f x)) ∧ Cw w' g (cellsR (putL l f x)) 110 ∧ Only g w w' := by
  by_cases h : f < 0 ∨ (l.length : Int) ≤ f
  · have h1 : putE l f x = 1 := by unfold putE; rw [if_pos h]
    have h2 : putL l f x = l := by unfold putL; rw [h1, if_neg (by decide)]
    rw [h1, h2]
    refine (rput_out g f x h).mono ?_
    rintro e w1 ⟨rfl, rfl⟩
    exact ⟨rfl, hc, Only.refl _ _⟩
  · obtain ⟨k, rfl⟩ : ∃ k : Nat, f = (k : Int) := ⟨f.toNat, by omega⟩
    exact rput_in hc hn k x (by omega)
theorem put_no (b : Addr) (w : World) (p f x : Int) (hp : p < 0 ∨ 1 < p) : Calls Tryz.prog 26 #[.pointer (some b), .int .i64 p, .int .i64 f, .int .u16 x] w fun e w' => e = .returned (.int .i64 1) ∧ w' = w := by
  have HP := hid_into hp
  clear hp
  go_enter Tryz.func26, Tryz.ntmps26
  go_wp2_with (first
    | (go_at_call 43; refine (row_no _ _ _ HP.out).mono ?_; rintro e w1 ⟨rfl, rfl⟩)
    | (go_at_call 44; refine (rput_nil _ _ _).mono ?_; rintro e w1 ⟨rfl, rfl⟩))
  go_ret
  exact ⟨rfl, rfl⟩
theorem get_no (b : Addr) (w : World) (p f : Int) (hp : p < 0 ∨ 1 < p) : Calls Tryz.prog 46 #[.pointer (some b), .int .i64 p, .int .i64 f] w fun e w' => e = .returned (.tuple #[.int .u16 0, .bool false]) ∧ w' = w := by
  have HP := hid_into hp
  clear hp
  go_enter Tryz.func46, Tryz.ntmps46
  go_wp2_with (first
    | (go_at_call 43; refine (row_no _ _ _ HP.out).mono ?_; rintro e w1 ⟨rfl, rfl⟩)
    | (go_at_call 59; refine (rget_nil _ _).mono ?_; rintro e w1 ⟨rfl, rfl⟩))
  go_ret2
  exact ⟨rfl, rfl⟩
theorem known_no (b : Addr) (w : World) (p : Int) (hp : p < 0 ∨ 1 < p) : Calls Tryz.prog 36 #[.pointer (some b), .int .i64 p] w fun e w' => e = .returned (.int .i64 0) ∧ w' = w := by
  have HP := hid_into hp
  clear hp
  go_enter Tryz.func36, Tryz.ntmps36
  go_wp2_with (first
    | (go_at_call 43; refine (row_no _ _ _ HP.out).mono ?_; rintro e w1 ⟨rfl, rfl⟩)
    | (go_at_call 51; refine (rknown_nil _).mono ?_; rintro e w1 ⟨rfl, rfl⟩))
  go_ret
  exact ⟨rfl, rfl⟩
/-- What Put leaves of a Queue. -/
structure PutP (w w' : World) (lo hi qb g0 g1 : Nat) (l0 l1 : List Pl) (p f x : Int) : Prop where
  q : Qp w' lo hi qb g0 g1 (if p = 0 then putL l0 f x else l0) (if p = 1 then putL l1 f x else l1)
  og : Og (fun k => lo ≤ k ∧ k < hi) w w'
theorem put_any (h : Qp w lo hi qb g0 g1 l0 l1) (p f x : Int) : Calls Tryz.prog 26 #[.pointer (some ⟨qb, 0, none⟩), .int .i64 p, .int .i64 f, .int .u16 x] w fun e w' => e = .returned (.int .i64 (putE (sel p l0 l1) f x)) ∧ PutP w w' lo hi qb g0 g1 l0 l1 p f x := by
  by_cases hp : p < 0 ∨ 1 < p
  · rw [sel_no hp, putE_nil]
    refine (put_no _ w p f x hp).mono ?_
    rintro e w1 ⟨rfl, rfl⟩
    exact ⟨rfl, by rw [if_neg (by omega), if_neg (by omega)]; exact h, Og.refl _ _⟩
  · by_cases h0 : p = 0
    · subst h0
      have H := hid_into h
      clear h hp
      have hs : sel 0 l0 l1 = l0 := rfl
      rw [hs]
      clear hs
      go_enter Tryz.func26, Tryz.ntmps26
      go_wp2_with (first
        | (go_at_call 43; refine (row_0 H.out).mono ?_; rintro e w1 ⟨rfl, rfl⟩)
        | (go_at_call 44; refine (rput_any H.out.r0 H.out.n2 _ _).mono ?_; rintro e w1 ⟨rfl, hc, ho⟩))
      go_ret
      exact ⟨rfl, by rw [if_pos rfl, if_neg (by decide)]; exact H.out.put0 (putL_len _ _ _) ho hc, Og.of ho H.out.b0⟩
    · obtain rfl : p = 1 := by omega
      have H := hid_into h
      clear h hp h0
      have hs : sel 1 l0 l1 = l1 := rfl
      rw [hs]
      clear hs
      have L : Hid (l0.length = l1.length) := H.out.len.symm
      go_enter Tryz.func26, Tryz.ntmps26
      go_wp2_with (first
        | (go_at_call 43; refine (row_1 H.out).mono ?_; rintro e w1 ⟨rfl, rfl⟩; rw [L.out])
        | (go_at_call 44; refine (rput_any H.out.r1 (by rw [H.out.len]; exact H.out.n2) _ _).mono ?_; rintro e w1 ⟨rfl, hc, ho⟩))
      go_ret
      exact ⟨rfl, by rw [if_neg (by decide), if_pos rfl]; exact H.out.put1 (putL_len _ _ _) ho hc, Og.of ho H.out.b1⟩
theorem get_any (h : Qp w lo hi qb g0 g1 l0 l1) (p f : Int) : Calls Tryz.prog 46 #[.pointer (some ⟨qb, 0, none⟩), .int .i64 p, .int .i64 f] w fun e w' => e = .returned (.tuple #[.int .u16 (getP (sel p l0 l1) f).1, .bool (getP (sel p l0 l1) f).2]) ∧ w' = w := by
  by_cases hp : p < 0 ∨ 1 < p
  · rw [sel_no hp, getP_nil]
    exact get_no _ w p f hp
  · have H := hid_into h
    have L : Hid (l0.length = l1.length) := H.out.len.symm
    clear h
    by_cases h0 : p = 0
    · subst h0
      clear hp
      have hs : sel 0 l0 l1 = l0 := rfl
      rw [hs]
      clear hs
      go_enter Tryz.func46, Tryz.ntmps46
      go_wp2_with (first
        | (go_at_call 43; refine (row_0 H.out).mono ?_; rintro e w1 ⟨rfl, rfl⟩)
        | (go_at_call 59; refine (rget_any H.out.r0 H.out.n2 _).mono ?_; rintro e w1 ⟨rfl, rfl⟩))
      go_ret2
      exact ⟨rfl, rfl⟩
    · obtain rfl : p = 1 := by omega
      clear hp h0
      have hs : sel 1 l0 l1 = l1 := rfl
      rw [hs]
      clear hs
      go_enter Tryz.func46, Tryz.ntmps46
      go_wp2_with (first
        | (go_at_call 43; refine (row_1 H.out).mono ?_; rintro e w1 ⟨rfl, rfl⟩; rw [L.out])
        | (go_at_call 59; refine (rget_any H.out.r1 (by rw [H.out.len]; exact H.out.n2) _).mono ?_; rintro e w1 ⟨rfl, rfl⟩))
      go_ret2
      exact ⟨rfl, rfl⟩
theorem known_any' (h : Qp w lo hi qb g0 g1 l0 l1) (p : Int) : Calls Tryz.prog 36 #[.pointer (some ⟨qb, 0, none⟩), .int .i64 p] w fun e w' => e = .returned (.int .i64 (kn (sel p l0 l1) : Int)) ∧ w' = w := by
  by_cases hp : p < 0 ∨ 1 < p
  · rw [sel_no hp]
    exact known_no _ w p hp
  · have H := hid_into h
    have L : Hid (l0.length = l1.length) := H.out.len.symm
    clear h
    by_cases h0 : p = 0
    · subst h0
      clear hp
      have hs : sel 0 l0 l1 = l0 := rfl
      rw [hs]
      clear hs
      go_enter Tryz.func36, Tryz.ntmps36
      go_wp2_with (first
        | (go_at_call 43; refine (row_0 H.out).mono ?_; rintro e w1 ⟨rfl, rfl⟩)
        | (go_at_call 51; refine (rknown_any H.out.r0 H.out.n2).mono ?_; rintro e w1 ⟨rfl, rfl⟩))
      go_ret
      exact ⟨rfl, rfl⟩
    · obtain rfl : p = 1 := by omega
      clear hp h0
      have hs : sel 1 l0 l1 = l1 := rfl
      rw [hs]
      clear hs
      go_enter Tryz.func36, Tryz.ntmps36
      go_wp2_with (first
        | (go_at_call 43; refine (row_1 H.out).mono ?_; rintro e w1 ⟨rfl, rfl⟩; rw [L.out])
        | (go_at_call 51; refine (rknown_any H.out.r1 (by rw [H.out.len]; exact H.out.n2)).mono ?_; rintro e w1 ⟨rfl, rfl⟩))
      go_ret
      exact ⟨rfl, rfl⟩
/-- A method value. -/
theorem enters14 : ∀ args w, (callFunc 36 args).run Tryz.prog w = .ok (.enter 36 args) w := enters_of Tryz.func36 (by kernel_rfl) rfl
theorem both_any (h : Qp w lo hi qb g0 g1 l0 l1) : Calls Tryz.prog 50 #[.func (.func 36) #[.pointer (some ⟨qb, 0, none⟩)] #[]] w fun e w' => e = .returned (.tuple #[.int .i64 (kn l0 : Int), .int .i64 (kn l1 : Int)]) ∧ w' = w := by
  have C0 := known_any' h 0
  have C1 := known_any' h 1
  rw [show sel 0 l0 l1 = l0 from rfl] at C0
  rw [show sel 1 l0 l1 = l1 from rfl] at C1
  have H0 := hid_into C0
  have H1 := hid_into C1
  clear C0 C1 h
  have en := enters14
  go_enter Tryz.func50, Tryz.ntmps50
  go_wp2_with fail
  refine H0.out.mono ?_
  rintro e w1 ⟨rfl, rfl⟩
  go_wp2_with fail
  refine H1.out.mono ?_
  rintro e w2 ⟨rfl, rfl⟩
  go_wp2_with fail
  go_ret2
  exact ⟨rfl, rfl⟩
theorem both_nil (w : World) : Calls Tryz.prog 50 #[.func (.func 36) #[.pointer none] #[]] w fun e w' => e = .returned (.tuple #[.int .i64 0, .int .i64 0]) ∧ w' = w := by
  have en := enters14
  go_enter Tryz.func50, Tryz.ntmps50
  go_wp2_with fail
  refine (known_nil _ _).mono ?_
  rintro e w1 ⟨rfl, rfl⟩
  go_wp2_with fail
  refine (known_nil _ _).mono ?_
  rintro e w2 ⟨rfl, rfl⟩
  go_wp2_with fail
  go_ret2
  exact ⟨rfl, rfl⟩
theorem Both_nil (w : World) : Calls Tryz.prog 35 #[.pointer none] w fun e w' => e = .returned (.int .i64 0) ∧ w' = w := by
  go_enter Tryz.func35, Tryz.ntmps35
  go_wp2_with (go_at_call 50; refine (both_nil _).mono ?_; rintro e w1 ⟨rfl, rfl⟩)
  go_ret
  exact ⟨rfl, rfl⟩
theorem Both_any (h : Qp w lo hi qb g0 g1 l0 l1) : Calls Tryz.prog 35 #[.pointer (some ⟨qb, 0, none⟩)] w fun e w' => e = .returned (.int .i64 ((min (kn l0) (kn l1) : Nat) : Int)) ∧ w' = w := by
  have H := hid_into h
  clear h
  generalize hA : kn l0 = A
  generalize hC : kn l1 = C
  have HA := hid_into hA
  have HC := hid_into hC
  clear hA hC
  by_cases e : (C : Int) < (A : Int)
  · rw [Nat.min_eq_right (by omega)]
    go_enter Tryz.func35, Tryz.ntmps35
    go_wp2_with (go_at_call 50; refine (both_any H.out).mono ?_; rintro e w1 ⟨rfl, rfl⟩; rw [HA.out, HC.out])
    go_ret
    exact ⟨rfl, rfl⟩
  · rw [Nat.min_eq_left (by omega)]
    go_enter Tryz.func35, Tryz.ntmps35
    go_wp2_with (go_at_call 50; refine (both_any H.out).mono ?_; rintro e w1 ⟨rfl, rfl⟩; rw [HA.out, HC.out])
    go_ret
    exact ⟨rfl, rfl⟩
end
end Go.Proofs.YtbfldcieibdapabGreat.In
end
