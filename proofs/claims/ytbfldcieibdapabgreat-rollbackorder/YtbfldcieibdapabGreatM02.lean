/-
  Joined from: Arith, Mach, Reckon.
-/
import Derived.Test.YtbfldcieibdapabGreatM01
import Derived.Handy
import Derived.Laws.BitsAllLaws
import Derived.LoopN
section
/-
  The numbers of chapter 8 in plain words (heldI, quoI); sum, difference, product, quotient, hold, and the document's held.
-/
namespace Go.Proofs.YtbfldcieibdapabGreat
open Go.RowKit
/-- A number of 32 digits (of two). -/
def In32 (a : Int) : Prop := -2147483648 ≤ a ∧ a ≤ 2147483647
def heldI (n : Int) : Int := if n < -2147483648 then -2147483648 else if 2147483647 < n then 2147483647 else n
def quoI (a b : Int) : Int := if b = 0 then (if 0 < a then 2147483647 else if a < 0 then -2147483648 else 0) else (a * 65536).tdiv b
theorem heldI_in (n : Int) : In32 (heldI n) := by unfold heldI In32; split <;> (try split) <;> omega
theorem mul_in {a b : Int} (ha : In32 a) (hb : In32 b) : -4611686018427387904 ≤ a * b ∧ a * b ≤ 4611686018427387904 := by
  have h : (a * b).natAbs ≤ 2147483648 * 2147483648 := by
    rw [Int.natAbs_mul]
    exact Nat.mul_le_mul (by have := ha.1; have := ha.2; omega) (by have := hb.1; have := hb.2; omega)
  omega
theorem tdiv_in {n b : Int} {m : Nat} (h : n.natAbs ≤ m) : (n.tdiv b).natAbs ≤ m := by
  rw [Int.natAbs_tdiv]; exact Nat.le_trans (Nat.div_le_self _ _) h
theorem sum_any (a b : Int) (ha : In32 a) (hb : In32 b) (w : World) : Calls Tryz.prog 137 #[.int .i64 a, .int .i64 b] w fun e w' => e = .returned (.int .i64 (a + b)) ∧ w' = w := by
  have h1 := ha.1; have h2 := ha.2; have h3 := hb.1; have h4 := hb.2
  have e : wrap64 (a + b) = a + b := by unfold wrap64; omega
  go_enter Tryz.func137, Tryz.ntmps137
  go_wp2
  go_ret
  exact ⟨by rfl, rfl⟩
theorem difference_any (a b : Int) (ha : In32 a) (hb : In32 b) (w : World) : Calls Tryz.prog 138 #[.int .i64 a, .int .i64 b] w fun e w' => e = .returned (.int .i64 (a - b)) ∧ w' = w := by
  have h1 := ha.1; have h2 := ha.2; have h3 := hb.1; have h4 := hb.2
  have e : wrap64 (a - b) = a - b := by unfold wrap64; omega
  go_enter Tryz.func138, Tryz.ntmps138
  go_wp2
  go_ret
  exact ⟨by rfl, rfl⟩
theorem product_any (a b : Int) (ha : In32 a) (hb : In32 b) (w : World) : Calls Tryz.prog 139 #[.int .i64 a, .int .i64 b] w fun e w' => e = .returned (.int .i64 (a * b / 65536)) ∧ w' = w := by
  obtain ⟨h1, h2⟩ := mul_in ha hb
  obtain ⟨p, hp⟩ : ∃ p, p = a * b := ⟨_, rfl⟩
  have e : wrap64 (a * b) = a * b := by rw [← hp] at h1 h2 ⊢; unfold wrap64; omega
  clear h1 h2 hp
  go_enter Tryz.func139, Tryz.ntmps139
  go_wp2
  go_ret
  exact ⟨by rfl, rfl⟩
theorem hold_any (n : Int) (w : World) : Calls Tryz.prog 136 #[.int .i64 n] w fun e w' => e = .returned (.int .i32 (heldI n)) ∧ w' = w := by
  by_cases h1 : n < -2147483648
  · have e : heldI n = -2147483648 := by unfold heldI; rw [if_pos h1]
    rw [e]
    go_enter Tryz.func136, Tryz.ntmps136
    go_wp2
    go_ret
    exact ⟨by rfl, rfl⟩
  by_cases h2 : 2147483647 < n
  · have e : heldI n = 2147483647 := by unfold heldI; rw [if_neg h1, if_pos h2]
    rw [e]
    go_enter Tryz.func136, Tryz.ntmps136
    go_wp2
    go_ret
    exact ⟨by rfl, rfl⟩
  have e : heldI n = n := by unfold heldI; rw [if_neg h1, if_neg h2]
  rw [e]
  go_enter Tryz.func136, Tryz.ntmps136
  go_wp2
  go_ret
  exact ⟨by rfl, rfl⟩
theorem quotient_any (a b : Int) (ha : In32 a) (w : World) : Calls Tryz.prog 140 #[.int .i64 a, .int .i64 b] w fun e w' => e = .returned (.int .i64 (quoI a b)) ∧ w' = w := by
  have h1 := ha.1; have h2 := ha.2
  by_cases hb : b = 0
  · subst hb
    by_cases h3 : 0 < a
    · rw [show quoI a 0 = 2147483647 by unfold quoI; rw [if_pos rfl, if_pos h3]]
      go_enter Tryz.func140, Tryz.ntmps140
      go_wp2
      go_ret
      exact ⟨by rfl, rfl⟩
    by_cases h4 : a < 0
    · rw [show quoI a 0 = -2147483648 by unfold quoI; rw [if_pos rfl, if_neg h3, if_pos h4]]
      go_enter Tryz.func140, Tryz.ntmps140
      go_wp2
      go_ret
      exact ⟨by rfl, rfl⟩
    · rw [show quoI a 0 = 0 by unfold quoI; rw [if_pos rfl, if_neg h3, if_neg h4]]
      go_enter Tryz.func140, Tryz.ntmps140
      go_wp2
      go_ret
      exact ⟨by rfl, rfl⟩
  · have e : wrap64 (a * 65536) = a * 65536 := by unfold wrap64; omega
    have e2 : wrap64 ((a * 65536).tdiv b) = (a * 65536).tdiv b := by
      have := tdiv_in (n := a * 65536) (b := b) (m := 2147483648 * 65536) (by omega)
      unfold wrap64; omega
    have hne : (b != 0) = true := by simp [hb]
    have hz : (b == 0) = false := by simp [hb]
    rw [show quoI a b = (a * 65536).tdiv b by unfold quoI; rw [if_neg hb]]
    go_enter Tryz.func140, Tryz.ntmps140
    go_wp2
    go_ret
    exact ⟨congrArg (fun z => Ending.returned (Value.int .i64 z)) e2, rfl⟩
theorem held_any (n : Int) (w : World) : Calls Tryz.prog 132 #[.int .i64 n] w fun e w' => e = .returned (.int .i32 (heldI n)) ∧ w' = w := by
  by_cases h1 : n < -2147483648
  · have e : heldI n = -2147483648 := by unfold heldI; rw [if_pos h1]
    rw [e]
    go_enter Tryz.func132, Tryz.ntmps132
    go_wp2
    go_ret
    exact ⟨by rfl, rfl⟩
  by_cases h2 : 2147483647 < n
  · have e : heldI n = 2147483647 := by unfold heldI; rw [if_neg h1, if_pos h2]
    rw [e]
    go_enter Tryz.func132, Tryz.ntmps132
    go_wp2
    go_ret
    exact ⟨by rfl, rfl⟩
  have e : heldI n = n := by unfold heldI; rw [if_neg h1, if_neg h2]
  rw [e]
  go_enter Tryz.func132, Tryz.ntmps132
  go_wp2
  go_ret
  exact ⟨by rfl, rfl⟩
end Go.Proofs.YtbfldcieibdapabGreat
end

section
/-
  The machine in plain words: what an instruction does (doI), a run (runI), a frame (stepF). Plain facts; no walk.
-/
namespace Go.Proofs.YtbfldcieibdapabGreat
open Go

def truI (b : Bool) : Int := if b then 65536 else 0
/-- What is made of b and a, by the op. -/
def twoI (o b a : Int) : Int :=
  if o = 4 then heldI (b + a) else if o = 5 then heldI (b - a) else if o = 6 then heldI (b * a / 65536) else if o = 7 then heldI (quoI b a)
  else if o = 8 then (if b ≤ a then b else a) else if o = 9 then (if b < a then a else b)
  else if o = 10 then truI (decide (b < a)) else truI (decide (b = a))
/-- The next seed. -/
def rn1 (x : Int) : Int := bits .xor .u32 x (x * 8192 % 4294967296)
def rn2 (x : Int) : Int := bits .xor .u32 x (x / 131072)
def rn3 (x : Int) : Int := bits .xor .u32 x (x * 32 % 4294967296)
def rndI (x : Int) : Int := rn3 (rn2 (rn1 x))

/-- A machine: cells, seed, the stack (the upmost first), the next instruction, who won. -/
structure Mp where
  cells : List Int
  seed : Int
  st : List Int
  pc : Nat
  won : Option Int
def Mp.next (m : Mp) : Mp := { m with pc := m.pc + 1 }
def Mp.push (m : Mp) (v : Int) : Option Mp := if m.st.length < 32 then some { m with st := v :: m.st } else none
/-- An instruction; none: too few numbers, or too many. -/
def doI (fr i0 i1 : Int) (n : Nat) (x : Ii) (m : Mp) : Option Mp :=
  if x.1 = 1 then m.next.push x.2
  else if x.1 = 2 then m.next.push (m.cells.getD x.2.toNat 0)
  else if x.1 = 3 then (match m.st with | [] => none | a :: l => some { m.next with cells := m.cells.set x.2.toNat a, st := l })
  else if x.1 ≤ 11 then (match m.st with | a :: b :: l => some { m.next with st := twoI x.1 b a :: l } | _ => none)
  else if x.1 = 12 then (match m.st with | a :: l => some { m.next with st := truI (decide (a = 0)) :: l } | _ => none)
  else if x.1 = 13 then (match m.st with | a :: _ => m.next.push a | _ => none)
  else if x.1 = 14 then (match m.st with | a :: b :: l => some { m.next with st := b :: a :: l } | _ => none)
  else if x.1 = 15 then (match m.st with | _ :: l => some { m.next with st := l } | _ => none)
  else if x.1 = 16 then m.next.push (if x.2 = 0 then i0 else i1)
  else if x.1 = 17 then m.next.push fr
  else if x.1 = 18 then some { m with pc := x.2.toNat }
  else if x.1 = 19 then (match m.st with | a :: l => some { m with st := l, pc := if a = 0 then x.2.toNat else m.pc + 1 } | _ => none)
  else if x.1 = 20 then some { m with won := some x.2, pc := n }
  else if x.1 = 21 then ({ m.next with seed := rndI m.seed } : Mp).push (rndI m.seed % 65536)
  else some { m with pc := n }
/-- A run, with so much fuel; none: it fails. -/
def runI (fr i0 i1 : Int) (code : List Ii) : Nat → Mp → Option Mp
  | 0, m => if code.length ≤ m.pc then some m else none
  | f + 1, m => match code[m.pc]? with
    | none => some m
    | some x => match doI fr i0 i1 code.length x m with
      | none => none
      | some m' => runI fr i0 i1 code f m'
/-- A state. -/
structure Sp where
  frame : Int
  cells : List Int
  seed : Int
  over : Bool
  win : Int
def moreI (a b : Int) : Int := if a = b then 2 else if a < b then 1 else 0
def endS (cap : Int) (s : Sp) : Sp :=
  if s.frame + 1 = cap ∧ s.over = false then { s with frame := s.frame + 1, over := true, win := moreI (s.cells.getD 0 0) (s.cells.getD 1 0) }
  else { s with frame := s.frame + 1 }
def ranS (s : Sp) : Option Mp → Sp
  | none => s
  | some m => match m.won with
    | none => { s with cells := m.cells, seed := m.seed }
    | some a => { s with cells := m.cells, seed := m.seed, over := true, win := a }
def isS (s : Sp) : Bool := decide (0 ≤ s.frame ∧ s.frame ≤ 600 ∧ 0 ≤ s.win ∧ s.win ≤ 2 ∧ (s.over = true ∨ s.win = 0))
def chkG (code : List Ii) (cap fuel : Int) : Int :=
  if (chk code).2 ≠ 0 then (chk code).2 else if cap < 1 ∨ 600 < cap ∨ fuel < 1 ∨ 2000 < fuel then 1 else 0
def stepE (code : List Ii) (cap fuel : Int) (s : Sp) : Int :=
  if chkG code cap fuel ≠ 0 then chkG code cap fuel else if isS s = false ∨ s.seed = 0 then 1 else if s.over = true ∨ cap ≤ s.frame then 12 else 0
def zeros : List Int := [0, 0, 0, 0, 0, 0, 0, 0, 0, 0, 0, 0, 0, 0, 0, 0]
def noS : Sp := ⟨0, zeros, 0, false, 0⟩
def startM (s : Sp) : Mp := ⟨s.cells, s.seed, [], 0, none⟩
def stepS (code : List Ii) (cap fuel : Int) (s : Sp) (i0 i1 : Int) : Sp := endS cap (ranS s (runI s.frame i0 i1 code fuel.toNat (startM s)))
def stepF (code : List Ii) (cap fuel : Int) (s : Sp) (i0 i1 : Int) : Sp × Int :=
  if stepE code cap fuel s = 0 then (stepS code cap fuel s i0 i1, 0) else (noS, stepE code cap fuel s)

/-- The program's machine: its stack is an array, of which so many count. -/
structure Pm where
  cells : List Int
  seed : Int
  over : Bool
  win : Int
  stk : List Int
  high : Nat
  pc : Int
  err : Int
def Pm.lay (p : Pm) (v : Int) : Pm := if p.high = 32 then { p with err := 11 } else { p with stk := p.stk.set p.high v, high := p.high + 1 }
def Pm.take (p : Pm) : Pm := if p.high = 0 then { p with err := 11 } else { p with high := p.high - 1 }
def Pm.top (p : Pm) : Int := if p.high = 0 then 0 else p.stk.getD (p.high - 1) 0
def Pm.join (p : Pm) (o : Int) : Pm := p.take.take.lay (twoI o p.take.top p.top)
/-- What an instruction makes of it. -/
def opP (fr i0 i1 : Int) (n : Nat) (x : Ii) (p : Pm) : Pm :=
  if x.1 = 1 then p.lay x.2
  else if x.1 = 2 then p.lay (p.cells.getD x.2.toNat 0)
  else if x.1 = 3 then { p.take with cells := p.cells.set x.2.toNat p.top }
  else if x.1 ≤ 11 then p.join x.1
  else if x.1 = 12 then p.take.lay (truI (decide (p.top = 0)))
  else if x.1 = 13 then (p.take.lay p.top).lay p.top
  else if x.1 = 14 then (p.take.take.lay p.top).lay p.take.top
  else if x.1 = 15 then p.take
  else if x.1 = 16 then p.lay (if x.2 = 0 then i0 else i1)
  else if x.1 = 17 then p.lay fr
  else if x.1 = 18 then { p with pc := x.2 }
  else if x.1 = 19 then (if p.top = 0 then { p.take with pc := x.2 } else p.take)
  else if x.1 = 20 then { p with over := true, win := x.2, pc := n }
  else if x.1 = 21 then ({ p with seed := rndI p.seed } : Pm).lay (rndI p.seed % 65536)
  else { p with pc := n }
/-- Numbers where they should be. -/
structure Pm.Wf (p : Pm) : Prop where
  cells : p.cells.length = 16
  cin : ∀ x ∈ p.cells, In32 x
  stk : p.stk.length = 32
  sin : ∀ x ∈ p.stk, In32 x
  high : p.high ≤ 32
  seed : 0 ≤ p.seed ∧ p.seed < 4294967296

theorem twoI_in {o b a : Int} (hb : In32 b) (ha : In32 a) : In32 (twoI o b a) := by
  unfold twoI truI
  repeat' split
  all_goals first | exact heldI_in _ | assumption | (unfold In32; omega)
theorem truI_in (b : Bool) : In32 (truI b) := by unfold truI In32; split <;> omega
theorem zero_in : In32 0 := by unfold In32; omega
theorem getD_in {l : List Int} (h : ∀ x ∈ l, In32 x) (i : Nat) : In32 (l.getD i 0) := by
  rw [List.getD]
  cases e : l[i]? with
  | none => exact zero_in
  | some x => exact h x (List.mem_of_getElem? e)
theorem set_in {l : List Int} (h : ∀ x ∈ l, In32 x) (i : Nat) {v : Int} (hv : In32 v) : ∀ x ∈ l.set i v, In32 x := by
  intro x hx
  rcases List.mem_or_eq_of_mem_set hx with h1 | rfl
  · exact h x h1
  · exact hv
theorem Pm.Wf.top {p : Pm} (h : p.Wf) : In32 p.top := by
  unfold Pm.top
  split
  · exact zero_in
  · exact getD_in h.sin _
theorem Pm.Wf.lay {p : Pm} (h : p.Wf) {v : Int} (hv : In32 v) : (p.lay v).Wf := by
  unfold Pm.lay
  split
  · exact ⟨h.cells, h.cin, h.stk, h.sin, h.high, h.seed⟩
  · exact ⟨h.cells, h.cin, by simpa using h.stk, set_in h.sin _ hv, by have := h.high; show p.high + 1 ≤ 32; omega, h.seed⟩
theorem Pm.Wf.take {p : Pm} (h : p.Wf) : p.take.Wf := by
  unfold Pm.take
  split
  · exact ⟨h.cells, h.cin, h.stk, h.sin, h.high, h.seed⟩
  · exact ⟨h.cells, h.cin, h.stk, h.sin, by have := h.high; show p.high - 1 ≤ 32; omega, h.seed⟩
theorem xor_lt (x y : Int) (hx : 0 ≤ x ∧ x < 4294967296) (hy : 0 ≤ y ∧ y < 4294967296) : 0 ≤ bits .xor .u32 x y ∧ bits .xor .u32 x y < 4294967296 ∧ (bits .xor .u32 x y = 0 → x = y) := by
  obtain ⟨a, rfl⟩ := Int.eq_ofNat_of_zero_le hx.1
  obtain ⟨b, rfl⟩ := Int.eq_ofNat_of_zero_le hy.1
  have ha : a < 4294967296 := by omega
  have hb : b < 4294967296 := by omega
  rw [u32_xor_nat a b ha hb]
  have hlt : a ^^^ b < 2 ^ 32 := Nat.xor_lt_two_pow (by simpa using ha) (by simpa using hb)
  refine ⟨by omega, by omega, fun h => ?_⟩
  have h0 : a ^^^ b = 0 := by omega
  have : a = b := by
    have h1 : (a ^^^ b) ^^^ b = 0 ^^^ b := by rw [h0]
    rwa [Nat.xor_assoc, Nat.xor_self, Nat.xor_zero, Nat.zero_xor] at h1
  rw [this]
theorem rn1_in {x : Int} (h : 0 ≤ x ∧ x < 4294967296) : 0 ≤ rn1 x ∧ rn1 x < 4294967296 ∧ (rn1 x = 0 → x = 0) := by
  have := xor_lt x (x * 8192 % 4294967296) h ⟨by omega, by omega⟩
  exact ⟨this.1, this.2.1, fun e => by have := this.2.2 e; omega⟩
theorem rn2_in {x : Int} (h : 0 ≤ x ∧ x < 4294967296) : 0 ≤ rn2 x ∧ rn2 x < 4294967296 ∧ (rn2 x = 0 → x = 0) := by
  have := xor_lt x (x / 131072) h ⟨by omega, by omega⟩
  exact ⟨this.1, this.2.1, fun e => by have := this.2.2 e; omega⟩
theorem rn3_in {x : Int} (h : 0 ≤ x ∧ x < 4294967296) : 0 ≤ rn3 x ∧ rn3 x < 4294967296 ∧ (rn3 x = 0 → x = 0) := by
  have := xor_lt x (x * 32 % 4294967296) h ⟨by omega, by omega⟩
  exact ⟨this.1, this.2.1, fun e => by have := this.2.2 e; omega⟩
theorem rndI_in {x : Int} (h : 0 ≤ x ∧ x < 4294967296) : 0 ≤ rndI x ∧ rndI x < 4294967296 := by
  have h1 := rn1_in h
  have h2 := rn2_in ⟨h1.1, h1.2.1⟩
  have h3 := rn3_in ⟨h2.1, h2.2.1⟩
  exact ⟨h3.1, h3.2.1⟩
theorem rndI_ne {x : Int} (h : 0 ≤ x ∧ x < 4294967296) (hx : x ≠ 0) : rndI x ≠ 0 := by
  have h1 := rn1_in h
  have h2 := rn2_in ⟨h1.1, h1.2.1⟩
  have h3 := rn3_in ⟨h2.1, h2.2.1⟩
  exact fun e => hx (h1.2.2 (h2.2.2 (h3.2.2 e)))
/-- What is asked of the numbers beside the machine. -/
structure Ins3 (fr i0 i1 : Int) : Prop where
  fr : 0 ≤ fr ∧ fr ≤ 600
  i0 : 0 ≤ i0 ∧ i0 < 65536
  i1 : 0 ≤ i1 ∧ i1 < 65536
theorem op_cases {x : Ii} {n : Int} (h : mayI x n = true) {P : Ii → Prop} (H : ∀ k : Nat, 1 ≤ k → k ≤ 22 → ∀ a, x = ((k : Int), a) → P ((k : Int), a)) : P x := by
  obtain ⟨o, a⟩ := x
  have h1 := mayI_op h
  simp only at h1
  obtain ⟨k, rfl⟩ := Int.eq_ofNat_of_zero_le (show 0 ≤ o by omega)
  exact H k (by omega) (by omega) a rfl
theorem opP_wf {fr i0 i1 : Int} {n : Nat} {x : Ii} {p : Pm} (h : p.Wf) (hx : mayI x n = true) (hn : n ≤ 256) (hi : Ins3 fr i0 i1) : (opP fr i0 i1 n x p).Wf := by
  have h1 := mayI_arg hx (by omega)
  have hfr : In32 fr := by have := hi.fr; unfold In32; omega
  have h0 : In32 i0 := by have := hi.i0; unfold In32; omega
  have h1' : In32 i1 := by have := hi.i1; unfold In32; omega
  revert h1
  refine op_cases hx (P := fun x => In32 x.2 → (opP fr i0 i1 n x p).Wf) ?_
  intro k k1 k2 a _ h1
  have hj : ∀ o : Int, (p.join o).Wf := fun o => h.take.take.lay (twoI_in h.take.top h.top)
  match k, k1, k2 with
  | 1, _, _ => exact h.lay h1
  | 2, _, _ => exact h.lay (getD_in h.cin _)
  | 3, _, _ =>
    show Pm.Wf { p.take with cells := p.cells.set a.toNat p.top }
    exact ⟨by simpa using h.cells, set_in h.cin _ h.top, h.take.stk, h.take.sin, h.take.high, h.take.seed⟩
  | 4, _, _ => exact hj 4
  | 5, _, _ => exact hj 5
  | 6, _, _ => exact hj 6
  | 7, _, _ => exact hj 7
  | 8, _, _ => exact hj 8
  | 9, _, _ => exact hj 9
  | 10, _, _ => exact hj 10
  | 11, _, _ => exact hj 11
  | 12, _, _ => exact h.take.lay (truI_in _)
  | 13, _, _ => exact (h.take.lay h.top).lay h.top
  | 14, _, _ => exact (h.take.take.lay h.top).lay h.take.top
  | 15, _, _ => exact h.take
  | 16, _, _ => exact h.lay (by show In32 (if a = 0 then i0 else i1); split <;> assumption)
  | 17, _, _ => exact h.lay hfr
  | 18, _, _ => exact ⟨h.cells, h.cin, h.stk, h.sin, h.high, h.seed⟩
  | 19, _, _ =>
    show Pm.Wf (if p.top = 0 then { p.take with pc := a } else p.take)
    split
    · exact ⟨h.take.cells, h.take.cin, h.take.stk, h.take.sin, h.take.high, h.take.seed⟩
    · exact h.take
  | 20, _, _ => exact ⟨h.cells, h.cin, h.stk, h.sin, h.high, h.seed⟩
  | 21, _, _ =>
    show Pm.Wf (({ p with seed := rndI p.seed } : Pm).lay (rndI p.seed % 65536))
    have hs := rndI_in h.seed
    generalize rndI p.seed = y at hs
    have hw : Pm.Wf { p with seed := y } := ⟨h.cells, h.cin, h.stk, h.sin, h.high, hs⟩
    exact hw.lay (v := y % 65536) ⟨by omega, by omega⟩
  | 22, _, _ => exact ⟨h.cells, h.cin, h.stk, h.sin, h.high, h.seed⟩
  | 0, h, _ => exact absurd h (by omega)
  | k + 23, _, h => exact absurd h (by omega)

/-- The program's machine p is the plain one m. -/
structure Rep (p : Pm) (m : Mp) : Prop where
  cells : p.cells = m.cells
  seed : p.seed = m.seed
  over : p.over = m.won.isSome
  win : p.win = m.won.getD 0
  st : m.st = (p.stk.take p.high).reverse
  pc : p.pc = m.pc
  err : p.err = 0
theorem Rep.len {p : Pm} {m : Mp} (h : Rep p m) (hw : p.Wf) : m.st.length = p.high := by
  rw [h.st, List.length_reverse, List.length_take, hw.stk]
  have := hw.high
  omega
theorem take_succ_rev {l : List Int} {k : Nat} (hk : k < l.length) : (l.take (k + 1)).reverse = l.getD k 0 :: (l.take k).reverse := by
  rw [List.take_add_one, List.getD, List.getElem?_eq_getElem hk]
  simp
/-- Whatever goes wrong stays so. -/
theorem Pm.err_lay {p : Pm} {v : Int} (h : p.err ≠ 0) : (p.lay v).err ≠ 0 := by
  unfold Pm.lay
  split
  · show (11 : Int) ≠ 0; omega
  · exact h
theorem Pm.err_take {p : Pm} (h : p.err ≠ 0) : p.take.err ≠ 0 := by
  unfold Pm.take
  split
  · show (11 : Int) ≠ 0; omega
  · exact h
theorem Rep.lay {p : Pm} {m : Mp} (h : Rep p m) (hw : p.Wf) (v : Int) : (∃ m', m.push v = some m' ∧ Rep (p.lay v) m') ∨ (m.push v = none ∧ (p.lay v).err ≠ 0) := by
  have hl := h.len hw
  have hh := hw.high
  unfold Mp.push Pm.lay
  by_cases e : p.high = 32
  · right
    rw [if_neg (by omega), if_pos e]
    exact ⟨rfl, by show (11 : Int) ≠ 0; omega⟩
  · left
    rw [if_pos (by omega), if_neg e]
    refine ⟨_, rfl, ⟨h.cells, h.seed, h.over, h.win, ?_, h.pc, h.err⟩⟩
    show v :: m.st = ((p.stk.set p.high v).take (p.high + 1)).reverse
    rw [take_succ_rev (by rw [List.length_set, hw.stk]; omega), List.take_set_of_le (Nat.le_refl _), ← h.st, List.getD, List.getElem?_set_self (by rw [hw.stk]; omega)]
    rfl
theorem Rep.take {p : Pm} {m : Mp} (h : Rep p m) (hw : p.Wf) : (∃ a l, m.st = a :: l ∧ p.top = a ∧ Rep p.take { m with st := l }) ∨ (m.st = [] ∧ p.take.err ≠ 0) := by
  have hl := h.len hw
  have hh := hw.high
  unfold Pm.take Pm.top
  by_cases e : p.high = 0
  · right
    rw [if_pos e]
    exact ⟨List.eq_nil_of_length_eq_zero (by omega), by show (11 : Int) ≠ 0; omega⟩
  · left
    obtain ⟨k, hk⟩ : ∃ k, p.high = k + 1 := ⟨p.high - 1, by omega⟩
    have e2 : m.st = p.stk.getD k 0 :: (p.stk.take k).reverse := by rw [h.st, hk, take_succ_rev (by rw [hw.stk]; omega)]
    rw [if_neg e, if_neg e, hk, Nat.add_sub_cancel]
    exact ⟨_, _, e2, rfl, ⟨h.cells, h.seed, h.over, h.win, rfl, h.pc, h.err⟩⟩
/-- A run's two ways: they agree, or both fail. -/
def Agree (p : Pm) (r : Option Mp) : Prop := (∃ m, r = some m ∧ Rep p m) ∨ (r = none ∧ p.err ≠ 0)
theorem Rep.lays {p : Pm} {m : Mp} (h : Rep p m) (hw : p.Wf) (v : Int) : Agree (p.lay v) (m.push v) := h.lay hw v
theorem Rep.pcs {p : Pm} {m : Mp} (h : Rep p m) (k : Int) (j : Nat) (e : k = j) : Rep { p with pc := k } { m with pc := j } := ⟨h.cells, h.seed, h.over, h.win, h.st, e, h.err⟩
theorem Rep.join {p : Pm} {m : Mp} (h : Rep p m) (hw : p.Wf) (o : Int) : Agree (p.join o) (match m.st with | a :: b :: l => some { m with st := twoI o b a :: l } | _ => none) := by
  unfold Pm.join
  rcases h.take hw with ⟨a, l, e1, e2, h1⟩ | ⟨e1, e2⟩
  · rw [e1]
    rcases h1.take hw.take with ⟨b, l2, e3, e4, h2⟩ | ⟨e3, e4⟩
    · simp only at e3
      subst e3
      rw [e2, e4]
      have hl := h.len hw
      have hh := hw.high
      rcases h2.lay hw.take.take (twoI o b a) with ⟨m', e5, h3⟩ | ⟨e5, _⟩
      · left
        refine ⟨_, rfl, ?_⟩
        unfold Mp.push at e5
        split at e5
        · obtain rfl := Option.some.inj e5
          exact h3
        · cases e5
      · exfalso
        unfold Mp.push at e5
        rw [if_pos] at e5
        · cases e5
        · rw [e1] at hl; simp at hl; simp; omega
    · simp only at e3
      subst e3
      exact Or.inr ⟨rfl, Pm.err_lay e4⟩
  · rw [e1]
    exact Or.inr ⟨rfl, Pm.err_lay (Pm.err_take e2)⟩
theorem push_room {m : Mp} (h : m.st.length < 32) (v : Int) : m.push v = some { m with st := v :: m.st } := if_pos h
theorem opP_agrees {fr i0 i1 : Int} {n : Nat} {x : Ii} {p : Pm} {m : Mp} (h : Rep { p with pc := p.pc - 1 } m) (hw : p.Wf) (hx : mayI x n = true) : Agree (opP fr i0 i1 n x p) (doI fr i0 i1 n x m) := by
  have hn : Rep p m.next := ⟨h.cells, h.seed, h.over, h.win, h.st, by have := h.pc; simp only at this; show p.pc = ((m.pc + 1 : Nat) : Int); omega, h.err⟩
  have hst : m.next.st = m.st := rfl
  revert hx
  intro hx
  have hxx := hx
  revert hxx
  refine op_cases hx (P := fun x => mayI x n = true → Agree (opP fr i0 i1 n x p) (doI fr i0 i1 n x m)) ?_
  intro k k1 k2 a _ hm
  match k, k1, k2 with
  | 1, _, _ => exact hn.lays hw _
  | 2, _, _ =>
    show Agree (p.lay (p.cells.getD a.toNat 0)) (m.next.push (m.cells.getD a.toNat 0))
    have e : p.cells = m.cells := h.cells
    rw [e]
    exact hn.lays hw _
  | 3, _, _ =>
    show Agree { p.take with cells := p.cells.set a.toNat p.top } (match m.st with | [] => none | b :: l => some { m.next with cells := m.cells.set a.toNat b, st := l })
    rcases hn.take hw with ⟨b, l, e1, e2, h1⟩ | ⟨e1, e2⟩
    · rw [hst] at e1
      rw [e1, e2]
      exact Or.inl ⟨_, rfl, ⟨by show p.cells.set a.toNat b = m.cells.set a.toNat b; rw [show p.cells = m.cells from h.cells], h1.seed, h1.over, h1.win, h1.st, h1.pc, h1.err⟩⟩
    · rw [hst] at e1
      rw [e1]
      exact Or.inr ⟨rfl, e2⟩
  | 4, _, _ => exact hn.join hw 4
  | 5, _, _ => exact hn.join hw 5
  | 6, _, _ => exact hn.join hw 6
  | 7, _, _ => exact hn.join hw 7
  | 8, _, _ => exact hn.join hw 8
  | 9, _, _ => exact hn.join hw 9
  | 10, _, _ => exact hn.join hw 10
  | 11, _, _ => exact hn.join hw 11
  | 12, _, _ =>
    show Agree (p.take.lay (truI (decide (p.top = 0)))) (match m.st with | a :: l => some { m.next with st := truI (decide (a = 0)) :: l } | _ => none)
    rcases hn.take hw with ⟨b, l, e1, e2, h1⟩ | ⟨e1, e2⟩
    · rw [hst] at e1
      rw [e1, e2]
      have hl := hn.len hw
      rw [hst, e1] at hl
      have := hw.high
      have hr := h1.lays hw.take (truI (decide (b = 0)))
      rw [push_room (by simp at hl ⊢; omega)] at hr
      exact hr
    · rw [hst] at e1
      rw [e1]
      exact Or.inr ⟨rfl, Pm.err_lay e2⟩
  | 13, _, _ =>
    show Agree ((p.take.lay p.top).lay p.top) (match m.st with | a :: _ => m.next.push a | _ => none)
    rcases hn.take hw with ⟨b, l, e1, e2, h1⟩ | ⟨e1, e2⟩
    · rw [hst] at e1
      rw [e1, e2]
      have hl := hn.len hw
      rw [hst, e1] at hl
      have := hw.high
      rcases h1.lay hw.take b with ⟨m', e3, h2⟩ | ⟨e3, _⟩
      · rw [push_room (by simp at hl ⊢; omega)] at e3
        obtain rfl := Option.some.inj e3
        have hr := h2.lays (hw.take.lay (by rw [← e2]; exact hw.top)) b
        rw [show ({ m.next with st := b :: l } : Mp) = m.next by rw [← e1]; rfl] at hr
        exact hr
      · rw [push_room (by simp at hl ⊢; omega)] at e3
        cases e3
    · rw [hst] at e1
      rw [e1]
      exact Or.inr ⟨rfl, Pm.err_lay (Pm.err_lay e2)⟩
  | 14, _, _ =>
    show Agree ((p.take.take.lay p.top).lay p.take.top) (match m.st with | a :: b :: l => some { m.next with st := b :: a :: l } | _ => none)
    rcases hn.take hw with ⟨b, l, e1, e2, h1⟩ | ⟨e1, e2⟩
    · rw [hst] at e1
      have hl := hn.len hw
      rw [hst, e1] at hl
      have := hw.high
      rw [e1, e2]
      rcases h1.take hw.take with ⟨c, l2, e3, e4, h2⟩ | ⟨e3, e4⟩
      · simp only at e3
        subst e3
        rw [e4]
        rcases h2.lay hw.take.take b with ⟨m', e5, h3⟩ | ⟨e5, _⟩
        · rw [push_room (by simp at hl ⊢; omega)] at e5
          obtain rfl := Option.some.inj e5
          have hr := h3.lays (hw.take.take.lay (by rw [← e2]; exact hw.top)) c
          rw [push_room (by simp at hl ⊢; omega)] at hr
          exact hr
        · rw [push_room (by simp at hl ⊢; omega)] at e5
          cases e5
      · simp only at e3
        subst e3
        exact Or.inr ⟨rfl, Pm.err_lay (Pm.err_lay e4)⟩
    · rw [hst] at e1
      rw [e1]
      exact Or.inr ⟨rfl, Pm.err_lay (Pm.err_lay (Pm.err_take e2))⟩
  | 15, _, _ =>
    show Agree p.take (match m.st with | _ :: l => some { m.next with st := l } | _ => none)
    rcases hn.take hw with ⟨b, l, e1, e2, h1⟩ | ⟨e1, e2⟩
    · rw [hst] at e1
      rw [e1]
      exact Or.inl ⟨_, rfl, h1⟩
    · rw [hst] at e1
      rw [e1]
      exact Or.inr ⟨rfl, e2⟩
  | 16, _, _ => exact hn.lays hw _
  | 17, _, _ => exact hn.lays hw _
  | 18, _, _ =>
    have ha : 0 ≤ a := by
      have h2 : decide (0 ≤ a ∧ a ≤ (n : Int)) = true := hm
      simp only [decide_eq_true_eq] at h2
      exact h2.1
    exact Or.inl ⟨_, rfl, hn.pcs a a.toNat (by omega)⟩
  | 19, _, _ =>
    have ha : 0 ≤ a := by
      have h2 : decide (0 ≤ a ∧ a ≤ (n : Int)) = true := hm
      simp only [decide_eq_true_eq] at h2
      exact h2.1
    show Agree (if p.top = 0 then { p.take with pc := a } else p.take) (match m.st with | b :: l => some { m with st := l, pc := if b = 0 then a.toNat else m.pc + 1 } | _ => none)
    rcases hn.take hw with ⟨b, l, e1, e2, h1⟩ | ⟨e1, e2⟩
    · rw [hst] at e1
      rw [e1, e2]
      by_cases hb : b = 0
      · rw [if_pos hb]
        refine Or.inl ⟨_, rfl, ?_⟩
        rw [if_pos hb]
        exact h1.pcs a a.toNat (by omega)
      · rw [if_neg hb]
        refine Or.inl ⟨_, rfl, ?_⟩
        rw [if_neg hb]
        exact h1
    · rw [hst] at e1
      rw [e1]
      refine Or.inr ⟨rfl, ?_⟩
      split
      · exact e2
      · exact e2
  | 20, _, _ => exact Or.inl ⟨_, rfl, ⟨h.cells, h.seed, rfl, rfl, h.st, rfl, h.err⟩⟩
  | 21, _, _ =>
    show Agree (({ p with seed := rndI p.seed } : Pm).lay (rndI p.seed % 65536)) (({ m.next with seed := rndI m.seed } : Mp).push (rndI m.seed % 65536))
    have e : p.seed = m.seed := h.seed
    rw [e]
    have hr : Rep ({ p with seed := rndI m.seed } : Pm) ({ m.next with seed := rndI m.seed } : Mp) := ⟨hn.cells, rfl, hn.over, hn.win, hn.st, hn.pc, hn.err⟩
    exact hr.lays ⟨hw.cells, hw.cin, hw.stk, hw.sin, hw.high, by rw [← e]; exact rndI_in hw.seed⟩ _
  | 22, _, _ => exact Or.inl ⟨_, rfl, hn.pcs n n rfl⟩
  | 0, h, _ => exact absurd h (by omega)
  | k + 23, _, h => exact absurd h (by omega)
end Go.Proofs.YtbfldcieibdapabGreat
end

section
/-
  The table of the four ways to reckon, and what reckon makes of each: Add, Sub, Mul, Div, and the document's.
-/
namespace Go.Proofs.YtbfldcieibdapabGreat
open Go.RowKit
theorem Tryz.size166 : (Tryz.prog.info? 166).map (·.size) = some 8 := by kernel_rfl
theorem Tryz.size165 : (Tryz.prog.info? 165).map (·.size) = some 2 := by kernel_rfl
def zeroR : List Value := [.string ⟨#[]⟩, .nilFunc, .string ⟨#[]⟩, .nilFunc, .string ⟨#[]⟩, .nilFunc, .string ⟨#[]⟩, .nilFunc]
def rowsR : List Value := [.string ⟨#[97, 100, 100]⟩, .func (.func 137) #[] #[], .string ⟨#[115, 117, 98]⟩, .func (.func 138) #[] #[], .string ⟨#[109, 117, 108]⟩, .func (.func 139) #[] #[], .string ⟨#[100, 105, 118]⟩, .func (.func 140) #[] #[]]
theorem Tryz.zero166 : (Tryz.prog.info? 166).bind (·.zero) = some (.agg zeroR.toArray) := by kernel_rfl
abbrev rowsV : Value := .agg #[.string ⟨#[97, 100, 100]⟩, .func (.func 137) #[] #[], .string ⟨#[115, 117, 98]⟩, .func (.func 138) #[] #[], .string ⟨#[109, 117, 108]⟩, .func (.func 139) #[] #[], .string ⟨#[100, 105, 118]⟩, .func (.func 140) #[] #[]]
theorem rows_any (w : World) : Calls Tryz.prog 135 #[] w fun e w' => e = .returned rowsV ∧ Below w.heap.size w w' := by
  obtain ⟨cs, hcs⟩ : ∃ cs, cs = rowsR := ⟨_, rfl⟩
  obtain ⟨os, hos⟩ : ∃ os, os = zeroR := ⟨_, rfl⟩
  show Calls Tryz.prog 135 #[] w fun e w' => e = .returned (.agg rowsR.toArray) ∧ Below w.heap.size w w'
  rw [← hcs]
  have HI : Hid ((Tryz.prog.info? 166).map (·.size) = some os.length) := by rw [hos]; exact Tryz.size166
  have HI2 : Hid ((Tryz.prog.info? 166).map (·.size) = some cs.length) := by rw [hcs]; exact Tryz.size166
  have HL : Hid (os.length = cs.length) := by rw [hos, hcs]; exact hid_into rfl
  have HC : Hid (∀ v ∈ cs, v.oneCell' = true) := by rw [hcs]; exact hid_into (by decide)
  have HO : Hid ((Tryz.prog.info? 166).bind (·.zero) = some (.agg os.toArray)) := by rw [hos]; exact Tryz.zero166
  have HE : Hid (rowsR = cs) := hid_into hcs.symm
  clear hcs hos
  go_enter Tryz.func135, Tryz.ntmps135
  refine wp_seq (wp_region_lit (wpList_alloc_row rfl 166 rfl os HO.out ?_))
  intro W1 hc1 B1 HS1
  refine wpList_nil ?_
  go_wp2_with (refine wpList_store_rw rfl 166 (.tmp 0) (.tmp 5) rfl w.heap.size os cs 166 rfl (congrArg (fun l : List Value => Value.agg l.toArray) HE.out) hc1 HI HL HC.out ?_; intro W2 hc2 O2)
  exact ret_row rfl rfl rfl hc2 Tryz.underlying166 rfl HI2 ⟨rfl, B1.trans (O2.below (Nat.le_refl _))⟩

theorem index0 (w : World) : (Instr.index 166 rowsV (.int .i64 0)).run Tryz.prog w = .ok (.agg #[.string ⟨#[97, 100, 100]⟩, .func (.func 137) #[] #[]]) w := by
  simp [Instr.index, run_underlying Tryz.underlying166, asIntOf, go_sem]
theorem index1 (w : World) : (Instr.index 166 rowsV (.int .i64 1)).run Tryz.prog w = .ok (.agg #[.string ⟨#[115, 117, 98]⟩, .func (.func 138) #[] #[]]) w := by
  simp [Instr.index, run_underlying Tryz.underlying166, asIntOf, go_sem]
theorem index2 (w : World) : (Instr.index 166 rowsV (.int .i64 2)).run Tryz.prog w = .ok (.agg #[.string ⟨#[109, 117, 108]⟩, .func (.func 139) #[] #[]]) w := by
  simp [Instr.index, run_underlying Tryz.underlying166, asIntOf, go_sem]
theorem index3 (w : World) : (Instr.index 166 rowsV (.int .i64 3)).run Tryz.prog w = .ok (.agg #[.string ⟨#[100, 105, 118]⟩, .func (.func 140) #[] #[]]) w := by
  simp [Instr.index, run_underlying Tryz.underlying166, asIntOf, go_sem]
set_option maxHeartbeats 1000000 in
theorem reckon_add (a b : Int) (ha : In32 a) (hb : In32 b) (w : World) : Calls Tryz.prog 133 #[.string ⟨#[97, 100, 100]⟩, .int .i32 a, .int .i32 b] w fun e w' => e = .returned (.int .i32 (heldI (a + b))) ∧ Below w.heap.size w w' := by
  have h1 := ha.1; have h2 := ha.2; have h3 := hb.1; have h4 := hb.2
  have c1 : wrap64 a = a := by unfold wrap64; omega
  have c2 : wrap64 b = b := by unfold wrap64; omega
  have i0 := index0
  go_enter Tryz.func133, Tryz.ntmps133
  go_wp2_with (go_at_call 135; refine (rows_any _).mono ?_; rintro e w1 ⟨rfl, B1⟩; have S1 := B1.size)
  refine wp_loop_rounds 2 ?_
  rw [rounds_succ]
  go_wp2_with (first
    | (refine wpList_store_rw rfl 165 (.tmp 8) (.tmp 12) rfl _ _ [.string ⟨#[97, 100, 100]⟩, .func (.func 137) #[] #[]] 165 rfl rfl (Cw.new _ [.string ⟨#[]⟩, .nilFunc] 165) (hid_into Tryz.size165) (hid_into rfl) (by simp [Value.oneCell']) ?_; intro V0 hc0 O0; have k0 := hc0.cell 0; have l0 := hc0.cell 1; simp only [List.getElem?_cons_zero, List.getElem?_cons_succ] at k0 l0; have E0 := (B1.alloc B1.size (.cells #[.string ⟨#[]⟩, .nilFunc] 165)).trans (O0.below B1.size))
    | (go_at_call 137; refine (sum_any _ _ ha hb _).mono ?_; rintro e w' ⟨rfl, rfl⟩)
    | (go_at_call 136; refine (hold_any _ _).mono ?_; rintro e w' ⟨rfl, rfl⟩))
  go_ret
  exact ⟨by rfl, E0⟩
set_option maxHeartbeats 1000000 in
theorem reckon_sub (a b : Int) (ha : In32 a) (hb : In32 b) (w : World) : Calls Tryz.prog 133 #[.string ⟨#[115, 117, 98]⟩, .int .i32 a, .int .i32 b] w fun e w' => e = .returned (.int .i32 (heldI (a - b))) ∧ Below w.heap.size w w' := by
  have h1 := ha.1; have h2 := ha.2; have h3 := hb.1; have h4 := hb.2
  have c1 : wrap64 a = a := by unfold wrap64; omega
  have c2 : wrap64 b = b := by unfold wrap64; omega
  have i0 := index0
  have i1 := index1
  go_enter Tryz.func133, Tryz.ntmps133
  go_wp2_with (go_at_call 135; refine (rows_any _).mono ?_; rintro e w1 ⟨rfl, B1⟩; have S1 := B1.size)
  refine wp_loop_rounds 3 ?_
  rw [rounds_succ]
  go_wp2_with (first
    | (refine wpList_store_rw rfl 165 (.tmp 8) (.tmp 12) rfl _ _ [.string ⟨#[97, 100, 100]⟩, .func (.func 137) #[] #[]] 165 rfl rfl (Cw.new _ [.string ⟨#[]⟩, .nilFunc] 165) (hid_into Tryz.size165) (hid_into rfl) (by simp [Value.oneCell']) ?_; intro V0 hc0 O0; have k0 := hc0.cell 0; have l0 := hc0.cell 1; simp only [List.getElem?_cons_zero, List.getElem?_cons_succ] at k0 l0; have E0 := (B1.alloc B1.size (.cells #[.string ⟨#[]⟩, .nilFunc] 165)).trans (O0.below B1.size)))
  rw [rounds_succ]
  go_wp2_with (first
    | (refine wpList_store_rw rfl 165 (.tmp 8) (.tmp 12) rfl _ _ [.string ⟨#[115, 117, 98]⟩, .func (.func 138) #[] #[]] 165 rfl rfl (Cw.new _ [.string ⟨#[]⟩, .nilFunc] 165) (hid_into Tryz.size165) (hid_into rfl) (by simp [Value.oneCell']) ?_; intro V1 hc1 O1; have k1 := hc1.cell 0; have l1 := hc1.cell 1; simp only [List.getElem?_cons_zero, List.getElem?_cons_succ] at k1 l1; have E1 := (E0.alloc E0.size (.cells #[.string ⟨#[]⟩, .nilFunc] 165)).trans (O1.below E0.size))
    | (go_at_call 138; refine (difference_any _ _ ha hb _).mono ?_; rintro e w' ⟨rfl, rfl⟩)
    | (go_at_call 136; refine (hold_any _ _).mono ?_; rintro e w' ⟨rfl, rfl⟩))
  go_ret
  exact ⟨by rfl, E1⟩
set_option maxHeartbeats 1000000 in
theorem reckon_mul (a b : Int) (ha : In32 a) (hb : In32 b) (w : World) : Calls Tryz.prog 133 #[.string ⟨#[109, 117, 108]⟩, .int .i32 a, .int .i32 b] w fun e w' => e = .returned (.int .i32 (heldI (a * b / 65536))) ∧ Below w.heap.size w w' := by
  have h1 := ha.1; have h2 := ha.2; have h3 := hb.1; have h4 := hb.2
  have c1 : wrap64 a = a := by unfold wrap64; omega
  have c2 : wrap64 b = b := by unfold wrap64; omega
  have i0 := index0
  have i1 := index1
  have i2 := index2
  go_enter Tryz.func133, Tryz.ntmps133
  go_wp2_with (go_at_call 135; refine (rows_any _).mono ?_; rintro e w1 ⟨rfl, B1⟩; have S1 := B1.size)
  refine wp_loop_rounds 4 ?_
  rw [rounds_succ]
  go_wp2_with (first
    | (refine wpList_store_rw rfl 165 (.tmp 8) (.tmp 12) rfl _ _ [.string ⟨#[97, 100, 100]⟩, .func (.func 137) #[] #[]] 165 rfl rfl (Cw.new _ [.string ⟨#[]⟩, .nilFunc] 165) (hid_into Tryz.size165) (hid_into rfl) (by simp [Value.oneCell']) ?_; intro V0 hc0 O0; have k0 := hc0.cell 0; have l0 := hc0.cell 1; simp only [List.getElem?_cons_zero, List.getElem?_cons_succ] at k0 l0; have E0 := (B1.alloc B1.size (.cells #[.string ⟨#[]⟩, .nilFunc] 165)).trans (O0.below B1.size)))
  rw [rounds_succ]
  go_wp2_with (first
    | (refine wpList_store_rw rfl 165 (.tmp 8) (.tmp 12) rfl _ _ [.string ⟨#[115, 117, 98]⟩, .func (.func 138) #[] #[]] 165 rfl rfl (Cw.new _ [.string ⟨#[]⟩, .nilFunc] 165) (hid_into Tryz.size165) (hid_into rfl) (by simp [Value.oneCell']) ?_; intro V1 hc1 O1; have k1 := hc1.cell 0; have l1 := hc1.cell 1; simp only [List.getElem?_cons_zero, List.getElem?_cons_succ] at k1 l1; have E1 := (E0.alloc E0.size (.cells #[.string ⟨#[]⟩, .nilFunc] 165)).trans (O1.below E0.size)))
  rw [rounds_succ]
  go_wp2_with (first
    | (refine wpList_store_rw rfl 165 (.tmp 8) (.tmp 12) rfl _ _ [.string ⟨#[109, 117, 108]⟩, .func (.func 139) #[] #[]] 165 rfl rfl (Cw.new _ [.string ⟨#[]⟩, .nilFunc] 165) (hid_into Tryz.size165) (hid_into rfl) (by simp [Value.oneCell']) ?_; intro V2 hc2 O2; have k2 := hc2.cell 0; have l2 := hc2.cell 1; simp only [List.getElem?_cons_zero, List.getElem?_cons_succ] at k2 l2; have E2 := (E1.alloc E1.size (.cells #[.string ⟨#[]⟩, .nilFunc] 165)).trans (O2.below E1.size))
    | (go_at_call 139; refine (product_any _ _ ha hb _).mono ?_; rintro e w' ⟨rfl, rfl⟩)
    | (go_at_call 136; refine (hold_any _ _).mono ?_; rintro e w' ⟨rfl, rfl⟩))
  go_ret
  exact ⟨by rfl, E2⟩
set_option maxHeartbeats 1000000 in
theorem reckon_div (a b : Int) (ha : In32 a) (hb : In32 b) (w : World) : Calls Tryz.prog 133 #[.string ⟨#[100, 105, 118]⟩, .int .i32 a, .int .i32 b] w fun e w' => e = .returned (.int .i32 (heldI (quoI a b))) ∧ Below w.heap.size w w' := by
  have h1 := ha.1; have h2 := ha.2; have h3 := hb.1; have h4 := hb.2
  have c1 : wrap64 a = a := by unfold wrap64; omega
  have c2 : wrap64 b = b := by unfold wrap64; omega
  have i0 := index0
  have i1 := index1
  have i2 := index2
  have i3 := index3
  go_enter Tryz.func133, Tryz.ntmps133
  go_wp2_with (go_at_call 135; refine (rows_any _).mono ?_; rintro e w1 ⟨rfl, B1⟩; have S1 := B1.size)
  refine wp_loop_rounds 5 ?_
  rw [rounds_succ]
  go_wp2_with (first
    | (refine wpList_store_rw rfl 165 (.tmp 8) (.tmp 12) rfl _ _ [.string ⟨#[97, 100, 100]⟩, .func (.func 137) #[] #[]] 165 rfl rfl (Cw.new _ [.string ⟨#[]⟩, .nilFunc] 165) (hid_into Tryz.size165) (hid_into rfl) (by simp [Value.oneCell']) ?_; intro V0 hc0 O0; have k0 := hc0.cell 0; have l0 := hc0.cell 1; simp only [List.getElem?_cons_zero, List.getElem?_cons_succ] at k0 l0; have E0 := (B1.alloc B1.size (.cells #[.string ⟨#[]⟩, .nilFunc] 165)).trans (O0.below B1.size)))
  rw [rounds_succ]
  go_wp2_with (first
    | (refine wpList_store_rw rfl 165 (.tmp 8) (.tmp 12) rfl _ _ [.string ⟨#[115, 117, 98]⟩, .func (.func 138) #[] #[]] 165 rfl rfl (Cw.new _ [.string ⟨#[]⟩, .nilFunc] 165) (hid_into Tryz.size165) (hid_into rfl) (by simp [Value.oneCell']) ?_; intro V1 hc1 O1; have k1 := hc1.cell 0; have l1 := hc1.cell 1; simp only [List.getElem?_cons_zero, List.getElem?_cons_succ] at k1 l1; have E1 := (E0.alloc E0.size (.cells #[.string ⟨#[]⟩, .nilFunc] 165)).trans (O1.below E0.size)))
  rw [rounds_succ]
  go_wp2_with (first
    | (refine wpList_store_rw rfl 165 (.tmp 8) (.tmp 12) rfl _ _ [.string ⟨#[109, 117, 108]⟩, .func (.func 139) #[] #[]] 165 rfl rfl (Cw.new _ [.string ⟨#[]⟩, .nilFunc] 165) (hid_into Tryz.size165) (hid_into rfl) (by simp [Value.oneCell']) ?_; intro V2 hc2 O2; have k2 := hc2.cell 0; have l2 := hc2.cell 1; simp only [List.getElem?_cons_zero, List.getElem?_cons_succ] at k2 l2; have E2 := (E1.alloc E1.size (.cells #[.string ⟨#[]⟩, .nilFunc] 165)).trans (O2.below E1.size)))
  rw [rounds_succ]
  go_wp2_with (first
    | (refine wpList_store_rw rfl 165 (.tmp 8) (.tmp 12) rfl _ _ [.string ⟨#[100, 105, 118]⟩, .func (.func 140) #[] #[]] 165 rfl rfl (Cw.new _ [.string ⟨#[]⟩, .nilFunc] 165) (hid_into Tryz.size165) (hid_into rfl) (by simp [Value.oneCell']) ?_; intro V3 hc3 O3; have k3 := hc3.cell 0; have l3 := hc3.cell 1; simp only [List.getElem?_cons_zero, List.getElem?_cons_succ] at k3 l3; have E3 := (E2.alloc E2.size (.cells #[.string ⟨#[]⟩, .nilFunc] 165)).trans (O3.below E2.size))
    | (go_at_call 140; refine (quotient_any _ _ ha _).mono ?_; rintro e w' ⟨rfl, rfl⟩)
    | (go_at_call 136; refine (hold_any _ _).mono ?_; rintro e w' ⟨rfl, rfl⟩))
  go_ret
  exact ⟨by rfl, E3⟩
theorem Add_any (a b : Int) (ha : In32 a) (hb : In32 b) (w : World) : Calls Tryz.prog 124 #[.int .i32 a, .int .i32 b] w fun e w' => e = .returned (.int .i32 (heldI (a + b))) ∧ Below w.heap.size w w' := by
  go_enter Tryz.func124, Tryz.ntmps124
  go_wp2_with (go_at_call 133; refine (reckon_add _ _ ha hb _).mono ?_; rintro e w1 ⟨rfl, B1⟩)
  go_ret
  exact ⟨by rfl, B1⟩
theorem Sub_any (a b : Int) (ha : In32 a) (hb : In32 b) (w : World) : Calls Tryz.prog 125 #[.int .i32 a, .int .i32 b] w fun e w' => e = .returned (.int .i32 (heldI (a - b))) ∧ Below w.heap.size w w' := by
  go_enter Tryz.func125, Tryz.ntmps125
  go_wp2_with (go_at_call 133; refine (reckon_sub _ _ ha hb _).mono ?_; rintro e w1 ⟨rfl, B1⟩)
  go_ret
  exact ⟨by rfl, B1⟩
theorem Mul_any (a b : Int) (ha : In32 a) (hb : In32 b) (w : World) : Calls Tryz.prog 126 #[.int .i32 a, .int .i32 b] w fun e w' => e = .returned (.int .i32 (heldI (a * b / 65536))) ∧ Below w.heap.size w w' := by
  go_enter Tryz.func126, Tryz.ntmps126
  go_wp2_with (go_at_call 133; refine (reckon_mul _ _ ha hb _).mono ?_; rintro e w1 ⟨rfl, B1⟩)
  go_ret
  exact ⟨by rfl, B1⟩
theorem Div_any (a b : Int) (ha : In32 a) (hb : In32 b) (w : World) : Calls Tryz.prog 127 #[.int .i32 a, .int .i32 b] w fun e w' => e = .returned (.int .i32 (heldI (quoI a b))) ∧ Below w.heap.size w w' := by
  go_enter Tryz.func127, Tryz.ntmps127
  go_wp2_with (go_at_call 133; refine (reckon_div _ _ ha hb _).mono ?_; rintro e w1 ⟨rfl, B1⟩)
  go_ret
  exact ⟨by rfl, B1⟩
end Go.Proofs.YtbfldcieibdapabGreat
end
