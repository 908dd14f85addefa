/-
  octet.Sum: what it answers, for every row of bytes.
-/
import Derived.Test.YteinhklopnlgbaaDoorSame
import Derived.Test.YteinhklopnlgbaaDoorCrc
namespace Go.Proofs.YteinhklopnlgbaaDoor
open Go.RowKit
/-- The table sumSteps lies in block 0. -/
def Tab (w : World) : Prop := ∀ i, i < 16 → w.cell? ⟨0, i, none⟩ = some (.int .u32 (stepsN.getD i 0 : Nat))
/-- Bytes. -/
def Byt (xs : List Int) : Prop := ∀ z ∈ xs, 0 ≤ z ∧ z < 256

theorem getD_mem (xs : List Int) (k : Nat) (h : k < xs.length) : xs.getD k 0 ∈ xs := by simp [List.getD, h]

set_option maxHeartbeats 800000 in
theorem sum_any (va : Value) (xs : List Int) (w : World) (ha : Bs w va xs) (hx : Byt xs) (ht : Tab w) :
    Calls Tryd.prog 33 #[va] w fun e w' => e = .returned (.int .u32 (sumOf xs : Nat)) ∧ w = w' := by
  obtain ⟨a1, c1, h1, m1⟩ := ha.len
  subst h1
  unfold maxLen at m1
  go_enter Tryd.func33, Tryd.ntmps33
  go_wp2
  go_loop [3, 8] (fun s i => ∃ (k t : Nat), k ≤ xs.length ∧ i = .int .i64 k ∧ s = .int .u32 t ∧ t < 4294967296 ∧ Hid (t = crcAll 4294967295 (xs.take k))) (fun _ i => xs.length - (intOf i).toNat)
  case atStart => exact ⟨0, 4294967295, Nat.zero_le _, rfl, rfl, by decide, rfl⟩
  case round =>
    obtain ⟨k, t, hk, rfl, rfl, ht1, HT⟩ := hrel
    by_cases hlt : k < xs.length
    · rcases ha with ⟨h0, _⟩ | ⟨_, b1, o1, d1, he1, hc1, hc2, hcell1⟩
      · subst h0; simp at hlt
      simp only [Value.slice.injEq] at he1
      obtain ⟨rfl, _, rfl⟩ := he1
      have hc := hcell1 k hlt
      clear hcell1
      obtain ⟨hx0, hx1⟩ := hx _ (getD_mem xs k hlt)
      have HN : Hid (xs.take (k + 1) = xs.take k ++ [xs.getD k 0]) := take_snoc xs k hlt
      generalize xs.getD k 0 = x at *
      obtain ⟨X, rfl⟩ := Int.eq_ofNat_of_zero_le hx0
      obtain ⟨t1, q1⟩ : ∃ t1, t1 = t ^^^ X := ⟨_, rfl⟩
      obtain ⟨i1, q2⟩ : ∃ i1, i1 = t1 % 16 := ⟨_, rfl⟩
      obtain ⟨s1, q3⟩ : ∃ s1, s1 = stepsN.getD i1 0 := ⟨_, rfl⟩
      obtain ⟨t2, q4⟩ : ∃ t2, t2 = (t1 / 16) ^^^ s1 := ⟨_, rfl⟩
      obtain ⟨i2, q5⟩ : ∃ i2, i2 = t2 % 16 := ⟨_, rfl⟩
      obtain ⟨s2, q6⟩ : ∃ s2, s2 = stepsN.getD i2 0 := ⟨_, rfl⟩
      obtain ⟨t3, q7⟩ : ∃ t3, t3 = (t2 / 16) ^^^ s2 := ⟨_, rfl⟩
      have b1' : t1 < 4294967296 := q1 ▸ xor_lt32 ht1 (by omega)
      have b2' : s1 < 4294967296 := q3 ▸ stepsN_lt _
      have b3' : t2 < 4294967296 := q4 ▸ xor_lt32 (by omega) b2'
      have b4' : s2 < 4294967296 := q6 ▸ stepsN_lt _
      have b5' : t3 < 4294967296 := q7 ▸ xor_lt32 (by omega) b4'
      have i1lt : i1 < 16 := by omega
      have i2lt : i2 < 16 := by omega
      have c1' : w.cell? ⟨0, i1, none⟩ = some (.int .u32 s1) := q3 ▸ ht i1 i1lt
      have c2' : w.cell? ⟨0, i2, none⟩ = some (.int .u32 s2) := q6 ▸ ht i2 i2lt
      have e0 : ((X : Int) % 4294967296) = X := by omega
      have e1 : bits .xor .u32 (t : Int) (X : Int) = (t1 : Int) := by rw [u32_xor_nat t X ht1 (by omega), q1]
      have e2 : bits .and .u32 (t1 : Int) 15 = (i1 : Int) := by
        have := u32_and_nat t1 15 b1' (by decide)
        rw [nat_mask4, ← q2] at this; exact this
      have e3 : bits .xor .u32 ((t1 : Int) / 16) (s1 : Int) = (t2 : Int) := by
        have := u32_xor_nat (t1 / 16) s1 (by omega) b2'
        rw [← q4] at this; simpa using this
      have e4 : bits .and .u32 (t2 : Int) 15 = (i2 : Int) := by
        have := u32_and_nat t2 15 b3' (by decide)
        rw [nat_mask4, ← q5] at this; exact this
      have e5 : bits .xor .u32 ((t2 : Int) / 16) (s2 : Int) = (t3 : Int) := by
        have := u32_xor_nat (t2 / 16) s2 (by omega) b4'
        rw [← q7] at this; simpa using this
      have HT2 : Hid (t3 = crcAll 4294967295 (xs.take (k + 1))) := by
        show _ = _
        rw [HN.out, crcAll_snoc, ← HT.out, q7, q6, q5, q4, q3, q2, q1]
        rfl
      clear q1 q2 q3 q4 q5 q6 q7 HN HT
      go_wp2
      go_round
      case rel => exact ⟨k + 1, t3, by omega, by go_num, rfl, b5', HT2⟩
      case measure => simp [intOf]; omega
    · have hke : xs.take k = xs := List.take_of_length_le (by omega)
      have HF : Hid (bits .xor .u32 IntKind.u32.max (t : Int) = ((sumOf xs : Nat) : Int)) := by
        show _ = _
        have hm : IntKind.u32.max = ((4294967295 : Nat) : Int) := by decide
        rw [hm, u32_xor_nat 4294967295 t (by decide) ht1, Nat.xor_comm, not32 t ht1, sumOf, HT.out, hke]
      clear HT hke
      go_wp2
      go_ret
      exact ⟨ret_int HF.out, rfl⟩

theorem Tab.below {w w' : World} {B : Nat} (h : Tab w) (hb : Below B w w') (hB : 0 < B) : Tab w' := fun i hi => (hb.cell (p := ⟨0, i, none⟩) hB).trans (h i hi)
theorem Tab.sm {w w' : World} (h : Tab w) (hb : Sm w w') : Tab w' := h.below (hb.below 1) (by decide)
theorem Tab.step {b : Nat} {w w' : World} {v v' : Value} (h : Tab w) (hs : Wstep b w v w' v') (hb : 0 < b) (hv : v.ownBlock ≠ some 0) : Tab w' := by
  intro i hi
  have hc := h i hi
  have hlt := World.block_lt_of_cell? w _ hc
  rw [World.cell?_of_block (w := w) (hs.block 0 hlt (by omega) (fun e => hv e.symm))]
  exact hc
theorem Tab.lt {w : World} (h : Tab w) : 0 < w.heap.size := World.block_lt_of_cell? w _ (h 0 (by decide))
end Go.Proofs.YteinhklopnlgbaaDoor
