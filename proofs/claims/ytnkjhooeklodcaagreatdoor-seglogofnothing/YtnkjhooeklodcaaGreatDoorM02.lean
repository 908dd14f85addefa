/-
  Joined from: FrKnown, FrReader, FrNumR, FrReaderNum, FrRefNum, FrNumsWalk, FrReaderRows, FrCrcB.
-/
import Derived.Test.YtnkjhooeklodcaaGreatDoorM01
import Derived.Lib.SlBytesConst
section
/-
  The law's known: a row of fields and a check sum that the document tells. It answers true, and writes nothing that was there.
-/
namespace Go.Proofs.YtnkjhooeklodcaaGreatDoor.Fr
open Go.RowKit

theorem Wr_new (w : World) : Wr (w.alloc (.cells #[.slice none 0 0] 132)) w.heap.size (.slice none 0 0) [] :=
  ⟨heap_alloc_new w _, World.ownsRow_nil _ _ _ _⟩

/-- A step of a Writer whose block, and row, are new from B on leaves all below B. -/
theorem Wstep.below {b B : Nat} {w w' : World} {v v' : Value} (h : Wstep b w v w' v') (hb : B ≤ b) (hB : B ≤ w.heap.size) (hv : ∀ k, v.ownBlock = some k → B ≤ k) : Below B w w' :=
  ⟨h.os, h.tape, h.output, h.size, fun k hk => h.block k (by omega) (by omega) (fun e => by have := hv k e.symm; omega)⟩
theorem Wr.below {b B : Nat} {w w' : World} {v v' : Value} {xs : List Int} (hw : Wr w b v xs) (h : Wstep b w v w' v') (hb : B ≤ b) : Below B w w' :=
  h.below hb (by have := hw.lt; omega) (fun k hk => by have := World.ownsRow.lt hw.2 k hk; omega)

end Go.Proofs.YtnkjhooeklodcaaGreatDoor.Fr
end

section
/-
  The Reader: what it is in memory, and the contracts of NewReader, fail, has, Byte, Left, End.
-/
namespace Go.Proofs.YtnkjhooeklodcaaGreatDoor.Fr
open Go.RowKit

/-- Block b is a Reader that has zs left and the error e; its slice is v. -/
def Rd (w : World) (b : Nat) (v : Value) (zs : List Int) (e : Int) : Prop := w.heap[b]? = some (.cells #[v, .int .i64 e] 204 (0, 0)) ∧ Bs w v zs ∧ v.ownBlock ≠ some b

/-- What a Reader's step leaves: all but the Reader's own block is as it was. -/
structure Rstep (b : Nat) (w w' : World) : Prop where
  os : w'.os = w.os
  tape : w'.tape = w.tape
  output : w'.output = w.output
  size : w.heap.size ≤ w'.heap.size
  block : ∀ k, k < w.heap.size → k ≠ b → w'.heap[k]? = w.heap[k]?
theorem Rstep.refl (b : Nat) (w : World) : Rstep b w w := ⟨rfl, rfl, rfl, Nat.le_refl _, fun _ _ _ => rfl⟩
theorem Rstep.trans {b : Nat} {w w1 w2 : World} (h : Rstep b w w1) (k : Rstep b w1 w2) : Rstep b w w2 :=
  ⟨k.os.trans h.os, k.tape.trans h.tape, k.output.trans h.output, Nat.le_trans h.size k.size, fun i hi hb => (k.block i (Nat.lt_of_lt_of_le hi h.size) hb).trans (h.block i hi hb)⟩
theorem Rstep.of_below {b B : Nat} {w w' : World} (h : Below B w w') (hB : w.heap.size ≤ B) : Rstep b w w' := ⟨h.os, h.tape, h.output, h.size, fun k hk _ => h.block k (by omega)⟩
theorem Rstep.below {b B : Nat} {w w' : World} (h : Rstep b w w') (hb : B ≤ b) (hB : B ≤ w.heap.size) : Below B w w' := ⟨h.os, h.tape, h.output, h.size, fun k hk => h.block k (by omega) (by omega)⟩

theorem Rd.lt {w : World} {b : Nat} {v : Value} {zs : List Int} {e : Int} (h : Rd w b v zs e) : b < w.heap.size := (Array.getElem?_eq_some_iff.1 h.1).1
theorem Rd.cell0 {w : World} {b : Nat} {v : Value} {zs : List Int} {e : Int} (h : Rd w b v zs e) : w.cell? ⟨b, 0, none⟩ = some v := by
  rw [cell_of_row w b 0 _ _ _ h.1]; rfl
theorem Rd.cell1 {w : World} {b : Nat} {v : Value} {zs : List Int} {e : Int} (h : Rd w b v zs e) : w.cell? ⟨b, 1, none⟩ = some (.int .i64 e) := by
  rw [cell_of_row w b 1 _ _ _ h.1]; rfl
theorem Rd.frozen {w : World} {b : Nat} {v : Value} {zs : List Int} {e : Int} (h : Rd w b v zs e) (i : Nat) : w.frozen? ⟨b, i, none⟩ = false := by
  simp [World.frozen?, h.1]
/-- Another slice in the Reader's first field. -/
theorem Rd.set0 {w : World} {b : Nat} {v v' : Value} {zs zs' : List Int} {e : Int} (h : Rd w b v zs e) (hb : Bs w v' zs') (hv : v'.ownBlock ≠ some b) : Rd (w.setCell ⟨b, 0, none⟩ v') b v' zs' e ∧ Rstep b w (w.setCell ⟨b, 0, none⟩ v') := by
  refine ⟨⟨?_, hb.keep fun k hk _ => Below.heap_setCell _ _ _ _ (fun e => hv (by rw [hk, e])), hv⟩, ⟨rfl, rfl, rfl, by simp [World.setCell], fun k _ hkb => Below.heap_setCell _ _ _ _ hkb⟩⟩
  simp only [World.setCell, Array.getElem?_modify, h.1]
  simp
theorem Rd.set1 {w : World} {b : Nat} {v : Value} {zs : List Int} {e e' : Int} (h : Rd w b v zs e) : Rd (w.setCell ⟨b, 1, none⟩ (.int .i64 e')) b v zs e' ∧ Rstep b w (w.setCell ⟨b, 1, none⟩ (.int .i64 e')) := by
  refine ⟨⟨?_, h.2.1.keep fun k hk _ => Below.heap_setCell _ _ _ _ (fun e => h.2.2 (by rw [hk, e])), h.2.2⟩, ⟨rfl, rfl, rfl, by simp [World.setCell], fun k _ hkb => Below.heap_setCell _ _ _ _ hkb⟩⟩
  simp only [World.setCell, Array.getElem?_modify, h.1]
  simp
theorem Rd.sm {w w' : World} {b : Nat} {v : Value} {zs : List Int} {e : Int} (h : Rd w b v zs e) (hs : Sm w w') : Rd w' b v zs e := ⟨by rw [hs.heap]; exact h.1, hs.bs h.2.1, h.2.2⟩
theorem Bs_nil (w : World) : Bs w (.slice none 0 0) [] := Or.inl ⟨rfl, none, 0, rfl, by simp [maxLen], fun _ => rfl⟩

theorem newReader_any (sv : Value) (zs : List Int) (w : World) (hb : Bs w sv zs) (hz : zs.length ≤ 100000000000000) :
    Calls Tryz.prog 127 #[sv] w fun e w' => ∃ b v, e = .returned (.pointer (some ⟨b, 0, none⟩)) ∧ Rd w' b v zs 0 ∧ Below w.heap.size w w' ∧ w.heap.size ≤ b ∧ ∀ k, v.ownBlock = some k → w.heap.size ≤ k := by
  go_enter Tryz.func127, Tryz.ntmps127
  go_wp2_with fail
  refine (clone_any sv zs _ hb hz).mono ?_
  rintro e w1 ⟨ao, cap, rfl, hown, B1⟩
  have R : Rd (w1.alloc (.cells #[.slice ao zs.length cap, .int .i64 0] 204)) w1.heap.size (.slice ao zs.length cap) zs 0 :=
    ⟨heap_alloc_new w1 _, hown.bs.below ((Below.refl _ _).alloc (Nat.le_refl _) _) (Nat.le_refl _), fun e => by have := World.ownsRow.lt hown _ e; omega⟩
  have hk : ∀ k, (Value.slice ao zs.length cap).ownBlock = some k → w.heap.size ≤ k := fun k e => (World.ownsRow.lt hown k e).1
  have hs := B1.size
  clear hown
  go_wp2
  go_ret
  exact ⟨_, _, rfl, R, B1.alloc hs _, hs, hk⟩

theorem fail_any (b : Nat) (v : Value) (zs : List Int) (e e2 : Int) (w : World) (hr : Rd w b v zs e) :
    Calls Tryz.prog 160 #[.pointer (some ⟨b, 0, none⟩), .int .i64 e2] w fun r w' => r = .returned (.tuple #[]) ∧ Rd w' b (.slice none 0 0) [] e2 ∧ Rstep b w w' := by
  have hc0 := hr.cell0
  have hc1 := hr.cell1
  have hf0 := hr.frozen 0
  have hf1 := hr.frozen 1
  have R0 := hr.set0 (Bs_nil w) (by simp [Value.ownBlock])
  have R1 := R0.1.set1 (e' := e2)
  go_enter Tryz.func160, Tryz.ntmps160
  go_wp2
  go_end0
  exact ⟨rfl, R1.1, R0.2.trans R1.2⟩

theorem has_err (b : Nat) (v : Value) (zs : List Int) (e n : Int) (w : World) (hr : Rd w b v zs e) (he : e ≠ 0) :
    Calls Tryz.prog 157 #[.pointer (some ⟨b, 0, none⟩), .int .i64 n] w fun r w' => r = .returned (.bool false) ∧ w = w' := by
  have hc1 := hr.cell1
  have hne : (e != 0) = true := by simp [he]
  go_enter Tryz.func157, Tryz.ntmps157
  go_wp2
  go_ret
  exact ⟨rfl, rfl⟩
theorem has_nil (n : Int) (w : World) : Calls Tryz.prog 157 #[.pointer none, .int .i64 n] w fun r w' => r = .returned (.bool false) ∧ w = w' := by
  go_enter Tryz.func157, Tryz.ntmps157
  go_wp2
  go_ret
  exact ⟨rfl, rfl⟩
theorem has_yes (b : Nat) (v : Value) (zs : List Int) (n : Int) (w : World) (hr : Rd w b v zs 0) (hn : n ≤ zs.length) :
    Calls Tryz.prog 157 #[.pointer (some ⟨b, 0, none⟩), .int .i64 n] w fun r w' => r = .returned (.bool true) ∧ w = w' := by
  have hc0 := hr.cell0
  have hc1 := hr.cell1
  obtain ⟨ao, cap, hv, hm⟩ := hr.2.1.len
  subst hv
  go_enter Tryz.func157, Tryz.ntmps157
  go_wp2
  go_ret
  exact ⟨rfl, rfl⟩
theorem has_no (b : Nat) (v : Value) (zs : List Int) (n : Int) (w : World) (hr : Rd w b v zs 0) (hn : (zs.length : Int) < n) :
    Calls Tryz.prog 157 #[.pointer (some ⟨b, 0, none⟩), .int .i64 n] w fun r w' => r = .returned (.bool false) ∧ Rd w' b (.slice none 0 0) [] 2 ∧ Rstep b w w' := by
  have hc0 := hr.cell0
  have hc1 := hr.cell1
  obtain ⟨ao, cap, hv, hm⟩ := hr.2.1.len
  subst hv
  go_enter Tryz.func157, Tryz.ntmps157
  go_wp2_with (go_at_call 160; refine (fail_any b _ zs 0 2 _ hr).mono ?_; rintro e w' ⟨rfl, hr1, hs1⟩)
  go_ret
  exact ⟨rfl, hr1, hs1⟩

theorem rbyte_err (b : Nat) (v : Value) (zs : List Int) (e : Int) (w : World) (hr : Rd w b v zs e) (he : e ≠ 0) :
    Calls Tryz.prog 158 #[.pointer (some ⟨b, 0, none⟩)] w fun r w' => r = .returned (.int .u8 0) ∧ w = w' := by
  go_enter Tryz.func158, Tryz.ntmps158
  go_wp2_with (go_at_call 157; refine (has_err b v zs e _ _ hr he).mono ?_; rintro e w' ⟨rfl, rfl⟩)
  go_ret
  exact ⟨rfl, rfl⟩
theorem rbyte_nil (w : World) : Calls Tryz.prog 158 #[.pointer none] w fun r w' => r = .returned (.int .u8 0) ∧ w = w' := by
  go_enter Tryz.func158, Tryz.ntmps158
  go_wp2_with (go_at_call 157; refine (has_nil _ _).mono ?_; rintro e w' ⟨rfl, rfl⟩)
  go_ret
  exact ⟨rfl, rfl⟩
theorem rbyte_no (b : Nat) (v : Value) (w : World) (hr : Rd w b v [] 0) :
    Calls Tryz.prog 158 #[.pointer (some ⟨b, 0, none⟩)] w fun r w' => r = .returned (.int .u8 0) ∧ Rd w' b (.slice none 0 0) [] 2 ∧ Rstep b w w' := by
  go_enter Tryz.func158, Tryz.ntmps158
  go_wp2_with (go_at_call 157; refine (has_no b v [] _ _ hr (by simp)).mono ?_; rintro e w' ⟨rfl, hr1, hs1⟩)
  go_ret
  exact ⟨rfl, hr1, hs1⟩
theorem rbyte_yes (b : Nat) (v : Value) (z : Int) (zs : List Int) (w : World) (hr : Rd w b v (z :: zs) 0) :
    Calls Tryz.prog 158 #[.pointer (some ⟨b, 0, none⟩)] w fun r w' => r = .returned (.int .u8 z) ∧ ∃ v', v'.ownBlock = v.ownBlock ∧ Rd w' b v' zs 0 ∧ Rstep b w w' := by
  have hc0 := hr.cell0
  have hf0 := hr.frozen 0
  rcases hr.2.1 with ⟨h0, _⟩ | ⟨_, b2, off, cap, hv, hc1, hc2, hcell⟩
  · cases h0
  subst hv
  have hcz : w.cell? ⟨b2, off, none⟩ = some (.int .u8 z) := by simpa using hcell 0 (by simp)
  have hc1' : zs.length + 1 ≤ cap := by simpa using hc1
  have hnb : b2 ≠ b := fun e => hr.2.2 (by simp [Value.ownBlock, e])
  unfold maxLen at hc2
  by_cases hcap : cap = 1
  · have hz0 : zs = [] := List.eq_nil_of_length_eq_zero (by omega)
    subst hz0
    subst hcap
    have R := hr.set0 (v' := .slice (some ⟨b2, off, none⟩) 0 0) (zs' := []) (Or.inl ⟨rfl, _, 0, rfl, by simp [maxLen], fun e => by cases e⟩) (by simpa [Value.ownBlock] using hnb)
    clear hcell hc1
    go_enter Tryz.func158, Tryz.ntmps158
    go_wp2_with (go_at_call 157; refine (has_yes b _ [z] _ _ hr (by simp)).mono ?_; rintro e w' ⟨rfl, rfl⟩)
    go_ret
    exact ⟨rfl, .slice (some ⟨b2, off, none⟩) 0 0, rfl, R⟩
  · have hbs : Bs w (.slice (some ⟨b2, off + 1, none⟩) zs.length (cap - 1)) zs := by
      by_cases hz0 : zs = []
      · subst hz0
        exact Or.inl ⟨rfl, _, cap - 1, rfl, by simp only [maxLen]; omega, fun e => by cases e⟩
      · refine Or.inr ⟨hz0, b2, off + 1, cap - 1, rfl, by omega, by simp only [maxLen]; omega, fun i hi => ?_⟩
        have := hcell (i + 1) (by simp; omega)
        rw [show off + 1 + i = off + (i + 1) by omega, this]
        simp [List.getD]
    have R := hr.set0 hbs (by simpa [Value.ownBlock] using hnb)
    clear hcell hc1
    go_enter Tryz.func158, Tryz.ntmps158
    go_wp2_with (go_at_call 157; refine (has_yes b _ (z :: zs) _ _ hr (by simp; omega)).mono ?_; rintro e w' ⟨rfl, rfl⟩)
    go_ret
    exact ⟨rfl, .slice (some ⟨b2, off + 1, none⟩) zs.length (cap - 1), rfl, R⟩

/-- P1.2: the first error; ErrForm, if there is none and something is left. -/
def endR (zs : List Int) (e : Int) : Int := if e = 0 ∧ zs ≠ [] then 3 else e
end Go.Proofs.YtnkjhooeklodcaaGreatDoor.Fr
end

section
/-
  Plain mathematics of chapter 1: a number taken from bytes (numR), and that what numOf lays is taken as it was. No walk.
-/
namespace Go.Proofs.YtnkjhooeklodcaaGreatDoor.Fr
open Go

def unfoldI (u : Nat) : Int := if u % 2 = 1 then -1 - (u / 2 : Nat) else (u / 2 : Nat)
theorem unfoldI_odd {u : Nat} (h : u % 2 = 1) : unfoldI u = -1 - (u / 2 : Nat) := if_pos h
theorem unfoldI_even {u : Nat} (h : ¬ u % 2 = 1) : unfoldI u = (u / 2 : Nat) := if_neg h
/-- May z not be a number's last byte, behind k others? -/
def badB (k : Nat) (z : Int) : Bool := (decide (k = 9) && decide (1 < z)) || (decide (k ≠ 0) && decide (z = 0))
/-- What is taken, what is left, the error: with f bytes more at the most, behind k bytes that make u. -/
def numR : Nat → Nat → Nat → List Int → Int × List Int × Int
  | 0, _, _, _ => (0, [], 3)
  | _ + 1, _, _, [] => (0, [], 2)
  | f + 1, k, u, z :: r =>
    if 128 ≤ z then numR f (k + 1) (u + (z.toNat % 128) * 128 ^ k) r
    else if badB k z = true then (0, [], 3) else (unfoldI (u + z.toNat * 128 ^ k), r, 0)

theorem numR_more {f k u : Nat} {z : Int} {r : List Int} (h : 128 ≤ z) : numR (f + 1) k u (z :: r) = numR f (k + 1) (u + (z.toNat % 128) * 128 ^ k) r := by simp [numR, h]
theorem numR_bad {f k u : Nat} {z : Int} {r : List Int} (h : ¬ 128 ≤ z) (hb : badB k z = true) : numR (f + 1) k u (z :: r) = (0, [], 3) := by simp [numR, h, hb]
theorem numR_good {f k u : Nat} {z : Int} {r : List Int} (h : ¬ 128 ≤ z) (hb : badB k z = false) : numR (f + 1) k u (z :: r) = (unfoldI (u + z.toNat * 128 ^ k), r, 0) := by simp [numR, h, hb]

theorem andNot128 (z : Int) (h0 : 0 ≤ z) (h1 : z < 256) : bits .andNot .u8 z 128 = ((z.toNat % 128 : Nat) : Int) := by
  rw [u8_andNot z 128 h0 h1 (by decide) (by decide)]
  have : ∀ a : Fin 256, (((a.val &&& (255 - 128) : Nat) : Int)) = ((a.val % 128 : Nat) : Int) := by decide +kernel
  exact this ⟨z.toNat, by omega⟩

theorem pow_le9 (k : Nat) (hk : k ≤ 9) : 128 ^ k ≤ 9223372036854775808 := by
  have : 128 ^ k ≤ 128 ^ 9 := Nat.pow_le_pow_right (by decide) hk
  have e : 128 ^ 9 = 9223372036854775808 := by decide
  omega
theorem pow_le8 (k : Nat) (hk : k ≤ 8) : 128 ^ k ≤ 72057594037927936 := by
  have : 128 ^ k ≤ 128 ^ 8 := Nat.pow_le_pow_right (by decide) hk
  have e : 128 ^ 8 = 72057594037927936 := by decide
  omega
/-- c digits behind k bytes: fits, if k is below 9 or c at most 1. -/
theorem fits_step (k c : Nat) (hk : k ≤ 9) (hc : c < 128) (h9 : k = 9 → c ≤ 1) : c * 128 ^ k ≤ 9223372036854775808 := by
  by_cases h : k = 9
  · have := h9 h
    subst h
    have e : 128 ^ 9 = 9223372036854775808 := by decide
    rw [e]; omega
  · have := pow_le8 k (by omega)
    have := Nat.mul_le_mul (show c ≤ 127 by omega) this
    omega
theorem orStep (U k : Nat) (z : Int) (h0 : 0 ≤ z) (h1 : z < 256) (hk : k ≤ 9) (hU : U < 128 ^ k) (h9 : k = 9 → z.toNat % 128 ≤ 1) :
    bits .or .u64 (U : Int) (IntKind.u64.wrap (IntKind.u64.wrap (bits .andNot .u8 z 128) * 2 ^ (7 * k))) = ((U + (z.toNat % 128) * 128 ^ k : Nat) : Int) := by
  rw [andNot128 z h0 h1]
  have hc : z.toNat % 128 < 128 := Nat.mod_lt _ (by decide)
  generalize z.toNat % 128 = c at *
  have hf := fits_step k c hk hc h9
  have hp : (2 : Int) ^ (7 * k) = ((128 ^ k : Nat) : Int) := by rw [Int.pow_mul]; simp
  have hp9 := pow_le9 k hk
  rw [IntKind.wrap_u64, IntKind.wrap_u64, hp]
  have e1 : ((c : Int) % 18446744073709551616) = c := by omega
  rw [e1, ← Int.natCast_mul]
  have e2 : (((c * 128 ^ k : Nat) : Int) % 18446744073709551616) = ((c * 128 ^ k : Nat) : Int) := by omega
  rw [e2, u64_or_nat U (c * 128 ^ k) (by omega) (by omega)]
  have hj := nat_join (7 * k) (c * 128 ^ k) U (by rw [Nat.pow_mul]; exact Nat.mul_mod_left _ _) (by rw [Nat.pow_mul]; exact hU)
  rw [Nat.or_comm, hj, Nat.add_comm]

/-- What numB lays is taken. -/
theorem numR_numB (f k u : Nat) (t : Int) (r : List Int) (hf : Fits f t) (h0 : k ≠ 0 → 1 ≤ t) (h9 : f + k = 9) (hs : t * 128 ^ k < 18446744073709551616) :
    numR (f + 1) k u (numB f t ++ r) = (unfoldI (u + t.toNat * 128 ^ k), r, 0) := by
  induction f generalizing k u t with
  | zero =>
    have ht := hf.2
    simp at ht
    have hk : k = 9 := by omega
    have e : (128 : Int) ^ k = 9223372036854775808 := by rw [hk]; decide
    rw [e] at hs
    have h0' := h0 (by omega)
    have := hf.1
    rw [numB_small 0 t ht]
    exact numR_good (by omega) (by simp [badB]; omega)
  | succ f ih =>
    by_cases ht : t < 128
    · rw [numB_small _ t ht]
      have := hf.1
      refine numR_good (by omega) ?_
      simp only [badB, Bool.or_eq_false_iff, Bool.and_eq_false_iff, decide_eq_false_iff_not]
      refine ⟨Or.inl (by omega), ?_⟩
      by_cases hk : k = 0
      · exact Or.inl (by simpa using hk)
      · have := h0 hk
        exact Or.inr (by omega)
    · obtain ⟨g, hg, hgf⟩ := hf.next ht
      obtain rfl : g = f := by omega
      rw [numB_more g t ht, List.cons_append, numR_more (by omega)]
      have hpos : (0 : Int) < 128 ^ k := Int.pow_pos (by decide)
      have hsq : t / 128 * 128 ^ (k + 1) < 18446744073709551616 := by
        rw [Int.pow_succ]
        have h1 : t / 128 * 128 ≤ t := by omega
        have h2 : t / 128 * (128 ^ k * 128) = (t / 128 * 128) * 128 ^ k := by rw [Int.mul_comm (128 ^ k) 128, ← Int.mul_assoc]
        rw [h2]
        exact Int.lt_of_le_of_lt (Int.mul_le_mul_of_nonneg_right h1 (Int.le_of_lt hpos)) hs
      rw [ih (k + 1) _ (t / 128) hgf (by intro _; omega) (by omega) hsq]
      have hmod : (t % 128 + 128).toNat % 128 = (t % 128).toNat := by omega
      rw [hmod]
      congr 2
      have ht0 : 0 ≤ t := hf.1
      have : t.toNat = (t % 128).toNat + (t / 128).toNat * 128 := by omega
      rw [this, Nat.pow_succ, Nat.add_mul, Nat.mul_assoc, Nat.mul_comm 128 (128 ^ k), Nat.add_assoc]

theorem unfold_fold (v : Int) : unfoldI (foldI v).toNat = v := by
  unfold foldI
  split
  · rw [unfoldI_odd (by omega)]; omega
  · rw [unfoldI_even (by omega)]; omega
/-- P1.4: what was laid is taken as it was. -/
theorem numR_numOf (v : Int) (r : List Int) (h0 : -9223372036854775808 ≤ v) (h1 : v ≤ 9223372036854775807) : numR 10 0 0 (numOf v ++ r) = (v, r, 0) := by
  have hr := foldI_range v h0 h1
  have := numR_numB 9 0 0 (foldI v) r (Fits.start _ hr.1 hr.2) (by simp) rfl (by simpa using hr.2)
  unfold numOf
  rw [this]
  simp [unfold_fold v]
end Go.Proofs.YtnkjhooeklodcaaGreatDoor.Fr
end

section
/-
  The Reader's Num, by contract: whatever bytes are left.
-/
namespace Go.Proofs.YtnkjhooeklodcaaGreatDoor.Fr
open Go.RowKit

/-- What a taking leaves. -/
def Rleft (w : World) (b : Nat) (v : Value) (w' : World) (zs : List Int) (e : Int) : Prop := ∃ v', Rd w' b v' zs e ∧ Rstep b w w' ∧ (v'.ownBlock = v.ownBlock ∨ v'.ownBlock = none)

end Go.Proofs.YtnkjhooeklodcaaGreatDoor.Fr
end

section
/-
  The document's own Num (a number of both signs as bytes), by contract.
-/
namespace Go.Proofs.YtnkjhooeklodcaaGreatDoor.Fr
open Go.RowKit

theorem and127 (u : Int) (h0 : 0 ≤ u) (h1 : u < 18446744073709551616) : bits .and .u64 u 127 = u % 128 := by
  obtain ⟨a, rfl⟩ := Int.eq_ofNat_of_zero_le h0
  have := u64_and_nat a 127 (by omega) (by decide)
  rw [nat_mask7] at this
  rw [show (127 : Int) = ((127 : Nat) : Int) from rfl, this]
  omega

end Go.Proofs.YtnkjhooeklodcaaGreatDoor.Fr
end

section
/-
  OctetNums, walked: for every number and whatever stands behind it answers true, and writes nothing that was there.
-/
namespace Go.Proofs.YtnkjhooeklodcaaGreatDoor.Fr
open Go.RowKit

theorem numOf_byt (v : Int) (h0 : -9223372036854775808 ≤ v) (h1 : v ≤ 9223372036854775807) : Byt (numOf v) := by
  have hr := foldI_range v h0 h1
  exact numB_bytes 9 _ (Fits.start _ hr.1 hr.2)
theorem Byt.append {a b : List Int} (ha : Byt a) (hb : Byt b) : Byt (a ++ b) := fun z hz => by
  rcases List.mem_append.1 hz with h | h
  · exact ha z h
  · exact hb z h
/-- A Reader is as it was, if its block and its row are. -/
theorem Rd.keep {w w' : World} {b : Nat} {v : Value} {zs : List Int} {e : Int} (h : Rd w b v zs e) (hb : w'.heap[b]? = w.heap[b]?) (hk : ∀ k, v.ownBlock = some k → k < w.heap.size → w'.heap[k]? = w.heap[k]?) : Rd w' b v zs e :=
  ⟨by rw [hb]; exact h.1, h.2.1.keep hk, h.2.2⟩
theorem Rd.below {w w' : World} {b B : Nat} {v : Value} {zs : List Int} {e : Int} (h : Rd w b v zs e) (hB : Below B w w') (hs : w.heap.size ≤ B) : Rd w' b v zs e :=
  h.keep (hB.block b (by have := h.lt; omega)) (fun k _ hk => hB.block k (by omega))

end Go.Proofs.YtnkjhooeklodcaaGreatDoor.Fr
end

section
/-
  The Reader's rows of bytes: takeRow over r.Byte, fill, Two, Four, Hash, by contracts.
-/
namespace Go.Proofs.YtnkjhooeklodcaaGreatDoor.Fr
open Go.RowKit

/-- Block g is a row of bytes. -/
def Rw (w : World) (g : Nat) (ys : List Int) (t : TypeId) : Prop := w.heap[g]? = some (.cells (cellsOf ys).toArray t (0, 0))
theorem Rw.lt {w : World} {g : Nat} {ys : List Int} {t : TypeId} (h : Rw w g ys t) : g < w.heap.size := (Array.getElem?_eq_some_iff.1 h).1
theorem Rw.cell {w : World} {g : Nat} {ys : List Int} {t : TypeId} (h : Rw w g ys t) (i : Nat) (hi : i < ys.length) : w.cell? ⟨g, i, none⟩ = some (.int .u8 (ys.getD i 0)) := by
  rw [cell_of_row w g i _ _ _ h]
  simpa using cellsOf_get' ys i hi
theorem Rw.frozen {w : World} {g : Nat} {ys : List Int} {t : TypeId} (h : Rw w g ys t) (i : Nat) : w.frozen? ⟨g, i, none⟩ = false := by
  simp only [World.frozen?, show w.heap[g]? = _ from h]; simp
theorem Rw.set {w : World} {g : Nat} {ys : List Int} {t : TypeId} (h : Rw w g ys t) (i : Nat) (x : Int) : Rw (w.setCell ⟨g, i, none⟩ (.int .u8 x)) g (ys.set i x) t := by
  have h' : w.heap[g]? = some (.cells (cellsOf ys).toArray t (0, 0)) := h
  simp only [Rw, World.setCell, Array.getElem?_modify, h']
  simp [cellsOf, List.map_set]

/-- All but two blocks is as it was. -/
structure Two2 (b g : Nat) (w w' : World) : Prop where
  os : w'.os = w.os
  tape : w'.tape = w.tape
  output : w'.output = w.output
  size : w.heap.size ≤ w'.heap.size
  block : ∀ k, k < w.heap.size → k ≠ b → k ≠ g → w'.heap[k]? = w.heap[k]?
theorem Two2.refl (b g : Nat) (w : World) : Two2 b g w w := ⟨rfl, rfl, rfl, Nat.le_refl _, fun _ _ _ _ => rfl⟩
theorem Two2.trans {b g : Nat} {w w1 w2 : World} (h : Two2 b g w w1) (k : Two2 b g w1 w2) : Two2 b g w w2 :=
  ⟨k.os.trans h.os, k.tape.trans h.tape, k.output.trans h.output, Nat.le_trans h.size k.size, fun i hi hb hg => (k.block i (Nat.lt_of_lt_of_le hi h.size) hb hg).trans (h.block i hi hb hg)⟩
theorem Rstep.two {b g : Nat} {w w' : World} (h : Rstep b w w') : Two2 b g w w' := ⟨h.os, h.tape, h.output, h.size, fun k hk hb _ => h.block k hk hb⟩
theorem Two2.set (b g i : Nat) (w : World) (v : Value) : Two2 b g w (w.setCell ⟨g, i, none⟩ v) := ⟨rfl, rfl, rfl, by simp [World.setCell], fun k _ _ hg => Below.heap_setCell _ _ _ _ hg⟩

theorem set_take (zs ys : List Int) (k : Nat) (h1 : k < ys.length) (h2 : ys.length ≤ zs.length) : (zs.take k ++ ys.drop k).set k (zs.getD k 0) = zs.take (k + 1) ++ ys.drop (k + 1) := by
  rw [List.set_append]
  have hl : (zs.take k).length = k := by simp; omega
  simp only [hl, Nat.lt_irrefl, if_false, Nat.sub_self]
  rw [take_snoc zs k (by omega), List.append_assoc]
  congr 1
  rw [List.drop_eq_getElem_cons h1]
  rfl

set_option maxHeartbeats 1600000 in
theorem takeRow_any (b g : Nat) (v : Value) (zs ys : List Int) (t : TypeId) (w : World) (hr : Rd w b v zs 0) (hg : Rw w g ys t) (hgb : g ≠ b) (hgv : v.ownBlock ≠ some g) (hl : ys.length ≤ zs.length) (hs : ys.length ≤ 1000000) :
    Calls Tryz.prog 197 #[.func (.func 158) #[.pointer (some ⟨b, 0, none⟩)] #[], .slice (some ⟨g, 0, none⟩) ys.length ys.length] w fun r w' => r = .returned (.tuple #[]) ∧
      ∃ v', v'.ownBlock = v.ownBlock ∧ Rd w' b v' (zs.drop ys.length) 0 ∧ Rw w' g (zs.take ys.length) t ∧ Two2 b g w w' := by
  go_enter Tryz.func197, Tryz.ntmps197
  go_wp2
  go_loopw [7] (fun i wr => ∃ (k : Nat) (v1 : Value), k ≤ ys.length ∧ i = .int .i64 k ∧ v1.ownBlock = v.ownBlock ∧ Rd wr b v1 (zs.drop k) 0 ∧ Rw wr g (zs.take k ++ ys.drop k) t ∧ Two2 b g w wr) (fun i _ => ys.length - (intOf i).toNat)
  case atStart => exact ⟨0, v, Nat.zero_le _, rfl, rfl, by simpa using hr, by simpa using hg, Two2.refl _ _ _⟩
  case round =>
    obtain ⟨k, v1, hk, rfl, hv1, hr1, hg1, hs1⟩ := hrel
    by_cases hlt : k < ys.length
    · have HD : Hid (zs.drop k = zs.getD k 0 :: zs.drop (k + 1)) := by
        show _ = _
        rw [List.drop_eq_getElem_cons (by omega)]; simp [List.getD, show k < zs.length by omega]
      rw [HD.out] at hr1
      have HS : Hid ((zs.take k ++ ys.drop k).set k (zs.getD k 0) = zs.take (k + 1) ++ ys.drop (k + 1)) := set_take zs ys k hlt hl
      generalize zs.getD k 0 = z at *
      have hlen : (zs.take k ++ ys.drop k).length = ys.length := by simp; omega
      clear HD
      go_wp2_with fail
      refine (rbyte_yes b v1 z _ _ hr1).mono ?_
      rintro e w2 ⟨rfl, v2, hv2, hr2, hs2⟩
      have hg2 : Rw w2 g (zs.take k ++ ys.drop k) t := by
        have := hs2.block g hg1.lt hgb
        unfold Rw; rw [this]; exact hg1
      have hcg := hg2.cell k (by rw [hlen]; exact hlt)
      have hfg := hg2.frozen k
      have hg3 := hg2.set k z
      rw [HS.out] at hg3
      have hr3 : Rd (w2.setCell ⟨g, k, none⟩ (.int .u8 z)) b v2 (zs.drop (k + 1)) 0 :=
        hr2.keep (Below.heap_setCell _ _ _ _ (fun e => hgb e.symm)) (fun j hj _ => Below.heap_setCell _ _ _ _ (fun e => hgv (by rw [← hv1, ← hv2, hj, e])))
      have hs3 : Two2 b g w (w2.setCell ⟨g, k, none⟩ (.int .u8 z)) := (hs1.trans hs2.two).trans (Two2.set b g k w2 _)
      clear hg1 hg2 hr1 hr2 hlen HS
      go_wp2
      go_roundw
      case rel => exact ⟨k + 1, v2, by omega, by go_num, hv2.trans hv1, hr3, hg3, hs3⟩
      case measure => simp [intOf]; omega
    · obtain rfl : k = ys.length := by omega
      have e1 : ys.drop ys.length = [] := by simp
      rw [e1, List.append_nil] at hg1
      go_wp2
      go_end0
      exact ⟨rfl, v1, hv1, hr1, hg1, hs1⟩

/-- A row ys is filled: what it holds, what is left, the error. -/
def rowR (ys zs : List Int) (e : Int) : List Int × List Int × Int := if e = 0 then (if ys.length ≤ zs.length then (zs.take ys.length, zs.drop ys.length, 0) else (ys, [], 2)) else (ys, zs, e)
theorem rowR_yes {ys zs : List Int} (h : ys.length ≤ zs.length) : rowR ys zs 0 = (zs.take ys.length, zs.drop ys.length, 0) := by simp [rowR, h]
theorem rowR_no {ys zs : List Int} (h : ¬ ys.length ≤ zs.length) : rowR ys zs 0 = (ys, [], 2) := by simp [rowR, h]
theorem rowR_err {ys zs : List Int} {e : Int} (h : e ≠ 0) : rowR ys zs e = (ys, zs, e) := by simp [rowR, h]
theorem rowR_len (ys zs : List Int) (e : Int) : (rowR ys zs e).1.length = ys.length := by
  unfold rowR; split
  · split
    · simp; omega
    · rfl
  · rfl
theorem rowR_byt {ys zs : List Int} {e : Int} (hy : Byt ys) (hz : Byt zs) : Byt (rowR ys zs e).1 ∧ Byt (rowR ys zs e).2.1 := by
  unfold rowR; split
  · split
    · exact ⟨fun z h => hz z (List.mem_of_mem_take h), fun z h => hz z (List.mem_of_mem_drop h)⟩
    · exact ⟨hy, fun z h => by cases h⟩
  · exact ⟨hy, hz⟩

set_option maxHeartbeats 800000 in
theorem fill_any (b g : Nat) (v : Value) (zs ys : List Int) (e : Int) (t : TypeId) (w : World) (hr : Rd w b v zs e) (hg : Rw w g ys t) (hgb : g ≠ b) (hgv : v.ownBlock ≠ some g) (hs : ys.length ≤ 1000000) :
    Calls Tryz.prog 195 #[.pointer (some ⟨b, 0, none⟩), .slice (some ⟨g, 0, none⟩) ys.length ys.length] w fun r w' => r = .returned (.tuple #[]) ∧
      ∃ v', (v'.ownBlock = v.ownBlock ∨ v'.ownBlock = none) ∧ Rd w' b v' (rowR ys zs e).2.1 (rowR ys zs e).2.2 ∧ Rw w' g (rowR ys zs e).1 t ∧ Two2 b g w w' := by
  by_cases he : e = 0
  · subst he
    by_cases hl : ys.length ≤ zs.length
    · have HR : Hid (rowR ys zs 0 = _) := rowR_yes hl
      go_enter Tryz.func195, Tryz.ntmps195
      go_wp2_with fail
      refine (has_yes b v zs _ _ hr (by omega)).mono ?_
      rintro e w1 ⟨rfl, rfl⟩
      go_wp2_with fail
      refine (takeRow_any b g v zs ys t _ hr hg hgb hgv hl hs).mono ?_
      rintro e w2 ⟨rfl, v2, hv2, hr2, hg2, hs2⟩
      go_wp2
      go_end0
      rw [HR.out]
      exact ⟨rfl, v2, Or.inl hv2, hr2, hg2, hs2⟩
    · have HR : Hid (rowR ys zs 0 = _) := rowR_no hl
      go_enter Tryz.func195, Tryz.ntmps195
      go_wp2_with fail
      refine (has_no b v zs _ _ hr (by omega)).mono ?_
      rintro e w1 ⟨rfl, hr1, hs1⟩
      go_wp2
      go_end0
      rw [HR.out]
      refine ⟨rfl, _, Or.inr rfl, hr1, ?_, hs1.two⟩
      unfold Rw; rw [hs1.block g hg.lt hgb]; exact hg
  · have HR : Hid (rowR ys zs e = _) := rowR_err he
    go_enter Tryz.func195, Tryz.ntmps195
    go_wp2_with fail
    refine (has_err b v zs e _ _ hr he).mono ?_
    rintro e w1 ⟨rfl, rfl⟩
    go_wp2
    go_end0
    rw [HR.out]
    exact ⟨rfl, v, Or.inl rfl, hr, hg, Two2.refl _ _ _⟩
theorem fill_nil (sv : Value) (zs : List Int) (w : World) (hb : Bs w sv zs) : Calls Tryz.prog 195 #[.pointer none, sv] w fun r w' => r = .returned (.tuple #[]) ∧ w = w' := by
  obtain ⟨ao, cap, hsv, hm⟩ := hb.len
  subst hsv
  go_enter Tryz.func195, Tryz.ntmps195
  go_wp2_with fail
  refine (has_nil _ _).mono ?_
  rintro e w1 ⟨rfl, rfl⟩
  go_wp2
  go_end0
  exact ⟨rfl, rfl⟩

/-- A new row of noughts beside a Reader. -/
theorem Rw_new (w : World) (ys : List Int) (t : TypeId) : Rw (w.alloc (.cells (cellsOf ys).toArray t)) w.heap.size ys t := heap_alloc_new w _
theorem Rd.alloc {w : World} {b : Nat} {v : Value} {zs : List Int} {e : Int} (h : Rd w b v zs e) (o : Obj) : Rd (w.alloc o) b v zs e := h.below ((Below.refl _ _).alloc (Nat.le_refl _) _) (Nat.le_refl _)
theorem Two2.rstep {b : Nat} {w w1 w' : World} (h0 : Below w.heap.size w w1) (h : Two2 b w.heap.size w1 w') : Rstep b w w' :=
  ⟨h.os.trans h0.os, h.tape.trans h0.tape, h.output.trans h0.output, Nat.le_trans h0.size h.size, fun k hk hb => (h.block k (Nat.lt_of_lt_of_le hk h0.size) hb (by omega)).trans (h0.block k hk)⟩

theorem or16 (a c : Int) (ha0 : 0 ≤ a) (ha : a < 256) (hc0 : 0 ≤ c) (hc : c < 256) : bits .or .u16 a (c * 256) = a + 256 * c := by
  rw [u16_or a (c * 256) ha0 (by omega) (by omega) (by omega)]
  have := nat_join 8 (c * 256).toNat a.toNat (by omega) (by omega)
  rw [Nat.or_comm, this]
  omega
theorem or32 (a c : Int) (i : Nat) (hi : i ≤ 24) (ha0 : 0 ≤ a) (ha : a < 2 ^ i) (hc0 : 0 ≤ c) (hc : c < 256) : bits .or .u32 a (c * 2 ^ i) = a + c * 2 ^ i := by
  obtain ⟨A, rfl⟩ := Int.eq_ofNat_of_zero_le ha0
  obtain ⟨C, rfl⟩ := Int.eq_ofNat_of_zero_le hc0
  have hA : A < 2 ^ i := by have e : ((2 ^ i : Nat) : Int) = (2 : Int) ^ i := by simp
                            rw [← e] at ha; omega
  have hp : 2 ^ i ≤ 2 ^ 24 := Nat.pow_le_pow_right (by decide) hi
  have hm : C * 2 ^ i ≤ 255 * 2 ^ 24 := Nat.mul_le_mul (by omega) hp
  have e2 : ((C : Int) * 2 ^ i) = ((C * 2 ^ i : Nat) : Int) := by simp
  rw [e2, u32_or_nat A (C * 2 ^ i) (by omega) (by omega), Nat.or_comm, nat_join i (C * 2 ^ i) A (Nat.mul_mod_left _ _) hA]
  omega
def twoV (l : List Int) : Int := l.getD 0 0 + 256 * l.getD 1 0
def fourV (l : List Int) : Int := l.getD 0 0 + 256 * l.getD 1 0 + 65536 * l.getD 2 0 + 16777216 * l.getD 3 0
set_option maxHeartbeats 800000 in
theorem rfour_any (b : Nat) (v : Value) (zs : List Int) (e : Int) (w : World) (hr : Rd w b v zs e) (hz : Byt zs) (hv : ∀ k, v.ownBlock = some k → k < w.heap.size) :
    Calls Tryz.prog 188 #[.pointer (some ⟨b, 0, none⟩)] w fun r w' => r = .returned (.int .u32 (fourV (rowR [0, 0, 0, 0] zs e).1)) ∧ Rleft w b v w' (rowR [0, 0, 0, 0] zs e).2.1 (rowR [0, 0, 0, 0] zs e).2.2 := by
  have hlen := rowR_len [0, 0, 0, 0] zs e
  have hby := (rowR_byt (ys := [0, 0, 0, 0]) (e := e) (by intro z hz; simp at hz; omega) hz).1
  have hr0 := hr.alloc (.cells #[.int .u8 0, .int .u8 0, .int .u8 0, .int .u8 0] 235)
  have hg0 : Rw (w.alloc (.cells #[.int .u8 0, .int .u8 0, .int .u8 0, .int .u8 0] 235)) w.heap.size [0, 0, 0, 0] 235 := Rw_new w [0, 0, 0, 0] 235
  have hlt := hr.lt
  generalize hres : rowR [0, 0, 0, 0] zs e = R at *
  obtain ⟨row, zs2, e2⟩ := R
  have HR : Hid (rowR [0, 0, 0, 0] zs e = (row, zs2, e2)) := hres
  clear hres
  go_enter Tryz.func188, Tryz.ntmps188
  go_wp2_with fail
  refine (fill_any b w.heap.size v zs [0, 0, 0, 0] e 235 _ hr0 hg0 (by omega) (fun h => Nat.lt_irrefl _ (hv _ h)) (by simp)).mono ?_
  rintro e w2 ⟨rfl, v2, hv2, hr2, hg2, hs2⟩
  rw [HR.out] at hr2 hg2
  obtain ⟨x0, x1, x2, x3, rfl⟩ : ∃ x0 x1 x2 x3, row = [x0, x1, x2, x3] := by
    match row, hlen with
    | [x0, x1, x2, x3], _ => exact ⟨x0, x1, x2, x3, rfl⟩
  have c0 : w2.cell? ⟨w.heap.size, 0, none⟩ = some (.int .u8 x0) := hg2.cell 0 (by simp)
  have c1 : w2.cell? ⟨w.heap.size, 1, none⟩ = some (.int .u8 x1) := hg2.cell 1 (by simp)
  have c2 : w2.cell? ⟨w.heap.size, 2, none⟩ = some (.int .u8 x2) := hg2.cell 2 (by simp)
  have c3 : w2.cell? ⟨w.heap.size, 3, none⟩ = some (.int .u8 x3) := hg2.cell 3 (by simp)
  have b0 := hby x0 (by simp)
  have b1 := hby x1 (by simp)
  have b2 := hby x2 (by simp)
  have b3 := hby x3 (by simp)
  have S : Rleft w b v w2 zs2 e2 := ⟨v2, hr2, Two2.rstep ((Below.refl _ _).alloc (Nat.le_refl _) _) hs2, hv2⟩
  have o1 : bits .or .u32 x0 (x1 * 256) = x0 + x1 * 256 := or32 x0 x1 8 (by decide) b0.1 (by simpa using b0.2) b1.1 b1.2
  obtain ⟨y1, hy1⟩ : ∃ y1, y1 = x0 + x1 * 256 := ⟨_, rfl⟩
  rw [← hy1] at o1
  have o2 : bits .or .u32 y1 (x2 * 65536) = y1 + x2 * 65536 := or32 y1 x2 16 (by decide) (by omega) (by simp; omega) b2.1 b2.2
  obtain ⟨y2, hy2⟩ : ∃ y2, y2 = y1 + x2 * 65536 := ⟨_, rfl⟩
  rw [← hy2] at o2
  have o3 : bits .or .u32 y2 (x3 * 16777216) = y2 + x3 * 16777216 := or32 y2 x3 24 (by decide) (by omega) (by simp; omega) b3.1 b3.2
  obtain ⟨y3, hy3⟩ : ∃ y3, y3 = y2 + x3 * 16777216 := ⟨_, rfl⟩
  rw [← hy3] at o3
  have HE : Hid (y3 = fourV [x0, x1, x2, x3]) := by
    have e : fourV [x0, x1, x2, x3] = x0 + 256 * x1 + 65536 * x2 + 16777216 * x3 := rfl
    show _ = _
    rw [e]; omega
  clear hg2 hr2 hs2 hv2 hby hlen hr0 hg0 hy1 hy2 hy3
  go_wp2
  go_ret
  exact ⟨ret_int HE.out, S⟩
theorem rfour_nil (w : World) : Calls Tryz.prog 188 #[.pointer none] w fun r w' => r = .returned (.int .u32 0) ∧ Below w.heap.size w w' := by
  have hbs : Bs (w.alloc (.cells #[.int .u8 0, .int .u8 0, .int .u8 0, .int .u8 0] 235)) (.slice (some ⟨w.heap.size, 0, none⟩) 4 4) [0, 0, 0, 0] := Bs_of_block (heap_alloc_new w _) (by simp [maxLen])
  go_enter Tryz.func188, Tryz.ntmps188
  go_wp2_with fail
  refine (fill_nil _ _ _ hbs).mono ?_
  rintro e w2 ⟨rfl, rfl⟩
  go_wp2
  go_ret
  exact ⟨rfl, (Below.refl _ _).alloc (Nat.le_refl _) _⟩
end Go.Proofs.YtnkjhooeklodcaaGreatDoor.Fr
end

section
/-
  Plain mathematics of the check sum: one binary digit a step is what four a step by the table are; each step can be turned back, so that another byte has another sum. No walk.
-/
namespace Go.Proofs.YtnkjhooeklodcaaGreatDoor.Fr
open Go

theorem xor_cancel_left {a b c : Nat} (h : a ^^^ b = a ^^^ c) : b = c := by
  have := congrArg (fun n => a ^^^ n) h
  simpa [← Nat.xor_assoc] using this
theorem xor_cancel_right {a b c : Nat} (h : b ^^^ a = c ^^^ a) : b = c := by
  rw [Nat.xor_comm b, Nat.xor_comm c] at h
  exact xor_cancel_left h

/-- One binary digit a step. -/
def bit1 (c : Nat) : Nat := if c % 2 = 1 then (c / 2) ^^^ 2197175160 else c / 2
theorem bit1_odd {c : Nat} (h : c % 2 = 1) : bit1 c = (c / 2) ^^^ 2197175160 := if_pos h
theorem bit1_even {c : Nat} (h : ¬ c % 2 = 1) : bit1 c = c / 2 := if_neg h
theorem bit1_lt (c : Nat) (h : c < 4294967296) : bit1 c < 4294967296 := by
  unfold bit1; split
  · exact xor_lt32 (by omega) (by decide)
  · omega
theorem xor_half (x y : Nat) : (x ^^^ y) / 2 = (x / 2) ^^^ (y / 2) := by
  apply Nat.eq_of_testBit_eq; intro i
  rw [Nat.testBit_div_two, Nat.testBit_xor, Nat.testBit_xor, Nat.testBit_div_two, Nat.testBit_div_two]
theorem xor_par (x y : Nat) : (x ^^^ y) % 2 = (x % 2 + y % 2) % 2 := by
  have h := Nat.testBit_xor (x := x) (y := y) (i := 0)
  simp only [Nat.testBit_zero] at h
  have hx : x % 2 = 0 ∨ x % 2 = 1 := by omega
  have hy : y % 2 = 0 ∨ y % 2 = 1 := by omega
  have hz : (x ^^^ y) % 2 = 0 ∨ (x ^^^ y) % 2 = 1 := by omega
  rcases hx with hx | hx <;> rcases hy with hy | hy <;> rcases hz with hz | hz <;> simp [hx, hy, hz] at h ⊢
theorem bit1_xor (x y : Nat) : bit1 (x ^^^ y) = bit1 x ^^^ bit1 y := by
  have hp := xor_par x y
  have hh := xor_half x y
  by_cases hx : x % 2 = 1 <;> by_cases hy : y % 2 = 1
  · rw [bit1_odd hx, bit1_odd hy, bit1_even (by omega), hh, Nat.xor_assoc, Nat.xor_comm 2197175160 (y / 2 ^^^ 2197175160), Nat.xor_assoc, Nat.xor_self, Nat.xor_zero]
  · rw [bit1_odd hx, bit1_even hy, bit1_odd (by omega), hh, Nat.xor_assoc, Nat.xor_assoc, Nat.xor_comm (y / 2)]
  · rw [bit1_even hx, bit1_odd hy, bit1_odd (by omega), hh, Nat.xor_assoc]
  · rw [bit1_even hx, bit1_even hy, bit1_even (by omega), hh]
theorem nib_bit1 (s : Nat) : nib s = bit1 (bit1 (bit1 (bit1 s))) := by
  have hs : s = (16 * (s / 16)) ^^^ (s % 16) := by
    have h1 := nat_join 4 (16 * (s / 16)) (s % 16) (by omega) (by omega)
    have h2 : (16 * (s / 16)) &&& (s % 16) = 0 := by
      apply Nat.eq_of_testBit_eq; intro i
      rw [Nat.testBit_and, Nat.zero_testBit, show 16 = 2 ^ 4 from rfl, Nat.testBit_two_pow_mul, Nat.testBit_mod_two_pow]
      by_cases hi : i < 4
      · have : ¬ 4 ≤ i := by omega
        simp [this]
      · simp [hi]
    have h3 : 16 * (s / 16) + s % 16 = s := by omega
    have h4 : (16 * (s / 16)) ^^^ (s % 16) = 16 * (s / 16) + s % 16 := by
      rw [← h1]
      apply Nat.eq_of_testBit_eq; intro i
      have := congrArg (fun n => n.testBit i) h2
      simp only [Nat.testBit_and, Nat.zero_testBit] at this
      rw [Nat.testBit_xor, Nat.testBit_or]
      revert this
      generalize (16 * (s / 16)).testBit i = p
      generalize (s % 16).testBit i = q
      cases p <;> cases q <;> simp
    omega
  have hq : ∀ q, bit1 (bit1 (bit1 (bit1 (16 * q)))) = q := by
    intro q
    rw [bit1_even (c := 16 * q) (by omega), show 16 * q / 2 = 8 * q by omega, bit1_even (c := 8 * q) (by omega), show 8 * q / 2 = 4 * q by omega, bit1_even (c := 4 * q) (by omega), show 4 * q / 2 = 2 * q by omega, bit1_even (c := 2 * q) (by omega)]
    omega
  have hr : ∀ r, r < 16 → bit1 (bit1 (bit1 (bit1 r))) = stepsN.getD r 0 := by
    intro r hr
    have : ∀ r : Fin 16, bit1 (bit1 (bit1 (bit1 r.val))) = stepsN.getD r.val 0 := by decide +kernel
    exact this ⟨r, hr⟩
  have e : bit1 (bit1 (bit1 (bit1 s))) = bit1 (bit1 (bit1 (bit1 ((16 * (s / 16)) ^^^ (s % 16))))) := by rw [← hs]
  rw [e, bit1_xor, bit1_xor, bit1_xor, bit1_xor, hq, hr _ (by omega)]
  rfl
/-- Eight steps of one digit are two of four. -/
theorem crcB_bits (s b : Nat) : crcB s b = bit1 (bit1 (bit1 (bit1 (bit1 (bit1 (bit1 (bit1 (s ^^^ b)))))))) := by
  unfold crcB; rw [nib_bit1, nib_bit1]

theorem top_xor (a : Nat) (h : a < 2147483648) : 2147483648 ≤ a ^^^ 2197175160 := by
  have h1 : (a ^^^ 2197175160).testBit 31 = true := by
    rw [Nat.testBit_xor, Nat.testBit_lt_two_pow (x := a) (i := 31) h]
    decide
  exact Nat.ge_two_pow_of_testBit h1
theorem bit1_inj {x y : Nat} (hx : x < 4294967296) (hy : y < 4294967296) (h : bit1 x = bit1 y) : x = y := by
  have hx2 : x / 2 < 2147483648 := by omega
  have hy2 : y / 2 < 2147483648 := by omega
  by_cases px : x % 2 = 1 <;> by_cases py : y % 2 = 1
  · rw [bit1_odd px, bit1_odd py] at h
    have := xor_cancel_right h
    omega
  · rw [bit1_odd px, bit1_even py] at h
    have := top_xor (x / 2) hx2
    omega
  · rw [bit1_even px, bit1_odd py] at h
    have := top_xor (y / 2) hy2
    omega
  · rw [bit1_even px, bit1_even py] at h
    omega
theorem nib_inj {x y : Nat} (hx : x < 4294967296) (hy : y < 4294967296) (h : nib x = nib y) : x = y := by
  rw [nib_bit1, nib_bit1] at h
  have a1 := bit1_lt x hx
  have a2 := bit1_lt _ a1
  have a3 := bit1_lt _ a2
  have b1 := bit1_lt y hy
  have b2 := bit1_lt _ b1
  have b3 := bit1_lt _ b2
  exact bit1_inj hx hy (bit1_inj a1 b1 (bit1_inj a2 b2 (bit1_inj a3 b3 h)))
theorem crcB_inj {s t a b : Nat} (hs : s < 4294967296) (ht : t < 4294967296) (ha : a < 256) (hb : b < 256) (h : crcB s a = crcB t b) : s ^^^ a = t ^^^ b := by
  have h1 := xor_lt32 hs (show a < 4294967296 by omega)
  have h2 := xor_lt32 ht (show b < 4294967296 by omega)
  exact nib_inj h1 h2 (nib_inj (nib_lt _ h1) (nib_lt _ h2) h)
theorem crcAll_inj (xs : List Int) (hx : ∀ z ∈ xs, 0 ≤ z ∧ z < 256) : ∀ s t, s < 4294967296 → t < 4294967296 → crcAll s xs = crcAll t xs → s = t := by
  induction xs with
  | nil => intro s t _ _ h; exact h
  | cons x xs ih =>
    intro s t hs ht h
    have hxx := hx x (by simp)
    have h1 := ih (fun z hz => hx z (by simp [hz])) (crcB s x.toNat) (crcB t x.toNat) (crcB_lt _ _ hs (by omega)) (crcB_lt _ _ ht (by omega)) h
    have h2 := crcB_inj hs ht (by omega) (by omega) h1
    exact xor_cancel_right h2
theorem crcAll_append (s : Nat) (xs ys : List Int) : crcAll s (xs ++ ys) = crcAll (crcAll s xs) ys := by simp [crcAll]
/-- P1.4: two rows of one length that differ in one byte have unlike sums. -/
theorem sumOf_other (as bs : List Int) (x y : Int) (ha : ∀ z ∈ as, 0 ≤ z ∧ z < 256) (hb : ∀ z ∈ bs, 0 ≤ z ∧ z < 256) (hx : 0 ≤ x ∧ x < 256) (hy : 0 ≤ y ∧ y < 256) (hne : x ≠ y) :
    sumOf (as ++ x :: bs) ≠ sumOf (as ++ y :: bs) := by
  intro h
  unfold sumOf at h
  rw [crcAll_append, crcAll_append] at h
  have hs := crcAll_lt 4294967295 as (by decide) ha
  generalize crcAll 4294967295 as = s at *
  have e1 : ∀ z, crcAll s (z :: bs) = crcAll (crcB s z.toNat) bs := fun z => rfl
  rw [e1, e1] at h
  have l1 := crcB_lt s x.toNat hs (by omega)
  have l2 := crcB_lt s y.toNat hs (by omega)
  have m1 := crcAll_lt _ bs l1 hb
  have m2 := crcAll_lt _ bs l2 hb
  have h2 := crcAll_inj bs hb _ _ l1 l2 (by omega)
  have h3 := crcB_inj hs hs (by omega) (by omega) h2
  have h4 := xor_cancel_left h3
  omega
end Go.Proofs.YtnkjhooeklodcaaGreatDoor.Fr
end
