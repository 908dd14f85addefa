/-
  The Reader: what it is in memory, and the contracts of NewReader, fail, has, Byte, Left, End.
-/
import Derived.Test.YtkchdkcdkeajkaaOcKnown
namespace Go.Proofs.Ytkchdkcdkeajkaa.Oc
open Go.RowKit

/-- Block b is a Reader that has zs left and the error e; its slice is v. -/
def Rd (w : World) (b : Nat) (v : Value) (zs : List Int) (e : Int) : Prop := w.heap[b]? = some (.cells #[v, .int .i64 e] 72 (0, 0)) ∧ Bs w v zs ∧ v.ownBlock ≠ some b

/-- What a Reader's step leaves: all but the Reader's own block is as it was. -/
structure Rstep (b : Nat) (w w' : World) : Prop where
  os : w'.os = w.os
  tape : w'.tape = w.tape
  output : w'.output = w.output
  size : w.heap.size ≤ w'.heap.size
  block : ∀ k, k < w.heap.size → k ≠ b → w'.heap[k]? = w.heap[k]?
theorem Rstep.refl (b : Nat) (w : World) : Rstep b w w := ⟨rfl, rfl, rfl, Nat.le_refl _, fun _ _ _ => rfl⟩
theorem Rstep.trans {b : Nat} {w w1 w2 : World} (h : Rstep b w w1) (k : Rstep b w1 w2) : Rstep b w w2 :=
  ⟨k.os.trans h.os, k.tape.trans h.tape, k.output.trans h.output, Nat.le_trans h.size k.size, fun i hi hb => (k.block i (Nat.lt_of_lt_of_le hi h.size) hb).trans (h.block i hi hb)⟩
theorem Rstep.of_below {b B : Nat} {w w' : World} (h : Below B w w') (hB : w.heap.size ≤ B) : Rstep b w w' := ⟨h.os, h.tape, h.output, h.size, fun k hk _ => h.block k (by omega)⟩
theorem Rstep.below {b B : Nat} {w w' : World} (h : Rstep b w w') (hb : B ≤ b) (hB : B ≤ w.heap.size) : Below B w w' := ⟨h.os, h.tape, h.output, h.size, fun k hk => h.block k (by omega) (by omega)⟩

theorem Rd.lt {w : World} {b : Nat} {v : Value} {zs : List Int} {e : Int} (h : Rd w b v zs e) : b < w.heap.size := (Array.getElem?_eq_some_iff.1 h.1).1
theorem Rd.cell0 {w : World} {b : Nat} {v : Value} {zs : List Int} {e : Int} (h : Rd w b v zs e) : w.cell? ⟨b, 0, none⟩ = some v := by
  rw [cell_of_row w b 0 _ _ _ h.1]; rfl
theorem Rd.cell1 {w : World} {b : Nat} {v : Value} {zs : List Int} {e : Int} (h : Rd w b v zs e) : w.cell? ⟨b, 1, none⟩ = some (.int .i64 e) := by
  rw [cell_of_row w b 1 _ _ _ h.1]; rfl
theorem Rd.frozen {w : World} {b : Nat} {v : Value} {zs : List Int} {e : Int} (h : Rd w b v zs e) (i : Nat) : w.frozen? ⟨b, i, none⟩ = false := by
  simp [World.frozen?, h.1]
/-- Another slice in the Reader's first field. -/
theorem Rd.set0 {w : World} {b : Nat} {v v' : Value} {zs zs' : List Int} {e : Int} (h : Rd w b v zs e) (hb : Bs w v' zs') (hv : v'.ownBlock ≠ some b) : Rd (w.setCell ⟨b, 0, none⟩ v') b v' zs' e ∧ Rstep b w (w.setCell ⟨b, 0, none⟩ v') := by
  refine ⟨⟨?_, hb.keep fun k hk _ => Below.heap_setCell _ _ _ _ (fun e => hv (by rw [hk, e])), hv⟩, ⟨rfl, rfl, rfl, by simp [World.setCell], fun k _ hkb => Below.heap_setCell _ _ _ _ hkb⟩⟩
  simp only [World.setCell, Array.getElem?_modify, h.1]
  simp
theorem Rd.set1 {w : World} {b : Nat} {v : Value} {zs : List Int} {e e' : Int} (h : Rd w b v zs e) : Rd (w.setCell ⟨b, 1, none⟩ (.int .i64 e')) b v zs e' ∧ Rstep b w (w.setCell ⟨b, 1, none⟩ (.int .i64 e')) := by
  refine ⟨⟨?_, h.2.1.keep fun k hk _ => Below.heap_setCell _ _ _ _ (fun e => h.2.2 (by rw [hk, e])), h.2.2⟩, ⟨rfl, rfl, rfl, by simp [World.setCell], fun k _ hkb => Below.heap_setCell _ _ _ _ hkb⟩⟩
  simp only [World.setCell, Array.getElem?_modify, h.1]
  simp
theorem Rd.sm {w w' : World} {b : Nat} {v : Value} {zs : List Int} {e : Int} (h : Rd w b v zs e) (hs : Sm w w') : Rd w' b v zs e := ⟨by rw [hs.heap]; exact h.1, hs.bs h.2.1, h.2.2⟩
theorem Bs_nil (w : World) : Bs w (.slice none 0 0) [] := Or.inl ⟨rfl, none, 0, rfl, by simp [maxLen], fun _ => rfl⟩

theorem newReader_any (sv : Value) (zs : List Int) (w : World) (hb : Bs w sv zs) (hz : zs.length ≤ 100000000000000) :
    Calls Try.prog 24 #[sv] w fun e w' => ∃ b v, e = .returned (.pointer (some ⟨b, 0, none⟩)) ∧ Rd w' b v zs 0 ∧ Below w.heap.size w w' ∧ w.heap.size ≤ b ∧ ∀ k, v.ownBlock = some k → w.heap.size ≤ k := by
  go_enter Try.func24, Try.ntmps24
  go_wp2_with fail
  refine (clone_any sv zs _ hb hz).mono ?_
  rintro e w1 ⟨ao, cap, rfl, hown, B1⟩
  have R : Rd (w1.alloc (.cells #[.slice ao zs.length cap, .int .i64 0] 72)) w1.heap.size (.slice ao zs.length cap) zs 0 :=
    ⟨heap_alloc_new w1 _, hown.bs.below ((Below.refl _ _).alloc (Nat.le_refl _) _) (Nat.le_refl _), fun e => by have := World.ownsRow.lt hown _ e; omega⟩
  have hk : ∀ k, (Value.slice ao zs.length cap).ownBlock = some k → w.heap.size ≤ k := fun k e => (World.ownsRow.lt hown k e).1
  have hs := B1.size
  clear hown
  go_wp2
  go_ret
  exact ⟨_, _, rfl, R, B1.alloc hs _, hs, hk⟩

theorem fail_any (b : Nat) (v : Value) (zs : List Int) (e e2 : Int) (w : World) (hr : Rd w b v zs e) :
    Calls Try.prog 38 #[.pointer (some ⟨b, 0, none⟩), .int .i64 e2] w fun r w' => r = .returned (.tuple #[]) ∧ Rd w' b (.slice none 0 0) [] e2 ∧ Rstep b w w' := by
  have hc0 := hr.cell0
  have hc1 := hr.cell1
  have hf0 := hr.frozen 0
  have hf1 := hr.frozen 1
  have R0 := hr.set0 (Bs_nil w) (by simp [Value.ownBlock])
  have R1 := R0.1.set1 (e' := e2)
  go_enter Try.func38, Try.ntmps38
  go_wp2
  go_end0
  exact ⟨rfl, R1.1, R0.2.trans R1.2⟩

theorem has_err (b : Nat) (v : Value) (zs : List Int) (e n : Int) (w : World) (hr : Rd w b v zs e) (he : e ≠ 0) :
    Calls Try.prog 36 #[.pointer (some ⟨b, 0, none⟩), .int .i64 n] w fun r w' => r = .returned (.bool false) ∧ w = w' := by
  have hc1 := hr.cell1
  have hne : (e != 0) = true := by simp [he]
  go_enter Try.func36, Try.ntmps36
  go_wp2
  go_ret
  exact ⟨rfl, rfl⟩
theorem has_nil (n : Int) (w : World) : Calls Try.prog 36 #[.pointer none, .int .i64 n] w fun r w' => r = .returned (.bool false) ∧ w = w' := by
  go_enter Try.func36, Try.ntmps36
  go_wp2
  go_ret
  exact ⟨rfl, rfl⟩
theorem has_yes (b : Nat) (v : Value) (zs : List Int) (n : Int) (w : World) (hr : Rd w b v zs 0) (hn : n ≤ zs.length) :
    Calls Try.prog 36 #[.pointer (some ⟨b, 0, none⟩), .int .i64 n] w fun r w' => r = .returned (.bool true) ∧ w = w' := by
  have hc0 := hr.cell0
  have hc1 := hr.cell1
  obtain ⟨ao, cap, hv, hm⟩ := hr.2.1.len
  subst hv
  go_enter Try.func36, Try.ntmps36
  go_wp2
  go_ret
  exact ⟨rfl, rfl⟩
theorem has_no (b : Nat) (v : Value) (zs : List Int) (n : Int) (w : World) (hr : Rd w b v zs 0) (hn : (zs.length : Int) < n) :
    Calls Try.prog 36 #[.pointer (some ⟨b, 0, none⟩), .int .i64 n] w fun r w' => r = .returned (.bool false) ∧ Rd w' b (.slice none 0 0) [] 2 ∧ Rstep b w w' := by
  have hc0 := hr.cell0
  have hc1 := hr.cell1
  obtain ⟨ao, cap, hv, hm⟩ := hr.2.1.len
  subst hv
  go_enter Try.func36, Try.ntmps36
  go_wp2_with (go_at_call 38; refine (fail_any b _ zs 0 2 _ hr).mono ?_; rintro e w' ⟨rfl, hr1, hs1⟩)
  go_ret
  exact ⟨rfl, hr1, hs1⟩

theorem rbyte_err (b : Nat) (v : Value) (zs : List Int) (e : Int) (w : World) (hr : Rd w b v zs e) (he : e ≠ 0) :
    Calls Try.prog 27 #[.pointer (some ⟨b, 0, none⟩)] w fun r w' => r = .returned (.int .u8 0) ∧ w = w' := by
  go_enter Try.func27, Try.ntmps27
  go_wp2_with (go_at_call 36; refine (has_err b v zs e _ _ hr he).mono ?_; rintro e w' ⟨rfl, rfl⟩)
  go_ret
  exact ⟨rfl, rfl⟩
theorem rbyte_nil (w : World) : Calls Try.prog 27 #[.pointer none] w fun r w' => r = .returned (.int .u8 0) ∧ w = w' := by
  go_enter Try.func27, Try.ntmps27
  go_wp2_with (go_at_call 36; refine (has_nil _ _).mono ?_; rintro e w' ⟨rfl, rfl⟩)
  go_ret
  exact ⟨rfl, rfl⟩
theorem rbyte_no (b : Nat) (v : Value) (w : World) (hr : Rd w b v [] 0) :
    Calls Try.prog 27 #[.pointer (some ⟨b, 0, none⟩)] w fun r w' => r = .returned (.int .u8 0) ∧ Rd w' b (.slice none 0 0) [] 2 ∧ Rstep b w w' := by
  go_enter Try.func27, Try.ntmps27
  go_wp2_with (go_at_call 36; refine (has_no b v [] _ _ hr (by simp)).mono ?_; rintro e w' ⟨rfl, hr1, hs1⟩)
  go_ret
  exact ⟨rfl, hr1, hs1⟩
theorem rbyte_yes (b : Nat) (v : Value) (z : Int) (zs : List Int) (w : World) (hr : Rd w b v (z :: zs) 0) :
    Calls Try.prog 27 #[.pointer (some ⟨b, 0, none⟩)] w fun r w' => r = .returned (.int .u8 z) ∧ ∃ v', v'.ownBlock = v.ownBlock ∧ Rd w' b v' zs 0 ∧ Rstep b w w' := by
  have hc0 := hr.cell0
  have hf0 := hr.frozen 0
  rcases hr.2.1 with ⟨h0, _⟩ | ⟨_, b2, off, cap, hv, hc1, hc2, hcell⟩
  · cases h0
  subst hv
  have hcz : w.cell? ⟨b2, off, none⟩ = some (.int .u8 z) := by simpa using hcell 0 (by simp)
  have hc1' : zs.length + 1 ≤ cap := by simpa using hc1
  have hnb : b2 ≠ b := fun e => hr.2.2 (by simp [Value.ownBlock, e])
  unfold maxLen at hc2
  by_cases hcap : cap = 1
  · have hz0 : zs = [] := List.eq_nil_of_length_eq_zero (by omega)
    subst hz0
    subst hcap
    have R := hr.set0 (v' := .slice (some ⟨b2, off, none⟩) 0 0) (zs' := []) (Or.inl ⟨rfl, _, 0, rfl, by simp [maxLen], fun e => by cases e⟩) (by simpa [Value.ownBlock] using hnb)
    clear hcell hc1
    go_enter Try.func27, Try.ntmps27
    go_wp2_with (go_at_call 36; refine (has_yes b _ [z] _ _ hr (by simp)).mono ?_; rintro e w' ⟨rfl, rfl⟩)
    go_ret
    exact ⟨rfl, .slice (some ⟨b2, off, none⟩) 0 0, rfl, R⟩
  · have hbs : Bs w (.slice (some ⟨b2, off + 1, none⟩) zs.length (cap - 1)) zs := by
      by_cases hz0 : zs = []
      · subst hz0
        exact Or.inl ⟨rfl, _, cap - 1, rfl, by simp only [maxLen]; omega, fun e => by cases e⟩
      · refine Or.inr ⟨hz0, b2, off + 1, cap - 1, rfl, by omega, by simp only [maxLen]; omega, fun i hi => ?_⟩
        have := hcell (i + 1) (by simp; omega)
        rw [show off + 1 + i = off + (i + 1) by omega, this]
        simp [List.getD]
    have R := hr.set0 hbs (by simpa [Value.ownBlock] using hnb)
    clear hcell hc1
    go_enter Try.func27, Try.ntmps27
    go_wp2_with (go_at_call 36; refine (has_yes b _ (z :: zs) _ _ hr (by simp; omega)).mono ?_; rintro e w' ⟨rfl, rfl⟩)
    go_ret
    exact ⟨rfl, .slice (some ⟨b2, off + 1, none⟩) zs.length (cap - 1), rfl, R⟩

/-- P1.2: the first error; ErrForm, if there is none and something is left. -/
def endR (zs : List Int) (e : Int) : Int := if e = 0 ∧ zs ≠ [] then 3 else e
theorem end_any (b : Nat) (v : Value) (zs : List Int) (e : Int) (w : World) (hr : Rd w b v zs e) :
    Calls Try.prog 29 #[.pointer (some ⟨b, 0, none⟩)] w fun r w' => r = .returned (.int .i64 (endR zs e)) ∧ w = w' := by
  have hc0 := hr.cell0
  have hc1 := hr.cell1
  obtain ⟨ao, cap, hv, hm⟩ := hr.2.1.len
  subst hv
  by_cases he : e = 0
  · subst he
    by_cases hz : zs = []
    · have HE : Hid (0 = endR zs 0) := by show _ = _; simp [endR, hz]
      subst hz
      go_enter Try.func29, Try.ntmps29
      go_wp2
      go_ret
      exact ⟨ret_int HE.out, rfl⟩
    · have HE : Hid (3 = endR zs 0) := by show _ = _; simp [endR, hz]
      have hl : 0 < zs.length := List.length_pos_iff.2 hz
      clear hz
      go_enter Try.func29, Try.ntmps29
      go_wp2
      go_ret
      exact ⟨ret_int HE.out, rfl⟩
  · have HE : Hid (e = endR zs e) := by show _ = _; simp [endR, he]
    have hne : (e == 0) = false := by simp [he]
    clear he
    go_enter Try.func29, Try.ntmps29
    go_wp2
    go_ret
    exact ⟨ret_int HE.out, rfl⟩
theorem end_nil (w : World) : Calls Try.prog 29 #[.pointer none] w fun r w' => r = .returned (.int .i64 2) ∧ w = w' := by
  go_enter Try.func29, Try.ntmps29
  go_wp2
  go_ret
  exact ⟨rfl, rfl⟩
end Go.Proofs.Ytkchdkcdkeajkaa.Oc
