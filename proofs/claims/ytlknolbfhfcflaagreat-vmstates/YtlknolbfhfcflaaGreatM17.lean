/-
  Joined from: OcKnown, OcRefNum, OcReader, OcReaderNum, OcNumsWalk.
-/
import Derived.Test.YtlknolbfhfcflaaGreatM16
import Derived.Lib.SlBytesConst
import Derived.Test.YtlknolbfhfcflaaGreatM14
section
/-
  The law's known: a row of fields and a check sum that the document tells. It answers true, and writes nothing that was there.
-/
namespace Go.Proofs.YtlknolbfhfcflaaGreat.Oc
open Go.RowKit

theorem Wr_new (w : World) : Wr (w.alloc (.cells #[.slice none 0 0] 40)) w.heap.size (.slice none 0 0) [] :=
  ⟨heap_alloc_new w _, World.ownsRow_nil _ _ _ _⟩

/-- A step of a Writer whose block, and row, are new from B on leaves all below B. -/
theorem Wstep.below {b B : Nat} {w w' : World} {v v' : Value} (h : Wstep b w v w' v') (hb : B ≤ b) (hB : B ≤ w.heap.size) (hv : ∀ k, v.ownBlock = some k → B ≤ k) : Below B w w' :=
  ⟨h.os, h.tape, h.output, h.size, fun k hk => h.block k (by omega) (by omega) (fun e => by have := hv k e.symm; omega)⟩
theorem Wr.below {b B : Nat} {w w' : World} {v v' : Value} {xs : List Int} (hw : Wr w b v xs) (h : Wstep b w v w' v') (hb : B ≤ b) : Below B w w' :=
  h.below hb (by have := hw.lt; omega) (fun k hk => by have := World.ownsRow.lt hw.2 k hk; omega)

end Go.Proofs.YtlknolbfhfcflaaGreat.Oc
end

section
/-
  The document's own Num (a number of both signs as bytes), by contract.
-/
namespace Go.Proofs.YtlknolbfhfcflaaGreat.Oc
open Go.RowKit

theorem and127 (u : Int) (h0 : 0 ≤ u) (h1 : u < 18446744073709551616) : bits .and .u64 u 127 = u % 128 := by
  obtain ⟨a, rfl⟩ := Int.eq_ofNat_of_zero_le h0
  have := u64_and_nat a 127 (by omega) (by decide)
  rw [nat_mask7] at this
  rw [show (127 : Int) = ((127 : Nat) : Int) from rfl, this]
  omega

end Go.Proofs.YtlknolbfhfcflaaGreat.Oc
end

section
/-
  The Reader: what it is in memory, and the contracts of NewReader, fail, has, Byte, Left, End.
-/
namespace Go.Proofs.YtlknolbfhfcflaaGreat.Oc
open Go.RowKit

/-- Block b is a Reader that has zs left and the error e; its slice is v. -/
def Rd (w : World) (b : Nat) (v : Value) (zs : List Int) (e : Int) : Prop := w.heap[b]? = some (.cells #[v, .int .i64 e] 84 (0, 0)) ∧ Bs w v zs ∧ v.ownBlock ≠ some b

/-- What a Reader's step leaves: all but the Reader's own block is as it was. -/
structure Rstep (b : Nat) (w w' : World) : Prop where
  os : w'.os = w.os
  tape : w'.tape = w.tape
  output : w'.output = w.output
  size : w.heap.size ≤ w'.heap.size
  block : ∀ k, k < w.heap.size → k ≠ b → w'.heap[k]? = w.heap[k]?
theorem Rstep.refl (b : Nat) (w : World) : Rstep b w w := ⟨rfl, rfl, rfl, Nat.le_refl _, fun _ _ _ => rfl⟩
theorem Rstep.trans {b : Nat} {w w1 w2 : World} (h : Rstep b w w1) (k : Rstep b w1 w2) : Rstep b w w2 :=
  ⟨k.os.trans h.os, k.tape.trans h.tape, k.output.trans h.output, Nat.le_trans h.size k.size, fun i hi hb => (k.block i (Nat.lt_of_lt_of_le hi h.size) hb).trans (h.block i hi hb)⟩
theorem Rstep.of_below {b B : Nat} {w w' : World} (h : Below B w w') (hB : w.heap.size ≤ B) : Rstep b w w' := ⟨h.os, h.tape, h.output, h.size, fun k hk _ => h.block k (by omega)⟩
theorem Rstep.below {b B : Nat} {w w' : World} (h : Rstep b w w') (hb : B ≤ b) (hB : B ≤ w.heap.size) : Below B w w' := ⟨h.os, h.tape, h.output, h.size, fun k hk => h.block k (by omega) (by omega)⟩

theorem Rd.lt {w : World} {b : Nat} {v : Value} {zs : List Int} {e : Int} (h : Rd w b v zs e) : b < w.heap.size := (Array.getElem?_eq_some_iff.1 h.1).1
theorem Rd.cell0 {w : World} {b : Nat} {v : Value} {zs : List Int} {e : Int} (h : Rd w b v zs e) : w.cell? ⟨b, 0, none⟩ = some v := by
  rw [cell_of_row w b 0 _ _ _ h.1]; rfl
theorem Rd.cell1 {w : World} {b : Nat} {v : Value} {zs : List Int} {e : Int} (h : Rd w b v zs e) : w.cell? ⟨b, 1, none⟩ = some (.int .i64 e) := by
  rw [cell_of_row w b 1 _ _ _ h.1]; rfl
theorem Rd.frozen {w : World} {b : Nat} {v : Value} {zs : List Int} {e : Int} (h : Rd w b v zs e) (i : Nat) : w.frozen? ⟨b, i, none⟩ = false := by
  simp [World.frozen?, h.1]
/-- Another slice in the Reader's first field. -/
theorem Rd.set0 {w : World} {b : Nat} {v v' : Value} {zs zs' : List Int} {e : Int} (h : Rd w b v zs e) (hb : Bs w v' zs') (hv : v'.ownBlock ≠ some b) : Rd (w.setCell ⟨b, 0, none⟩ v') b v' zs' e ∧ Rstep b w (w.setCell ⟨b, 0, none⟩ v') := by
  refine ⟨⟨?_, hb.keep fun k hk _ => Below.heap_setCell _ _ _ _ (fun e => hv (by rw [hk, e])), hv⟩, ⟨rfl, rfl, rfl, by simp [World.setCell], fun k _ hkb => Below.heap_setCell _ _ _ _ hkb⟩⟩
  simp only [World.setCell, Array.getElem?_modify, h.1]
  simp
theorem Rd.set1 {w : World} {b : Nat} {v : Value} {zs : List Int} {e e' : Int} (h : Rd w b v zs e) : Rd (w.setCell ⟨b, 1, none⟩ (.int .i64 e')) b v zs e' ∧ Rstep b w (w.setCell ⟨b, 1, none⟩ (.int .i64 e')) := by
  refine ⟨⟨?_, h.2.1.keep fun k hk _ => Below.heap_setCell _ _ _ _ (fun e => h.2.2 (by rw [hk, e])), h.2.2⟩, ⟨rfl, rfl, rfl, by simp [World.setCell], fun k _ hkb => Below.heap_setCell _ _ _ _ hkb⟩⟩
  simp only [World.setCell, Array.getElem?_modify, h.1]
  simp
theorem Rd.sm {w w' : World} {b : Nat} {v : Value} {zs : List Int} {e : Int} (h : Rd w b v zs e) (hs : Sm w w') : Rd w' b v zs e := ⟨by rw [hs.heap]; exact h.1, hs.bs h.2.1, h.2.2⟩
theorem Bs_nil (w : World) : Bs w (.slice none 0 0) [] := Or.inl ⟨rfl, none, 0, rfl, by simp [maxLen], fun _ => rfl⟩

theorem newReader_any (sv : Value) (zs : List Int) (w : World) (hb : Bs w sv zs) (hz : zs.length ≤ 100000000000000) :
    Calls Tryz.prog 22 #[sv] w fun e w' => ∃ b v, e = .returned (.pointer (some ⟨b, 0, none⟩)) ∧ Rd w' b v zs 0 ∧ Below w.heap.size w w' ∧ w.heap.size ≤ b ∧ ∀ k, v.ownBlock = some k → w.heap.size ≤ k := by
  go_enter Tryz.func22, Tryz.ntmps22
  go_wp2_with fail
  refine (clone_any sv zs _ hb hz).mono ?_
  rintro e w1 ⟨ao, cap, rfl, hown, B1⟩
  have R : Rd (w1.alloc (.cells #[.slice ao zs.length cap, .int .i64 0] 84)) w1.heap.size (.slice ao zs.length cap) zs 0 :=
    ⟨heap_alloc_new w1 _, hown.bs.below ((Below.refl _ _).alloc (Nat.le_refl _) _) (Nat.le_refl _), fun e => by have := World.ownsRow.lt hown _ e; omega⟩
  have hk : ∀ k, (Value.slice ao zs.length cap).ownBlock = some k → w.heap.size ≤ k := fun k e => (World.ownsRow.lt hown k e).1
  have hs := B1.size
  clear hown
  go_wp2
  go_ret
  exact ⟨_, _, rfl, R, B1.alloc hs _, hs, hk⟩

theorem fail_any (b : Nat) (v : Value) (zs : List Int) (e e2 : Int) (w : World) (hr : Rd w b v zs e) :
    Calls Tryz.prog 44 #[.pointer (some ⟨b, 0, none⟩), .int .i64 e2] w fun r w' => r = .returned (.tuple #[]) ∧ Rd w' b (.slice none 0 0) [] e2 ∧ Rstep b w w' := by
  have hc0 := hr.cell0
  have hc1 := hr.cell1
  have hf0 := hr.frozen 0
  have hf1 := hr.frozen 1
  have R0 := hr.set0 (Bs_nil w) (by simp [Value.ownBlock])
  have R1 := R0.1.set1 (e' := e2)
  go_enter Tryz.func44, Tryz.ntmps44
  go_wp2
  go_end0
  exact ⟨rfl, R1.1, R0.2.trans R1.2⟩

theorem has_err (b : Nat) (v : Value) (zs : List Int) (e n : Int) (w : World) (hr : Rd w b v zs e) (he : e ≠ 0) :
    Calls Tryz.prog 42 #[.pointer (some ⟨b, 0, none⟩), .int .i64 n] w fun r w' => r = .returned (.bool false) ∧ w = w' := by
  have hc1 := hr.cell1
  have hne : (e != 0) = true := by simp [he]
  go_enter Tryz.func42, Tryz.ntmps42
  go_wp2
  go_ret
  exact ⟨rfl, rfl⟩
theorem has_nil (n : Int) (w : World) : Calls Tryz.prog 42 #[.pointer none, .int .i64 n] w fun r w' => r = .returned (.bool false) ∧ w = w' := by
  go_enter Tryz.func42, Tryz.ntmps42
  go_wp2
  go_ret
  exact ⟨rfl, rfl⟩
theorem has_yes (b : Nat) (v : Value) (zs : List Int) (n : Int) (w : World) (hr : Rd w b v zs 0) (hn : n ≤ zs.length) :
    Calls Tryz.prog 42 #[.pointer (some ⟨b, 0, none⟩), .int .i64 n] w fun r w' => r = .returned (.bool true) ∧ w = w' := by
  have hc0 := hr.cell0
  have hc1 := hr.cell1
  obtain ⟨ao, cap, hv, hm⟩ := hr.2.1.len
  subst hv
  go_enter Tryz.func42, Tryz.ntmps42
  go_wp2
  go_ret
  exact ⟨rfl, rfl⟩
theorem has_no (b : Nat) (v : Value) (zs : List Int) (n : Int) (w : World) (hr : Rd w b v zs 0) (hn : (zs.length : Int) < n) :
    Calls Tryz.prog 42 #[.pointer (some ⟨b, 0, none⟩), .int .i64 n] w fun r w' => r = .returned (.bool false) ∧ Rd w' b (.slice none 0 0) [] 2 ∧ Rstep b w w' := by
  have hc0 := hr.cell0
  have hc1 := hr.cell1
  obtain ⟨ao, cap, hv, hm⟩ := hr.2.1.len
  subst hv
  go_enter Tryz.func42, Tryz.ntmps42
  go_wp2_with (go_at_call 44; refine (fail_any b _ zs 0 2 _ hr).mono ?_; rintro e w' ⟨rfl, hr1, hs1⟩)
  go_ret
  exact ⟨rfl, hr1, hs1⟩

theorem rbyte_err (b : Nat) (v : Value) (zs : List Int) (e : Int) (w : World) (hr : Rd w b v zs e) (he : e ≠ 0) :
    Calls Tryz.prog 25 #[.pointer (some ⟨b, 0, none⟩)] w fun r w' => r = .returned (.int .u8 0) ∧ w = w' := by
  go_enter Tryz.func25, Tryz.ntmps25
  go_wp2_with (go_at_call 42; refine (has_err b v zs e _ _ hr he).mono ?_; rintro e w' ⟨rfl, rfl⟩)
  go_ret
  exact ⟨rfl, rfl⟩
theorem rbyte_nil (w : World) : Calls Tryz.prog 25 #[.pointer none] w fun r w' => r = .returned (.int .u8 0) ∧ w = w' := by
  go_enter Tryz.func25, Tryz.ntmps25
  go_wp2_with (go_at_call 42; refine (has_nil _ _).mono ?_; rintro e w' ⟨rfl, rfl⟩)
  go_ret
  exact ⟨rfl, rfl⟩
theorem rbyte_no (b : Nat) (v : Value) (w : World) (hr : Rd w b v [] 0) :
    Calls Tryz.prog 25 #[.pointer (some ⟨b, 0, none⟩)] w fun r w' => r = .returned (.int .u8 0) ∧ Rd w' b (.slice none 0 0) [] 2 ∧ Rstep b w w' := by
  go_enter Tryz.func25, Tryz.ntmps25
  go_wp2_with (go_at_call 42; refine (has_no b v [] _ _ hr (by simp)).mono ?_; rintro e w' ⟨rfl, hr1, hs1⟩)
  go_ret
  exact ⟨rfl, hr1, hs1⟩
theorem rbyte_yes (b : Nat) (v : Value) (z : Int) (zs : List Int) (w : World) (hr : Rd w b v (z :: zs) 0) :
    Calls Tryz.prog 25 #[.pointer (some ⟨b, 0, none⟩)] w fun r w' => r = .returned (.int .u8 z) ∧ ∃ v', v'.ownBlock = v.ownBlock ∧ Rd w' b v' zs 0 ∧ Rstep b w w' := by
  have hc0 := hr.cell0
  have hf0 := hr.frozen 0
  rcases hr.2.1 with ⟨h0, _⟩ | ⟨_, b2, off, cap, hv, hc1, hc2, hcell⟩
  · cases h0
  subst hv
  have hcz : w.cell? ⟨b2, off, none⟩ = some (.int .u8 z) := by simpa using hcell 0 (by simp)
  have hc1' : zs.length + 1 ≤ cap := by simpa using hc1
  have hnb : b2 ≠ b := fun e => hr.2.2 (by simp [Value.ownBlock, e])
  unfold maxLen at hc2
  by_cases hcap : cap = 1
  · have hz0 : zs = [] := List.eq_nil_of_length_eq_zero (by omega)
    subst hz0
    subst hcap
    have R := hr.set0 (v' := .slice (some ⟨b2, off, none⟩) 0 0) (zs' := []) (Or.inl ⟨rfl, _, 0, rfl, by simp [maxLen], fun e => by cases e⟩) (by simpa [Value.ownBlock] using hnb)
    clear hcell hc1
    go_enter Tryz.func25, Tryz.ntmps25
    go_wp2_with (go_at_call 42; refine (has_yes b _ [z] _ _ hr (by simp)).mono ?_; rintro e w' ⟨rfl, rfl⟩)
    go_ret
    exact ⟨rfl, .slice (some ⟨b2, off, none⟩) 0 0, rfl, R⟩
  · have hbs : Bs w (.slice (some ⟨b2, off + 1, none⟩) zs.length (cap - 1)) zs := by
      by_cases hz0 : zs = []
      · subst hz0
        exact Or.inl ⟨rfl, _, cap - 1, rfl, by simp only [maxLen]; omega, fun e => by cases e⟩
      · refine Or.inr ⟨hz0, b2, off + 1, cap - 1, rfl, by omega, by simp only [maxLen]; omega, fun i hi => ?_⟩
        have := hcell (i + 1) (by simp; omega)
        rw [show off + 1 + i = off + (i + 1) by omega, this]
        simp [List.getD]
    have R := hr.set0 hbs (by simpa [Value.ownBlock] using hnb)
    clear hcell hc1
    go_enter Tryz.func25, Tryz.ntmps25
    go_wp2_with (go_at_call 42; refine (has_yes b _ (z :: zs) _ _ hr (by simp; omega)).mono ?_; rintro e w' ⟨rfl, rfl⟩)
    go_ret
    exact ⟨rfl, .slice (some ⟨b2, off + 1, none⟩) zs.length (cap - 1), rfl, R⟩

/-- P1.2: the first error; ErrForm, if there is none and something is left. -/
def endR (zs : List Int) (e : Int) : Int := if e = 0 ∧ zs ≠ [] then 3 else e
theorem end_any (b : Nat) (v : Value) (zs : List Int) (e : Int) (w : World) (hr : Rd w b v zs e) :
    Calls Tryz.prog 26 #[.pointer (some ⟨b, 0, none⟩)] w fun r w' => r = .returned (.int .i64 (endR zs e)) ∧ w = w' := by
  have hc0 := hr.cell0
  have hc1 := hr.cell1
  obtain ⟨ao, cap, hv, hm⟩ := hr.2.1.len
  subst hv
  by_cases he : e = 0
  · subst he
    by_cases hz : zs = []
    · have HE : Hid (0 = endR zs 0) := by show _ = _; simp [endR, hz]
      subst hz
      go_enter Tryz.func26, Tryz.ntmps26
      go_wp2
      go_ret
      exact ⟨ret_int HE.out, rfl⟩
    · have HE : Hid (3 = endR zs 0) := by show _ = _; simp [endR, hz]
      have hl : 0 < zs.length := List.length_pos_iff.2 hz
      clear hz
      go_enter Tryz.func26, Tryz.ntmps26
      go_wp2
      go_ret
      exact ⟨ret_int HE.out, rfl⟩
  · have HE : Hid (e = endR zs e) := by show _ = _; simp [endR, he]
    have hne : (e == 0) = false := by simp [he]
    clear he
    go_enter Tryz.func26, Tryz.ntmps26
    go_wp2
    go_ret
    exact ⟨ret_int HE.out, rfl⟩
theorem end_nil (w : World) : Calls Tryz.prog 26 #[.pointer none] w fun r w' => r = .returned (.int .i64 2) ∧ w = w' := by
  go_enter Tryz.func26, Tryz.ntmps26
  go_wp2
  go_ret
  exact ⟨rfl, rfl⟩
end Go.Proofs.YtlknolbfhfcflaaGreat.Oc
end

section
/-
  The Reader's Num, by contract: whatever bytes are left.
-/
namespace Go.Proofs.YtlknolbfhfcflaaGreat.Oc
open Go.RowKit

theorem unfold_any (u : Nat) (w : World) (h1 : u < 18446744073709551616) :
    Calls Tryz.prog 45 #[.int .u64 (u : Nat)] w fun r w' => r = .returned (.int .i64 (unfoldI u)) ∧ w = w' := by
  have ea := u64_and_nat u 1 h1 (by decide)
  rw [nat_mask1] at ea
  by_cases ho : u % 2 = 1
  · have ea1 : bits .and .u64 (u : Int) 1 = 1 := by rw [ho] at ea; exact ea
    have HE : Hid (bits .xor .i64 (-1) ((u : Int) / 2) = unfoldI u) := by
      show _ = _
      rw [unfoldI_odd ho, not64 _ (by omega) (by omega)]
      omega
    clear ea ho
    go_enter Tryz.func45, Tryz.ntmps45
    go_wp2
    go_ret
    exact ⟨ret_int HE.out, rfl⟩
  · have ea1 : bits .and .u64 (u : Int) 1 = 0 := by rw [show u % 2 = 0 by omega] at ea; exact ea
    have HE : Hid ((u : Int) / 2 = unfoldI u) := by
      show _ = _
      rw [unfoldI_even ho]
      omega
    clear ea ho
    go_enter Tryz.func45, Tryz.ntmps45
    go_wp2
    go_ret
    exact ⟨ret_int HE.out, rfl⟩
theorem mayEnd_bad (k : Nat) (z : Int) (w : World) (h : badB k z = true) :
    Calls Tryz.prog 43 #[.int .i64 k, .int .u8 z] w fun r w' => r = .returned (.bool false) ∧ w = w' := by
  by_cases h1 : k = 9 ∧ 1 < z
  · obtain ⟨rfl, h2⟩ := h1
    clear h
    go_enter Tryz.func43, Tryz.ntmps43
    go_wp2
    go_ret
    exact ⟨rfl, rfl⟩
  · have h2 : k ≠ 0 ∧ z = 0 := by
      simp [badB] at h
      omega
    obtain ⟨hk, rfl⟩ := h2
    have hk0 : ((k : Int) == 0) = false := by simp; omega
    clear h h1
    by_cases h9 : k = 9
    · subst h9
      go_enter Tryz.func43, Tryz.ntmps43
      go_wp2
      go_ret
      exact ⟨rfl, rfl⟩
    · have h9' : ((k : Int) == 9) = false := by simp; omega
      go_enter Tryz.func43, Tryz.ntmps43
      go_wp2
      go_ret
      exact ⟨rfl, rfl⟩
theorem mayEnd_good (k : Nat) (z : Int) (w : World) (h : badB k z = false) :
    Calls Tryz.prog 43 #[.int .i64 k, .int .u8 z] w fun r w' => r = .returned (.bool true) ∧ w = w' := by
  simp [badB] at h
  obtain ⟨h1, h2⟩ := h
  by_cases h9 : k = 9
  · subst h9
    have hz1 : z ≤ 1 := h1 rfl
    have hz : (z != 0) = true := by simp; exact h2 (by decide)
    clear h1 h2
    go_enter Tryz.func43, Tryz.ntmps43
    go_wp2
    go_ret
    exact ⟨rfl, rfl⟩
  · have h9' : ((k : Int) == 9) = false := by simp; omega
    by_cases h0 : k = 0
    · subst h0
      clear h1 h2
      go_enter Tryz.func43, Tryz.ntmps43
      go_wp2
      go_ret
      exact ⟨rfl, rfl⟩
    · have h0' : ((k : Int) == 0) = false := by simp; omega
      have hz : (z != 0) = true := by simp; exact h2 h0
      clear h1 h2
      go_enter Tryz.func43, Tryz.ntmps43
      go_wp2
      go_ret
      exact ⟨rfl, rfl⟩

/-- What a taking leaves. -/
def Rleft (w : World) (b : Nat) (v : Value) (w' : World) (zs : List Int) (e : Int) : Prop := ∃ v', Rd w' b v' zs e ∧ Rstep b w w' ∧ (v'.ownBlock = v.ownBlock ∨ v'.ownBlock = none)

set_option maxHeartbeats 1600000 in
theorem rnum_any (b : Nat) (v : Value) (zs : List Int) (w : World) (hr : Rd w b v zs 0) (hz : Byt zs) :
    Calls Tryz.prog 23 #[.pointer (some ⟨b, 0, none⟩)] w fun r w' => r = .returned (.int .i64 (numR 10 0 0 zs).1) ∧ Rleft w b v w' (numR 10 0 0 zs).2.1 (numR 10 0 0 zs).2.2 := by
  generalize hres : numR 10 0 0 zs = res
  have HR : Hid (numR 10 0 0 zs = res) := hres
  clear hres
  go_enter Tryz.func23, Tryz.ntmps23
  go_wp2
  go_loopw [3, 6] (fun u i wr => ∃ (k : Nat) (U : Int) (v1 : Value) (zs1 : List Int), k ≤ 10 ∧ i = .int .i64 k ∧ u = .int .u64 U ∧ Rd wr b v1 zs1 0 ∧ Byt zs1 ∧ Rstep b w wr ∧ v1.ownBlock = v.ownBlock ∧ (∃ U' : Nat, (k ≤ 9 → U = U' ∧ U' < 128 ^ k) ∧ Hid (numR (10 - k) k U' zs1 = res))) (fun _ i _ => 10 - (intOf i).toNat)
  case atStart => exact ⟨0, 0, v, zs, by decide, rfl, rfl, hr, hz, Rstep.refl _ _, rfl, 0, fun _ => ⟨rfl, by decide⟩, HR⟩
  case round =>
    obtain ⟨k, U, v1, zs1, hk, rfl, rfl, hr1, hz1, hs1, ho1, U', hU, HR1⟩ := hrel
    by_cases hk10 : k = 10
    · subst hk10
      have HF : Hid (res = (0, [], 3)) := by show _ = _; rw [← HR1.out]; rfl
      clear HR HR1 hU
      go_wp2_with (go_at_call 44; refine (fail_any b _ _ _ 3 _ hr1).mono ?_; rintro e w' ⟨rfl, hr2, hs2⟩)
      go_ret
      rw [HF.out]
      exact ⟨rfl, _, hr2, hs1.trans hs2, Or.inr rfl⟩
    obtain ⟨rfl, hU1⟩ := hU (by omega)
    obtain ⟨f, hf⟩ : ∃ f, 10 - k = f + 1 := ⟨9 - k, by omega⟩
    rw [hf] at HR1
    have hf2 : f = 10 - (k + 1) := by omega
    have hklt : k < 10 := by omega
    clear hU hf
    cases zs1 with
    | nil =>
      have HF : Hid (res = (0, [], 2)) := by show _ = _; rw [← HR1.out]; rfl
      clear HR HR1
      go_wp2_with (go_at_call 42; refine (has_no b _ [] _ _ hr1 (by simp)).mono ?_; rintro e w' ⟨rfl, hr2, hs2⟩)
      go_ret
      rw [HF.out]
      exact ⟨rfl, _, hr2, hs1.trans hs2, Or.inr rfl⟩
    | cons z r =>
      obtain ⟨hz0, hz256⟩ := hz1 z (by simp)
      have hzr : Byt r := fun y hy => hz1 y (by simp [hy])
      by_cases hz128 : 128 ≤ z
      · have HR2 : Hid (numR f (k + 1) (U' + (z.toNat % 128) * 128 ^ k) r = res) := by
          show _ = _
          rw [← HR1.out, numR_more hz128]
        have HO : Hid (k + 1 ≤ 9 → bits .or .u64 (U' : Int) (IntKind.u64.wrap (IntKind.u64.wrap (bits .andNot .u8 z 128) * 2 ^ (7 * k))) = ((U' + (z.toNat % 128) * 128 ^ k : Nat) : Int) ∧ U' + (z.toNat % 128) * 128 ^ k < 128 ^ (k + 1)) := by
          intro hk9
          refine ⟨orStep U' k z hz0 hz256 (by omega) hU1 (by omega), ?_⟩
          have : (z.toNat % 128) * 128 ^ k ≤ 127 * 128 ^ k := Nat.mul_le_mul_right _ (by omega)
          rw [Nat.pow_succ]
          omega
        clear HR HR1
        go_wp2_with fail
        refine (has_yes b _ _ _ _ hr1 (by simp; omega)).mono ?_
        rintro e w' ⟨rfl, rfl⟩
        go_wp2_with fail
        refine (rbyte_yes b _ _ _ _ hr1).mono ?_
        rintro e w2 ⟨rfl, v2, hv2, hr2, hs2⟩
        go_wp2_with fail
        go_roundw
        case rel => exact ⟨k + 1, _, v2, r, by omega, by go_num, rfl, hr2, hzr, hs1.trans hs2, hv2.trans ho1, _, HO.out, by rw [← hf2]; exact HR2⟩
        case measure => simp [intOf]; omega
      · have hz128' : z < 128 := by omega
        cases hbad : badB k z with
        | true =>
          have HF : Hid (res = (0, [], 3)) := by show _ = _; rw [← HR1.out, numR_bad hz128 hbad]
          clear HR HR1
          go_wp2_with fail
          refine (has_yes b _ _ _ _ hr1 (by simp; omega)).mono ?_
          rintro e w' ⟨rfl, rfl⟩
          go_wp2_with fail
          refine (rbyte_yes b _ _ _ _ hr1).mono ?_
          rintro e w2 ⟨rfl, v2, hv2, hr2, hs2⟩
          go_wp2_with fail
          refine (mayEnd_bad k z _ hbad).mono ?_
          rintro e w' ⟨rfl, rfl⟩
          go_wp2_with fail
          refine (fail_any b _ _ _ 3 _ hr2).mono ?_
          rintro e w3 ⟨rfl, hr3, hs3⟩
          go_wp2_with fail
          go_ret
          rw [HF.out]
          exact ⟨rfl, _, hr3, (hs1.trans hs2).trans hs3, Or.inr rfl⟩
        | false =>
          have HF : Hid (res = (unfoldI (U' + z.toNat * 128 ^ k), r, 0)) := by show _ = _; rw [← HR1.out, numR_good hz128 hbad]
          have hm : z.toNat % 128 = z.toNat := by omega
          have h9 : k = 9 → z.toNat % 128 ≤ 1 := by
            intro e
            simp [badB] at hbad
            have := hbad.1 e
            omega
          have ho := orStep U' k z hz0 hz256 (by omega) hU1 h9
          have hfs := fits_step k (z.toNat % 128) (by omega) (by omega) h9
          have hp9 := pow_le9 k (by omega)
          rw [hm] at ho hfs
          have hN : U' + z.toNat * 128 ^ k < 18446744073709551616 := by omega
          generalize U' + z.toNat * 128 ^ k = N at *
          have HO : Hid (bits .or .u64 (U' : Int) (IntKind.u64.wrap (IntKind.u64.wrap (bits .andNot .u8 z 128) * 2 ^ (7 * k))) = (N : Int)) := ho
          clear HR HR1 ho hfs hp9 hm
          go_wp2_with fail
          refine (has_yes b _ _ _ _ hr1 (by simp; omega)).mono ?_
          rintro e w' ⟨rfl, rfl⟩
          go_wp2_with fail
          refine (rbyte_yes b _ _ _ _ hr1).mono ?_
          rintro e w2 ⟨rfl, v2, hv2, hr2, hs2⟩
          go_wp2_with fail
          refine (mayEnd_good k z _ hbad).mono ?_
          rintro e w' ⟨rfl, rfl⟩
          go_wp2_with fail
          rw [HO.out]
          refine (unfold_any N _ hN).mono ?_
          rintro e w3 ⟨rfl, rfl⟩
          go_wp2_with fail
          go_ret
          rw [HF.out]
          exact ⟨rfl, _, hr2, hs1.trans hs2, Or.inl (hv2.trans ho1)⟩

theorem rnum_err (b : Nat) (v : Value) (zs : List Int) (e : Int) (w : World) (hr : Rd w b v zs e) (he : e ≠ 0) :
    Calls Tryz.prog 23 #[.pointer (some ⟨b, 0, none⟩)] w fun r w' => r = .returned (.int .i64 0) ∧ w = w' := by
  go_enter Tryz.func23, Tryz.ntmps23
  go_wp2
  refine wp_loop_rounds 1 ?_
  rw [rounds_succ]
  go_wp2_with (go_at_call 42; refine (has_err b v zs e _ _ hr he).mono ?_; rintro e w' ⟨rfl, rfl⟩)
  go_ret
  exact ⟨rfl, rfl⟩
theorem rnum_nil (w : World) :
    Calls Tryz.prog 23 #[.pointer none] w fun r w' => r = .returned (.int .i64 0) ∧ w = w' := by
  go_enter Tryz.func23, Tryz.ntmps23
  go_wp2
  refine wp_loop_rounds 1 ?_
  rw [rounds_succ]
  go_wp2_with (go_at_call 42; refine (has_nil _ _).mono ?_; rintro e w' ⟨rfl, rfl⟩)
  go_ret
  exact ⟨rfl, rfl⟩
end Go.Proofs.YtlknolbfhfcflaaGreat.Oc
end

section
/-
  OctetNums, walked: for every number and whatever stands behind it answers true, and writes nothing that was there.
-/
namespace Go.Proofs.YtlknolbfhfcflaaGreat.Oc
open Go.RowKit

theorem numOf_byt (v : Int) (h0 : -9223372036854775808 ≤ v) (h1 : v ≤ 9223372036854775807) : Byt (numOf v) := by
  have hr := foldI_range v h0 h1
  exact numB_bytes 9 _ (Fits.start _ hr.1 hr.2)
theorem Byt.append {a b : List Int} (ha : Byt a) (hb : Byt b) : Byt (a ++ b) := fun z hz => by
  rcases List.mem_append.1 hz with h | h
  · exact ha z h
  · exact hb z h
/-- A Reader is as it was, if its block and its row are. -/
theorem Rd.keep {w w' : World} {b : Nat} {v : Value} {zs : List Int} {e : Int} (h : Rd w b v zs e) (hb : w'.heap[b]? = w.heap[b]?) (hk : ∀ k, v.ownBlock = some k → k < w.heap.size → w'.heap[k]? = w.heap[k]?) : Rd w' b v zs e :=
  ⟨by rw [hb]; exact h.1, h.2.1.keep hk, h.2.2⟩
theorem Rd.below {w w' : World} {b B : Nat} {v : Value} {zs : List Int} {e : Int} (h : Rd w b v zs e) (hB : Below B w w') (hs : w.heap.size ≤ B) : Rd w' b v zs e :=
  h.keep (hB.block b (by have := h.lt; omega)) (fun k _ hk => hB.block k (by omega))

end Go.Proofs.YtlknolbfhfcflaaGreat.Oc
end
