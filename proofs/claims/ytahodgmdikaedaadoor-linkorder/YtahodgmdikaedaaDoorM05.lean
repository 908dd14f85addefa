/-
  Joined from: Known, RefNum, Reader, ReaderNum, NumsWalk, ReaderRows, Help, SumsWalk.
-/
import Derived.Test.YtahodgmdikaedaaDoorM04
import Derived.Lib.SlBytesConst
import Derived.Test.YtahodgmdikaedaaDoorM02
section
/-
  The law's known: a row of fields and a check sum that the document tells. It answers true, and writes nothing that was there.
-/
namespace Go.Proofs.YtahodgmdikaedaaDoor
open Go.RowKit

theorem Wr_new (w : World) : Wr (w.alloc (.cells #[.slice none 0 0] 114)) w.heap.size (.slice none 0 0) [] :=
  ⟨heap_alloc_new w _, World.ownsRow_nil _ _ _ _⟩

/-- A step of a Writer whose block, and row, are new from B on leaves all below B. -/
theorem Wstep.below {b B : Nat} {w w' : World} {v v' : Value} (h : Wstep b w v w' v') (hb : B ≤ b) (hB : B ≤ w.heap.size) (hv : ∀ k, v.ownBlock = some k → B ≤ k) : Below B w w' :=
  ⟨h.os, h.tape, h.output, h.size, fun k hk => h.block k (by omega) (by omega) (fun e => by have := hv k e.symm; omega)⟩
theorem Wr.below {b B : Nat} {w w' : World} {v v' : Value} {xs : List Int} (hw : Wr w b v xs) (h : Wstep b w v w' v') (hb : B ≤ b) : Below B w w' :=
  h.below hb (by have := hw.lt; omega) (fun k hk => by have := World.ownsRow.lt hw.2 k hk; omega)

end Go.Proofs.YtahodgmdikaedaaDoor
end

section
/-
  The document's own Num (a number of both signs as bytes), by contract.
-/
namespace Go.Proofs.YtahodgmdikaedaaDoor
open Go.RowKit

theorem and127 (u : Int) (h0 : 0 ≤ u) (h1 : u < 18446744073709551616) : bits .and .u64 u 127 = u % 128 := by
  obtain ⟨a, rfl⟩ := Int.eq_ofNat_of_zero_le h0
  have := u64_and_nat a 127 (by omega) (by decide)
  rw [nat_mask7] at this
  rw [show (127 : Int) = ((127 : Nat) : Int) from rfl, this]
  omega

set_option maxHeartbeats 1600000 in
theorem refNum_any (x : Int) (w : World) (h0 : -9223372036854775808 ≤ x) (h1 : x ≤ 9223372036854775807) :
    Calls Tryd.prog 31 #[.int .i64 x] w fun e w' => ∃ ao cap, e = .returned (.slice ao (numOf x).length cap) ∧ Ow w' w.heap.size (.slice ao (numOf x).length cap) (numOf x) ∧ Below w.heap.size w w' := by
  have hr := foldI_range x h0 h1
  have hnl := numOf_length x
  have HE1 : Hid (x < 0 → 2 * -(x + 1) + 1 = foldI x) := fun h => by rw [foldI_neg h]; omega
  have HE2 : Hid (¬ x < 0 → 2 * x = foldI x) := fun h => by rw [foldI_pos h]
  by_cases hx : x < 0
  all_goals
    go_enter Tryd.func31, Tryd.ntmps31
    go_wp2
    go_loopw [3, 4] (fun s c wr => ∃ (f : Nat) (u : Int) (ys : List Int) (ao : Option Addr) (cap : Nat), s = .int .u64 u ∧ c = .slice ao ys.length cap ∧ u < 18446744073709551616 ∧ Fits f u ∧ Hid (ys ++ numB f u = numOf x) ∧ Ow wr w.heap.size (.slice ao ys.length cap) ys ∧ Below w.heap.size w wr) (fun s _ _ => (intOf s).toNat)
    case atStart =>
      refine ⟨9, foldI x, [], none, 0, ?_, rfl, hr.2, Fits.start _ hr.1 hr.2, rfl, World.ownsRow_nil _ _ _ _, Below.refl _ _⟩
      first | exact congrArg (Value.int .u64) (HE1.out hx) | exact congrArg (Value.int .u64) (HE2.out hx)
    case round =>
      obtain ⟨f, u, ys, ao, cap, rfl, rfl, hu1, hf, HE, hown, hbel⟩ := hrel
      have hu0 := hf.1
      have hyl : ys.length ≤ 10 := by
        have := congrArg List.length HE.out
        simp only [List.length_append] at this
        omega
      have hbs := hbel.size
      by_cases hlt : u < 128
      · have HF : Hid (ys ++ [u] = numOf x) := by rw [numB_small f u hlt] at HE; exact HE
        have hmod : u % 256 = u := by omega
        have hown1 : Ow (wr.alloc (.cells #[.int .u8 u] 5)) w.heap.size (.slice ao ys.length cap) ys := World.ownsRow.alloc hown _
        have hbs1 : Bs (wr.alloc (.cells #[.int .u8 u] 5)) (.slice (some ⟨wr.heap.size, 0, none⟩) 1 1) [u] := Bs_of_block (heap_alloc_new wr _) (by simp [maxLen])
        clear HE HE1 HE2
        go_wp2_with (at_builtin; refine wpList_append_bs _ rfl (.tmp 27) (.tmp 30) rfl w.heap.size _ ys rfl hown1 _ [u] rfl hbs1 (by simp; omega) (by simp; omega) ?_)
        intro ao2 cap2 w2 hown2 hgrow2 hat2
        have B2 : Below w.heap.size w w2 := (hbel.alloc hbs _).grown hgrow2 (by simp; omega) (fun k hk => (World.ownsRow.lt hown1 k hk).1)
        rw [HF.out] at hown2
        have hl2 : ys.length + 1 = (numOf x).length := by rw [← HF.out]; simp
        have HL : Hid (ys.length + 1 = (numOf x).length) := hl2
        clear hown1 hbs1 hgrow2 hat2 hl2 HF
        go_wp2
        go_ret
        rw [← HL.out]
        exact ⟨ao2, cap2, rfl, hown2, B2⟩
      · obtain ⟨g, rfl, hg⟩ := hf.next hlt
        obtain ⟨c, hc⟩ : ∃ c, c = u % 128 := ⟨_, rfl⟩
        have hc0 : 0 ≤ c := by omega
        have hc1 : c < 128 := by omega
        have eA : bits .and .u64 u 127 = c := by rw [and127 u hu0 hu1, hc]
        have eB : bits .or .u8 c 128 = c + 128 := by rw [or128 c hc0 (by omega)]; omega
        have HE2 : Hid ((ys ++ [c + 128]) ++ numB g (u / 128) = numOf x) := by
          show _ = _
          rw [← HE.out, numB_more g u hlt, List.append_assoc, hc]; rfl
        clear HE hc
        have hge : 128 ≤ u := by omega
        have hown1 : Ow (wr.alloc (.cells #[.int .u8 (c + 128)] 5)) w.heap.size (.slice ao ys.length cap) ys := World.ownsRow.alloc hown _
        have hbs1 : Bs (wr.alloc (.cells #[.int .u8 (c + 128)] 5)) (.slice (some ⟨wr.heap.size, 0, none⟩) 1 1) [c + 128] := Bs_of_block (heap_alloc_new wr _) (by simp [maxLen])
        go_wp2_with (at_builtin; refine wpList_append_bs _ rfl (.tmp 18) (.tmp 23) rfl w.heap.size _ ys rfl hown1 _ [c + 128] rfl hbs1 (by simp; omega) (by simp; omega) ?_)
        intro ao2 cap2 w2 hown2 hgrow2 hat2
        have B2 : Below w.heap.size w w2 := (hbel.alloc hbs _).grown hgrow2 (by simp; omega) (fun k hk => (World.ownsRow.lt hown1 k hk).1)
        clear hown1 hbs1 hgrow2 hat2
        go_wp2
        go_roundw
        case rel => exact ⟨g, u / 128, ys ++ [c + 128], ao2, cap2, rfl, by simp, by omega, hg, HE2, by simpa using hown2, B2⟩
        case measure => simp [intOf]; omega
end Go.Proofs.YtahodgmdikaedaaDoor
end

section
/-
  The Reader: what it is in memory, and the contracts of NewReader, fail, has, Byte, Left, End.
-/
namespace Go.Proofs.YtahodgmdikaedaaDoor
open Go.RowKit

/-- Block b is a Reader that has zs left and the error e; its slice is v. -/
def Rd (w : World) (b : Nat) (v : Value) (zs : List Int) (e : Int) : Prop := w.heap[b]? = some (.cells #[v, .int .i64 e] 119 (0, 0)) ∧ Bs w v zs ∧ v.ownBlock ≠ some b

/-- What a Reader's step leaves: all but the Reader's own block is as it was. -/
structure Rstep (b : Nat) (w w' : World) : Prop where
  os : w'.os = w.os
  tape : w'.tape = w.tape
  output : w'.output = w.output
  size : w.heap.size ≤ w'.heap.size
  block : ∀ k, k < w.heap.size → k ≠ b → w'.heap[k]? = w.heap[k]?
theorem Rstep.refl (b : Nat) (w : World) : Rstep b w w := ⟨rfl, rfl, rfl, Nat.le_refl _, fun _ _ _ => rfl⟩
theorem Rstep.trans {b : Nat} {w w1 w2 : World} (h : Rstep b w w1) (k : Rstep b w1 w2) : Rstep b w w2 :=
  ⟨k.os.trans h.os, k.tape.trans h.tape, k.output.trans h.output, Nat.le_trans h.size k.size, fun i hi hb => (k.block i (Nat.lt_of_lt_of_le hi h.size) hb).trans (h.block i hi hb)⟩
theorem Rstep.of_below {b B : Nat} {w w' : World} (h : Below B w w') (hB : w.heap.size ≤ B) : Rstep b w w' := ⟨h.os, h.tape, h.output, h.size, fun k hk _ => h.block k (by omega)⟩
theorem Rstep.below {b B : Nat} {w w' : World} (h : Rstep b w w') (hb : B ≤ b) (hB : B ≤ w.heap.size) : Below B w w' := ⟨h.os, h.tape, h.output, h.size, fun k hk => h.block k (by omega) (by omega)⟩

theorem Rd.lt {w : World} {b : Nat} {v : Value} {zs : List Int} {e : Int} (h : Rd w b v zs e) : b < w.heap.size := (Array.getElem?_eq_some_iff.1 h.1).1
theorem Rd.cell0 {w : World} {b : Nat} {v : Value} {zs : List Int} {e : Int} (h : Rd w b v zs e) : w.cell? ⟨b, 0, none⟩ = some v := by
  rw [cell_of_row w b 0 _ _ _ h.1]; rfl
theorem Rd.cell1 {w : World} {b : Nat} {v : Value} {zs : List Int} {e : Int} (h : Rd w b v zs e) : w.cell? ⟨b, 1, none⟩ = some (.int .i64 e) := by
  rw [cell_of_row w b 1 _ _ _ h.1]; rfl
theorem Rd.frozen {w : World} {b : Nat} {v : Value} {zs : List Int} {e : Int} (h : Rd w b v zs e) (i : Nat) : w.frozen? ⟨b, i, none⟩ = false := by
  simp [World.frozen?, h.1]
/-- Another slice in the Reader's first field. -/
theorem Rd.set0 {w : World} {b : Nat} {v v' : Value} {zs zs' : List Int} {e : Int} (h : Rd w b v zs e) (hb : Bs w v' zs') (hv : v'.ownBlock ≠ some b) : Rd (w.setCell ⟨b, 0, none⟩ v') b v' zs' e ∧ Rstep b w (w.setCell ⟨b, 0, none⟩ v') := by
  refine ⟨⟨?_, hb.keep fun k hk _ => Below.heap_setCell _ _ _ _ (fun e => hv (by rw [hk, e])), hv⟩, ⟨rfl, rfl, rfl, by simp [World.setCell], fun k _ hkb => Below.heap_setCell _ _ _ _ hkb⟩⟩
  simp only [World.setCell, Array.getElem?_modify, h.1]
  simp
theorem Rd.set1 {w : World} {b : Nat} {v : Value} {zs : List Int} {e e' : Int} (h : Rd w b v zs e) : Rd (w.setCell ⟨b, 1, none⟩ (.int .i64 e')) b v zs e' ∧ Rstep b w (w.setCell ⟨b, 1, none⟩ (.int .i64 e')) := by
  refine ⟨⟨?_, h.2.1.keep fun k hk _ => Below.heap_setCell _ _ _ _ (fun e => h.2.2 (by rw [hk, e])), h.2.2⟩, ⟨rfl, rfl, rfl, by simp [World.setCell], fun k _ hkb => Below.heap_setCell _ _ _ _ hkb⟩⟩
  simp only [World.setCell, Array.getElem?_modify, h.1]
  simp
theorem Rd.sm {w w' : World} {b : Nat} {v : Value} {zs : List Int} {e : Int} (h : Rd w b v zs e) (hs : Sm w w') : Rd w' b v zs e := ⟨by rw [hs.heap]; exact h.1, hs.bs h.2.1, h.2.2⟩
theorem Bs_nil (w : World) : Bs w (.slice none 0 0) [] := Or.inl ⟨rfl, none, 0, rfl, by simp [maxLen], fun _ => rfl⟩

theorem newReader_any (sv : Value) (zs : List Int) (w : World) (hb : Bs w sv zs) (hz : zs.length ≤ 100000000000000) :
    Calls Tryd.prog 60 #[sv] w fun e w' => ∃ b v, e = .returned (.pointer (some ⟨b, 0, none⟩)) ∧ Rd w' b v zs 0 ∧ Below w.heap.size w w' ∧ w.heap.size ≤ b ∧ ∀ k, v.ownBlock = some k → w.heap.size ≤ k := by
  go_enter Tryd.func60, Tryd.ntmps60
  go_wp2_with fail
  refine (clone_any sv zs _ hb hz).mono ?_
  rintro e w1 ⟨ao, cap, rfl, hown, B1⟩
  have R : Rd (w1.alloc (.cells #[.slice ao zs.length cap, .int .i64 0] 119)) w1.heap.size (.slice ao zs.length cap) zs 0 :=
    ⟨heap_alloc_new w1 _, hown.bs.below ((Below.refl _ _).alloc (Nat.le_refl _) _) (Nat.le_refl _), fun e => by have := World.ownsRow.lt hown _ e; omega⟩
  have hk : ∀ k, (Value.slice ao zs.length cap).ownBlock = some k → w.heap.size ≤ k := fun k e => (World.ownsRow.lt hown k e).1
  have hs := B1.size
  clear hown
  go_wp2
  go_ret
  exact ⟨_, _, rfl, R, B1.alloc hs _, hs, hk⟩

theorem fail_any (b : Nat) (v : Value) (zs : List Int) (e e2 : Int) (w : World) (hr : Rd w b v zs e) :
    Calls Tryd.prog 75 #[.pointer (some ⟨b, 0, none⟩), .int .i64 e2] w fun r w' => r = .returned (.tuple #[]) ∧ Rd w' b (.slice none 0 0) [] e2 ∧ Rstep b w w' := by
  have hc0 := hr.cell0
  have hc1 := hr.cell1
  have hf0 := hr.frozen 0
  have hf1 := hr.frozen 1
  have R0 := hr.set0 (Bs_nil w) (by simp [Value.ownBlock])
  have R1 := R0.1.set1 (e' := e2)
  go_enter Tryd.func75, Tryd.ntmps75
  go_wp2
  go_end0
  exact ⟨rfl, R1.1, R0.2.trans R1.2⟩

theorem has_err (b : Nat) (v : Value) (zs : List Int) (e n : Int) (w : World) (hr : Rd w b v zs e) (he : e ≠ 0) :
    Calls Tryd.prog 72 #[.pointer (some ⟨b, 0, none⟩), .int .i64 n] w fun r w' => r = .returned (.bool false) ∧ w = w' := by
  have hc1 := hr.cell1
  have hne : (e != 0) = true := by simp [he]
  go_enter Tryd.func72, Tryd.ntmps72
  go_wp2
  go_ret
  exact ⟨rfl, rfl⟩
theorem has_nil (n : Int) (w : World) : Calls Tryd.prog 72 #[.pointer none, .int .i64 n] w fun r w' => r = .returned (.bool false) ∧ w = w' := by
  go_enter Tryd.func72, Tryd.ntmps72
  go_wp2
  go_ret
  exact ⟨rfl, rfl⟩
theorem has_yes (b : Nat) (v : Value) (zs : List Int) (n : Int) (w : World) (hr : Rd w b v zs 0) (hn : n ≤ zs.length) :
    Calls Tryd.prog 72 #[.pointer (some ⟨b, 0, none⟩), .int .i64 n] w fun r w' => r = .returned (.bool true) ∧ w = w' := by
  have hc0 := hr.cell0
  have hc1 := hr.cell1
  obtain ⟨ao, cap, hv, hm⟩ := hr.2.1.len
  subst hv
  go_enter Tryd.func72, Tryd.ntmps72
  go_wp2
  go_ret
  exact ⟨rfl, rfl⟩
theorem has_no (b : Nat) (v : Value) (zs : List Int) (n : Int) (w : World) (hr : Rd w b v zs 0) (hn : (zs.length : Int) < n) :
    Calls Tryd.prog 72 #[.pointer (some ⟨b, 0, none⟩), .int .i64 n] w fun r w' => r = .returned (.bool false) ∧ Rd w' b (.slice none 0 0) [] 2 ∧ Rstep b w w' := by
  have hc0 := hr.cell0
  have hc1 := hr.cell1
  obtain ⟨ao, cap, hv, hm⟩ := hr.2.1.len
  subst hv
  go_enter Tryd.func72, Tryd.ntmps72
  go_wp2_with (go_at_call 75; refine (fail_any b _ zs 0 2 _ hr).mono ?_; rintro e w' ⟨rfl, hr1, hs1⟩)
  go_ret
  exact ⟨rfl, hr1, hs1⟩

theorem rbyte_err (b : Nat) (v : Value) (zs : List Int) (e : Int) (w : World) (hr : Rd w b v zs e) (he : e ≠ 0) :
    Calls Tryd.prog 73 #[.pointer (some ⟨b, 0, none⟩)] w fun r w' => r = .returned (.int .u8 0) ∧ w = w' := by
  go_enter Tryd.func73, Tryd.ntmps73
  go_wp2_with (go_at_call 72; refine (has_err b v zs e _ _ hr he).mono ?_; rintro e w' ⟨rfl, rfl⟩)
  go_ret
  exact ⟨rfl, rfl⟩
theorem rbyte_nil (w : World) : Calls Tryd.prog 73 #[.pointer none] w fun r w' => r = .returned (.int .u8 0) ∧ w = w' := by
  go_enter Tryd.func73, Tryd.ntmps73
  go_wp2_with (go_at_call 72; refine (has_nil _ _).mono ?_; rintro e w' ⟨rfl, rfl⟩)
  go_ret
  exact ⟨rfl, rfl⟩
theorem rbyte_no (b : Nat) (v : Value) (w : World) (hr : Rd w b v [] 0) :
    Calls Tryd.prog 73 #[.pointer (some ⟨b, 0, none⟩)] w fun r w' => r = .returned (.int .u8 0) ∧ Rd w' b (.slice none 0 0) [] 2 ∧ Rstep b w w' := by
  go_enter Tryd.func73, Tryd.ntmps73
  go_wp2_with (go_at_call 72; refine (has_no b v [] _ _ hr (by simp)).mono ?_; rintro e w' ⟨rfl, hr1, hs1⟩)
  go_ret
  exact ⟨rfl, hr1, hs1⟩
theorem rbyte_yes (b : Nat) (v : Value) (z : Int) (zs : List Int) (w : World) (hr : Rd w b v (z :: zs) 0) :
    Calls Tryd.prog 73 #[.pointer (some ⟨b, 0, none⟩)] w fun r w' => r = .returned (.int .u8 z) ∧ ∃ v', v'.ownBlock = v.ownBlock ∧ Rd w' b v' zs 0 ∧ Rstep b w w' := by
  have hc0 := hr.cell0
  have hf0 := hr.frozen 0
  rcases hr.2.1 with ⟨h0, _⟩ | ⟨_, b2, off, cap, hv, hc1, hc2, hcell⟩
  · cases h0
  subst hv
  have hcz : w.cell? ⟨b2, off, none⟩ = some (.int .u8 z) := by simpa using hcell 0 (by simp)
  have hc1' : zs.length + 1 ≤ cap := by simpa using hc1
  have hnb : b2 ≠ b := fun e => hr.2.2 (by simp [Value.ownBlock, e])
  unfold maxLen at hc2
  by_cases hcap : cap = 1
  · have hz0 : zs = [] := List.eq_nil_of_length_eq_zero (by omega)
    subst hz0
    subst hcap
    have R := hr.set0 (v' := .slice (some ⟨b2, off, none⟩) 0 0) (zs' := []) (Or.inl ⟨rfl, _, 0, rfl, by simp [maxLen], fun e => by cases e⟩) (by simpa [Value.ownBlock] using hnb)
    clear hcell hc1
    go_enter Tryd.func73, Tryd.ntmps73
    go_wp2_with (go_at_call 72; refine (has_yes b _ [z] _ _ hr (by simp)).mono ?_; rintro e w' ⟨rfl, rfl⟩)
    go_ret
    exact ⟨rfl, .slice (some ⟨b2, off, none⟩) 0 0, rfl, R⟩
  · have hbs : Bs w (.slice (some ⟨b2, off + 1, none⟩) zs.length (cap - 1)) zs := by
      by_cases hz0 : zs = []
      · subst hz0
        exact Or.inl ⟨rfl, _, cap - 1, rfl, by simp only [maxLen]; omega, fun e => by cases e⟩
      · refine Or.inr ⟨hz0, b2, off + 1, cap - 1, rfl, by omega, by simp only [maxLen]; omega, fun i hi => ?_⟩
        have := hcell (i + 1) (by simp; omega)
        rw [show off + 1 + i = off + (i + 1) by omega, this]
        simp [List.getD]
    have R := hr.set0 hbs (by simpa [Value.ownBlock] using hnb)
    clear hcell hc1
    go_enter Tryd.func73, Tryd.ntmps73
    go_wp2_with (go_at_call 72; refine (has_yes b _ (z :: zs) _ _ hr (by simp; omega)).mono ?_; rintro e w' ⟨rfl, rfl⟩)
    go_ret
    exact ⟨rfl, .slice (some ⟨b2, off + 1, none⟩) zs.length (cap - 1), rfl, R⟩

/-- P1.2: the first error; ErrForm, if there is none and something is left. -/
def endR (zs : List Int) (e : Int) : Int := if e = 0 ∧ zs ≠ [] then 3 else e
theorem end_any (b : Nat) (v : Value) (zs : List Int) (e : Int) (w : World) (hr : Rd w b v zs e) :
    Calls Tryd.prog 64 #[.pointer (some ⟨b, 0, none⟩)] w fun r w' => r = .returned (.int .i64 (endR zs e)) ∧ w = w' := by
  have hc0 := hr.cell0
  have hc1 := hr.cell1
  obtain ⟨ao, cap, hv, hm⟩ := hr.2.1.len
  subst hv
  by_cases he : e = 0
  · subst he
    by_cases hz : zs = []
    · have HE : Hid (0 = endR zs 0) := by show _ = _; simp [endR, hz]
      subst hz
      go_enter Tryd.func64, Tryd.ntmps64
      go_wp2
      go_ret
      exact ⟨ret_int HE.out, rfl⟩
    · have HE : Hid (3 = endR zs 0) := by show _ = _; simp [endR, hz]
      have hl : 0 < zs.length := List.length_pos_iff.2 hz
      clear hz
      go_enter Tryd.func64, Tryd.ntmps64
      go_wp2
      go_ret
      exact ⟨ret_int HE.out, rfl⟩
  · have HE : Hid (e = endR zs e) := by show _ = _; simp [endR, he]
    have hne : (e == 0) = false := by simp [he]
    clear he
    go_enter Tryd.func64, Tryd.ntmps64
    go_wp2
    go_ret
    exact ⟨ret_int HE.out, rfl⟩
theorem end_nil (w : World) : Calls Tryd.prog 64 #[.pointer none] w fun r w' => r = .returned (.int .i64 2) ∧ w = w' := by
  go_enter Tryd.func64, Tryd.ntmps64
  go_wp2
  go_ret
  exact ⟨rfl, rfl⟩
end Go.Proofs.YtahodgmdikaedaaDoor
end

section
/-
  The Reader's Num, by contract: whatever bytes are left.
-/
namespace Go.Proofs.YtahodgmdikaedaaDoor
open Go.RowKit

theorem unfold_any (u : Nat) (w : World) (h1 : u < 18446744073709551616) :
    Calls Tryd.prog 76 #[.int .u64 (u : Nat)] w fun r w' => r = .returned (.int .i64 (unfoldI u)) ∧ w = w' := by
  have ea := u64_and_nat u 1 h1 (by decide)
  rw [nat_mask1] at ea
  by_cases ho : u % 2 = 1
  · have ea1 : bits .and .u64 (u : Int) 1 = 1 := by rw [ho] at ea; exact ea
    have HE : Hid (bits .xor .i64 (-1) ((u : Int) / 2) = unfoldI u) := by
      show _ = _
      rw [unfoldI_odd ho, not64 _ (by omega) (by omega)]
      omega
    clear ea ho
    go_enter Tryd.func76, Tryd.ntmps76
    go_wp2
    go_ret
    exact ⟨ret_int HE.out, rfl⟩
  · have ea1 : bits .and .u64 (u : Int) 1 = 0 := by rw [show u % 2 = 0 by omega] at ea; exact ea
    have HE : Hid ((u : Int) / 2 = unfoldI u) := by
      show _ = _
      rw [unfoldI_even ho]
      omega
    clear ea ho
    go_enter Tryd.func76, Tryd.ntmps76
    go_wp2
    go_ret
    exact ⟨ret_int HE.out, rfl⟩
theorem mayEnd_bad (k : Nat) (z : Int) (w : World) (h : badB k z = true) :
    Calls Tryd.prog 74 #[.int .i64 k, .int .u8 z] w fun r w' => r = .returned (.bool false) ∧ w = w' := by
  by_cases h1 : k = 9 ∧ 1 < z
  · obtain ⟨rfl, h2⟩ := h1
    clear h
    go_enter Tryd.func74, Tryd.ntmps74
    go_wp2
    go_ret
    exact ⟨rfl, rfl⟩
  · have h2 : k ≠ 0 ∧ z = 0 := by
      simp [badB] at h
      omega
    obtain ⟨hk, rfl⟩ := h2
    have hk0 : ((k : Int) == 0) = false := by simp; omega
    clear h h1
    by_cases h9 : k = 9
    · subst h9
      go_enter Tryd.func74, Tryd.ntmps74
      go_wp2
      go_ret
      exact ⟨rfl, rfl⟩
    · have h9' : ((k : Int) == 9) = false := by simp; omega
      go_enter Tryd.func74, Tryd.ntmps74
      go_wp2
      go_ret
      exact ⟨rfl, rfl⟩
theorem mayEnd_good (k : Nat) (z : Int) (w : World) (h : badB k z = false) :
    Calls Tryd.prog 74 #[.int .i64 k, .int .u8 z] w fun r w' => r = .returned (.bool true) ∧ w = w' := by
  simp [badB] at h
  obtain ⟨h1, h2⟩ := h
  by_cases h9 : k = 9
  · subst h9
    have hz1 : z ≤ 1 := h1 rfl
    have hz : (z != 0) = true := by simp; exact h2 (by decide)
    clear h1 h2
    go_enter Tryd.func74, Tryd.ntmps74
    go_wp2
    go_ret
    exact ⟨rfl, rfl⟩
  · have h9' : ((k : Int) == 9) = false := by simp; omega
    by_cases h0 : k = 0
    · subst h0
      clear h1 h2
      go_enter Tryd.func74, Tryd.ntmps74
      go_wp2
      go_ret
      exact ⟨rfl, rfl⟩
    · have h0' : ((k : Int) == 0) = false := by simp; omega
      have hz : (z != 0) = true := by simp; exact h2 h0
      clear h1 h2
      go_enter Tryd.func74, Tryd.ntmps74
      go_wp2
      go_ret
      exact ⟨rfl, rfl⟩

/-- What a taking leaves. -/
def Rleft (w : World) (b : Nat) (v : Value) (w' : World) (zs : List Int) (e : Int) : Prop := ∃ v', Rd w' b v' zs e ∧ Rstep b w w' ∧ (v'.ownBlock = v.ownBlock ∨ v'.ownBlock = none)

set_option maxHeartbeats 1600000 in
theorem rnum_any (b : Nat) (v : Value) (zs : List Int) (w : World) (hr : Rd w b v zs 0) (hz : Byt zs) :
    Calls Tryd.prog 62 #[.pointer (some ⟨b, 0, none⟩)] w fun r w' => r = .returned (.int .i64 (numR 10 0 0 zs).1) ∧ Rleft w b v w' (numR 10 0 0 zs).2.1 (numR 10 0 0 zs).2.2 := by
  generalize hres : numR 10 0 0 zs = res
  have HR : Hid (numR 10 0 0 zs = res) := hres
  clear hres
  go_enter Tryd.func62, Tryd.ntmps62
  go_wp2
  go_loopw [3, 6] (fun u i wr => ∃ (k : Nat) (U : Int) (v1 : Value) (zs1 : List Int), k ≤ 10 ∧ i = .int .i64 k ∧ u = .int .u64 U ∧ Rd wr b v1 zs1 0 ∧ Byt zs1 ∧ Rstep b w wr ∧ v1.ownBlock = v.ownBlock ∧ (∃ U' : Nat, (k ≤ 9 → U = U' ∧ U' < 128 ^ k) ∧ Hid (numR (10 - k) k U' zs1 = res))) (fun _ i _ => 10 - (intOf i).toNat)
  case atStart => exact ⟨0, 0, v, zs, by decide, rfl, rfl, hr, hz, Rstep.refl _ _, rfl, 0, fun _ => ⟨rfl, by decide⟩, HR⟩
  case round =>
    obtain ⟨k, U, v1, zs1, hk, rfl, rfl, hr1, hz1, hs1, ho1, U', hU, HR1⟩ := hrel
    by_cases hk10 : k = 10
    · subst hk10
      have HF : Hid (res = (0, [], 3)) := by show _ = _; rw [← HR1.out]; rfl
      clear HR HR1 hU
      go_wp2_with (go_at_call 75; refine (fail_any b _ _ _ 3 _ hr1).mono ?_; rintro e w' ⟨rfl, hr2, hs2⟩)
      go_ret
      rw [HF.out]
      exact ⟨rfl, _, hr2, hs1.trans hs2, Or.inr rfl⟩
    obtain ⟨rfl, hU1⟩ := hU (by omega)
    obtain ⟨f, hf⟩ : ∃ f, 10 - k = f + 1 := ⟨9 - k, by omega⟩
    rw [hf] at HR1
    have hf2 : f = 10 - (k + 1) := by omega
    have hklt : k < 10 := by omega
    clear hU hf
    cases zs1 with
    | nil =>
      have HF : Hid (res = (0, [], 2)) := by show _ = _; rw [← HR1.out]; rfl
      clear HR HR1
      go_wp2_with (go_at_call 72; refine (has_no b _ [] _ _ hr1 (by simp)).mono ?_; rintro e w' ⟨rfl, hr2, hs2⟩)
      go_ret
      rw [HF.out]
      exact ⟨rfl, _, hr2, hs1.trans hs2, Or.inr rfl⟩
    | cons z r =>
      obtain ⟨hz0, hz256⟩ := hz1 z (by simp)
      have hzr : Byt r := fun y hy => hz1 y (by simp [hy])
      by_cases hz128 : 128 ≤ z
      · have HR2 : Hid (numR f (k + 1) (U' + (z.toNat % 128) * 128 ^ k) r = res) := by
          show _ = _
          rw [← HR1.out, numR_more hz128]
        have HO : Hid (k + 1 ≤ 9 → bits .or .u64 (U' : Int) (IntKind.u64.wrap (IntKind.u64.wrap (bits .andNot .u8 z 128) * 2 ^ (7 * k))) = ((U' + (z.toNat % 128) * 128 ^ k : Nat) : Int) ∧ U' + (z.toNat % 128) * 128 ^ k < 128 ^ (k + 1)) := by
          intro hk9
          refine ⟨orStep U' k z hz0 hz256 (by omega) hU1 (by omega), ?_⟩
          have : (z.toNat % 128) * 128 ^ k ≤ 127 * 128 ^ k := Nat.mul_le_mul_right _ (by omega)
          rw [Nat.pow_succ]
          omega
        clear HR HR1
        go_wp2_with fail
        refine (has_yes b _ _ _ _ hr1 (by simp; omega)).mono ?_
        rintro e w' ⟨rfl, rfl⟩
        go_wp2_with fail
        refine (rbyte_yes b _ _ _ _ hr1).mono ?_
        rintro e w2 ⟨rfl, v2, hv2, hr2, hs2⟩
        go_wp2_with fail
        go_roundw
        case rel => exact ⟨k + 1, _, v2, r, by omega, by go_num, rfl, hr2, hzr, hs1.trans hs2, hv2.trans ho1, _, HO.out, by rw [← hf2]; exact HR2⟩
        case measure => simp [intOf]; omega
      · have hz128' : z < 128 := by omega
        cases hbad : badB k z with
        | true =>
          have HF : Hid (res = (0, [], 3)) := by show _ = _; rw [← HR1.out, numR_bad hz128 hbad]
          clear HR HR1
          go_wp2_with fail
          refine (has_yes b _ _ _ _ hr1 (by simp; omega)).mono ?_
          rintro e w' ⟨rfl, rfl⟩
          go_wp2_with fail
          refine (rbyte_yes b _ _ _ _ hr1).mono ?_
          rintro e w2 ⟨rfl, v2, hv2, hr2, hs2⟩
          go_wp2_with fail
          refine (mayEnd_bad k z _ hbad).mono ?_
          rintro e w' ⟨rfl, rfl⟩
          go_wp2_with fail
          refine (fail_any b _ _ _ 3 _ hr2).mono ?_
          rintro e w3 ⟨rfl, hr3, hs3⟩
          go_wp2_with fail
          go_ret
          rw [HF.out]
          exact ⟨rfl, _, hr3, (hs1.trans hs2).trans hs3, Or.inr rfl⟩
        | false =>
          have HF : Hid (res = (unfoldI (U' + z.toNat * 128 ^ k), r, 0)) := by show _ = _; rw [← HR1.out, numR_good hz128 hbad]
          have hm : z.toNat % 128 = z.toNat := by omega
          have h9 : k = 9 → z.toNat % 128 ≤ 1 := by
            intro e
            simp [badB] at hbad
            have := hbad.1 e
            omega
          have ho := orStep U' k z hz0 hz256 (by omega) hU1 h9
          have hfs := fits_step k (z.toNat % 128) (by omega) (by omega) h9
          have hp9 := pow_le9 k (by omega)
          rw [hm] at ho hfs
          have hN : U' + z.toNat * 128 ^ k < 18446744073709551616 := by omega
          generalize U' + z.toNat * 128 ^ k = N at *
          have HO : Hid (bits .or .u64 (U' : Int) (IntKind.u64.wrap (IntKind.u64.wrap (bits .andNot .u8 z 128) * 2 ^ (7 * k))) = (N : Int)) := ho
          clear HR HR1 ho hfs hp9 hm
          go_wp2_with fail
          refine (has_yes b _ _ _ _ hr1 (by simp; omega)).mono ?_
          rintro e w' ⟨rfl, rfl⟩
          go_wp2_with fail
          refine (rbyte_yes b _ _ _ _ hr1).mono ?_
          rintro e w2 ⟨rfl, v2, hv2, hr2, hs2⟩
          go_wp2_with fail
          refine (mayEnd_good k z _ hbad).mono ?_
          rintro e w' ⟨rfl, rfl⟩
          go_wp2_with fail
          rw [HO.out]
          refine (unfold_any N _ hN).mono ?_
          rintro e w3 ⟨rfl, rfl⟩
          go_wp2_with fail
          go_ret
          rw [HF.out]
          exact ⟨rfl, _, hr2, hs1.trans hs2, Or.inl (hv2.trans ho1)⟩

theorem rnum_err (b : Nat) (v : Value) (zs : List Int) (e : Int) (w : World) (hr : Rd w b v zs e) (he : e ≠ 0) :
    Calls Tryd.prog 62 #[.pointer (some ⟨b, 0, none⟩)] w fun r w' => r = .returned (.int .i64 0) ∧ w = w' := by
  go_enter Tryd.func62, Tryd.ntmps62
  go_wp2
  refine wp_loop_rounds 1 ?_
  rw [rounds_succ]
  go_wp2_with (go_at_call 72; refine (has_err b v zs e _ _ hr he).mono ?_; rintro e w' ⟨rfl, rfl⟩)
  go_ret
  exact ⟨rfl, rfl⟩
theorem rnum_nil (w : World) :
    Calls Tryd.prog 62 #[.pointer none] w fun r w' => r = .returned (.int .i64 0) ∧ w = w' := by
  go_enter Tryd.func62, Tryd.ntmps62
  go_wp2
  refine wp_loop_rounds 1 ?_
  rw [rounds_succ]
  go_wp2_with (go_at_call 72; refine (has_nil _ _).mono ?_; rintro e w' ⟨rfl, rfl⟩)
  go_ret
  exact ⟨rfl, rfl⟩
end Go.Proofs.YtahodgmdikaedaaDoor
end

section
/-
  OctetNums, walked: for every number and whatever stands behind it answers true, and writes nothing that was there.
-/
namespace Go.Proofs.YtahodgmdikaedaaDoor
open Go.RowKit

theorem numOf_byt (v : Int) (h0 : -9223372036854775808 ≤ v) (h1 : v ≤ 9223372036854775807) : Byt (numOf v) := by
  have hr := foldI_range v h0 h1
  exact numB_bytes 9 _ (Fits.start _ hr.1 hr.2)
theorem Byt.append {a b : List Int} (ha : Byt a) (hb : Byt b) : Byt (a ++ b) := fun z hz => by
  rcases List.mem_append.1 hz with h | h
  · exact ha z h
  · exact hb z h
/-- A Reader is as it was, if its block and its row are. -/
theorem Rd.keep {w w' : World} {b : Nat} {v : Value} {zs : List Int} {e : Int} (h : Rd w b v zs e) (hb : w'.heap[b]? = w.heap[b]?) (hk : ∀ k, v.ownBlock = some k → k < w.heap.size → w'.heap[k]? = w.heap[k]?) : Rd w' b v zs e :=
  ⟨by rw [hb]; exact h.1, h.2.1.keep hk, h.2.2⟩
theorem Rd.below {w w' : World} {b B : Nat} {v : Value} {zs : List Int} {e : Int} (h : Rd w b v zs e) (hB : Below B w w') (hs : w.heap.size ≤ B) : Rd w' b v zs e :=
  h.keep (hB.block b (by have := h.lt; omega)) (fun k _ hk => hB.block k (by omega))

end Go.Proofs.YtahodgmdikaedaaDoor
end

section
/-
  The Reader's rows of bytes: takeRow over r.Byte, fill, Two, Four, Hash, by contracts.
-/
namespace Go.Proofs.YtahodgmdikaedaaDoor
open Go.RowKit

/-- Block g is a row of bytes. -/
def Rw (w : World) (g : Nat) (ys : List Int) (t : TypeId) : Prop := w.heap[g]? = some (.cells (cellsOf ys).toArray t (0, 0))
theorem Rw.lt {w : World} {g : Nat} {ys : List Int} {t : TypeId} (h : Rw w g ys t) : g < w.heap.size := (Array.getElem?_eq_some_iff.1 h).1
theorem Rw.cell {w : World} {g : Nat} {ys : List Int} {t : TypeId} (h : Rw w g ys t) (i : Nat) (hi : i < ys.length) : w.cell? ⟨g, i, none⟩ = some (.int .u8 (ys.getD i 0)) := by
  rw [cell_of_row w g i _ _ _ h]
  simpa using cellsOf_get' ys i hi
theorem Rw.frozen {w : World} {g : Nat} {ys : List Int} {t : TypeId} (h : Rw w g ys t) (i : Nat) : w.frozen? ⟨g, i, none⟩ = false := by
  simp only [World.frozen?, show w.heap[g]? = _ from h]; simp
theorem Rw.set {w : World} {g : Nat} {ys : List Int} {t : TypeId} (h : Rw w g ys t) (i : Nat) (x : Int) : Rw (w.setCell ⟨g, i, none⟩ (.int .u8 x)) g (ys.set i x) t := by
  have h' : w.heap[g]? = some (.cells (cellsOf ys).toArray t (0, 0)) := h
  simp only [Rw, World.setCell, Array.getElem?_modify, h']
  simp [cellsOf, List.map_set]

/-- All but two blocks is as it was. -/
structure Two2 (b g : Nat) (w w' : World) : Prop where
  os : w'.os = w.os
  tape : w'.tape = w.tape
  output : w'.output = w.output
  size : w.heap.size ≤ w'.heap.size
  block : ∀ k, k < w.heap.size → k ≠ b → k ≠ g → w'.heap[k]? = w.heap[k]?
theorem Two2.refl (b g : Nat) (w : World) : Two2 b g w w := ⟨rfl, rfl, rfl, Nat.le_refl _, fun _ _ _ _ => rfl⟩
theorem Two2.trans {b g : Nat} {w w1 w2 : World} (h : Two2 b g w w1) (k : Two2 b g w1 w2) : Two2 b g w w2 :=
  ⟨k.os.trans h.os, k.tape.trans h.tape, k.output.trans h.output, Nat.le_trans h.size k.size, fun i hi hb hg => (k.block i (Nat.lt_of_lt_of_le hi h.size) hb hg).trans (h.block i hi hb hg)⟩
theorem Rstep.two {b g : Nat} {w w' : World} (h : Rstep b w w') : Two2 b g w w' := ⟨h.os, h.tape, h.output, h.size, fun k hk hb _ => h.block k hk hb⟩
theorem Two2.set (b g i : Nat) (w : World) (v : Value) : Two2 b g w (w.setCell ⟨g, i, none⟩ v) := ⟨rfl, rfl, rfl, by simp [World.setCell], fun k _ _ hg => Below.heap_setCell _ _ _ _ hg⟩

theorem set_take (zs ys : List Int) (k : Nat) (h1 : k < ys.length) (h2 : ys.length ≤ zs.length) : (zs.take k ++ ys.drop k).set k (zs.getD k 0) = zs.take (k + 1) ++ ys.drop (k + 1) := by
  rw [List.set_append]
  have hl : (zs.take k).length = k := by simp; omega
  simp only [hl, Nat.lt_irrefl, if_false, Nat.sub_self]
  rw [take_snoc zs k (by omega), List.append_assoc]
  congr 1
  rw [List.drop_eq_getElem_cons h1]
  rfl

set_option maxHeartbeats 1600000 in
theorem takeRow_any (b g : Nat) (v : Value) (zs ys : List Int) (t : TypeId) (w : World) (hr : Rd w b v zs 0) (hg : Rw w g ys t) (hgb : g ≠ b) (hgv : v.ownBlock ≠ some g) (hl : ys.length ≤ zs.length) (hs : ys.length ≤ 1000000) :
    Calls Tryd.prog 87 #[.func (.func 73) #[.pointer (some ⟨b, 0, none⟩)] #[], .slice (some ⟨g, 0, none⟩) ys.length ys.length] w fun r w' => r = .returned (.tuple #[]) ∧
      ∃ v', v'.ownBlock = v.ownBlock ∧ Rd w' b v' (zs.drop ys.length) 0 ∧ Rw w' g (zs.take ys.length) t ∧ Two2 b g w w' := by
  go_enter Tryd.func87, Tryd.ntmps87
  go_wp2
  go_loopw [7] (fun i wr => ∃ (k : Nat) (v1 : Value), k ≤ ys.length ∧ i = .int .i64 k ∧ v1.ownBlock = v.ownBlock ∧ Rd wr b v1 (zs.drop k) 0 ∧ Rw wr g (zs.take k ++ ys.drop k) t ∧ Two2 b g w wr) (fun i _ => ys.length - (intOf i).toNat)
  case atStart => exact ⟨0, v, Nat.zero_le _, rfl, rfl, by simpa using hr, by simpa using hg, Two2.refl _ _ _⟩
  case round =>
    obtain ⟨k, v1, hk, rfl, hv1, hr1, hg1, hs1⟩ := hrel
    by_cases hlt : k < ys.length
    · have HD : Hid (zs.drop k = zs.getD k 0 :: zs.drop (k + 1)) := by
        show _ = _
        rw [List.drop_eq_getElem_cons (by omega)]; simp [List.getD, show k < zs.length by omega]
      rw [HD.out] at hr1
      have HS : Hid ((zs.take k ++ ys.drop k).set k (zs.getD k 0) = zs.take (k + 1) ++ ys.drop (k + 1)) := set_take zs ys k hlt hl
      generalize zs.getD k 0 = z at *
      have hlen : (zs.take k ++ ys.drop k).length = ys.length := by simp; omega
      clear HD
      go_wp2_with fail
      refine (rbyte_yes b v1 z _ _ hr1).mono ?_
      rintro e w2 ⟨rfl, v2, hv2, hr2, hs2⟩
      have hg2 : Rw w2 g (zs.take k ++ ys.drop k) t := by
        have := hs2.block g hg1.lt hgb
        unfold Rw; rw [this]; exact hg1
      have hcg := hg2.cell k (by rw [hlen]; exact hlt)
      have hfg := hg2.frozen k
      have hg3 := hg2.set k z
      rw [HS.out] at hg3
      have hr3 : Rd (w2.setCell ⟨g, k, none⟩ (.int .u8 z)) b v2 (zs.drop (k + 1)) 0 :=
        hr2.keep (Below.heap_setCell _ _ _ _ (fun e => hgb e.symm)) (fun j hj _ => Below.heap_setCell _ _ _ _ (fun e => hgv (by rw [← hv1, ← hv2, hj, e])))
      have hs3 : Two2 b g w (w2.setCell ⟨g, k, none⟩ (.int .u8 z)) := (hs1.trans hs2.two).trans (Two2.set b g k w2 _)
      clear hg1 hg2 hr1 hr2 hlen HS
      go_wp2
      go_roundw
      case rel => exact ⟨k + 1, v2, by omega, by go_num, hv2.trans hv1, hr3, hg3, hs3⟩
      case measure => simp [intOf]; omega
    · obtain rfl : k = ys.length := by omega
      have e1 : ys.drop ys.length = [] := by simp
      rw [e1, List.append_nil] at hg1
      go_wp2
      go_end0
      exact ⟨rfl, v1, hv1, hr1, hg1, hs1⟩

/-- A row ys is filled: what it holds, what is left, the error. -/
def rowR (ys zs : List Int) (e : Int) : List Int × List Int × Int := if e = 0 then (if ys.length ≤ zs.length then (zs.take ys.length, zs.drop ys.length, 0) else (ys, [], 2)) else (ys, zs, e)
theorem rowR_yes {ys zs : List Int} (h : ys.length ≤ zs.length) : rowR ys zs 0 = (zs.take ys.length, zs.drop ys.length, 0) := by simp [rowR, h]
theorem rowR_no {ys zs : List Int} (h : ¬ ys.length ≤ zs.length) : rowR ys zs 0 = (ys, [], 2) := by simp [rowR, h]
theorem rowR_err {ys zs : List Int} {e : Int} (h : e ≠ 0) : rowR ys zs e = (ys, zs, e) := by simp [rowR, h]
theorem rowR_len (ys zs : List Int) (e : Int) : (rowR ys zs e).1.length = ys.length := by
  unfold rowR; split
  · split
    · simp; omega
    · rfl
  · rfl
theorem rowR_byt {ys zs : List Int} {e : Int} (hy : Byt ys) (hz : Byt zs) : Byt (rowR ys zs e).1 ∧ Byt (rowR ys zs e).2.1 := by
  unfold rowR; split
  · split
    · exact ⟨fun z h => hz z (List.mem_of_mem_take h), fun z h => hz z (List.mem_of_mem_drop h)⟩
    · exact ⟨hy, fun z h => by cases h⟩
  · exact ⟨hy, hz⟩

set_option maxHeartbeats 800000 in
theorem fill_any (b g : Nat) (v : Value) (zs ys : List Int) (e : Int) (t : TypeId) (w : World) (hr : Rd w b v zs e) (hg : Rw w g ys t) (hgb : g ≠ b) (hgv : v.ownBlock ≠ some g) (hs : ys.length ≤ 1000000) :
    Calls Tryd.prog 86 #[.pointer (some ⟨b, 0, none⟩), .slice (some ⟨g, 0, none⟩) ys.length ys.length] w fun r w' => r = .returned (.tuple #[]) ∧
      ∃ v', (v'.ownBlock = v.ownBlock ∨ v'.ownBlock = none) ∧ Rd w' b v' (rowR ys zs e).2.1 (rowR ys zs e).2.2 ∧ Rw w' g (rowR ys zs e).1 t ∧ Two2 b g w w' := by
  by_cases he : e = 0
  · subst he
    by_cases hl : ys.length ≤ zs.length
    · have HR : Hid (rowR ys zs 0 = _) := rowR_yes hl
      go_enter Tryd.func86, Tryd.ntmps86
      go_wp2_with fail
      refine (has_yes b v zs _ _ hr (by omega)).mono ?_
      rintro e w1 ⟨rfl, rfl⟩
      go_wp2_with fail
      refine (takeRow_any b g v zs ys t _ hr hg hgb hgv hl hs).mono ?_
      rintro e w2 ⟨rfl, v2, hv2, hr2, hg2, hs2⟩
      go_wp2
      go_end0
      rw [HR.out]
      exact ⟨rfl, v2, Or.inl hv2, hr2, hg2, hs2⟩
    · have HR : Hid (rowR ys zs 0 = _) := rowR_no hl
      go_enter Tryd.func86, Tryd.ntmps86
      go_wp2_with fail
      refine (has_no b v zs _ _ hr (by omega)).mono ?_
      rintro e w1 ⟨rfl, hr1, hs1⟩
      go_wp2
      go_end0
      rw [HR.out]
      refine ⟨rfl, _, Or.inr rfl, hr1, ?_, hs1.two⟩
      unfold Rw; rw [hs1.block g hg.lt hgb]; exact hg
  · have HR : Hid (rowR ys zs e = _) := rowR_err he
    go_enter Tryd.func86, Tryd.ntmps86
    go_wp2_with fail
    refine (has_err b v zs e _ _ hr he).mono ?_
    rintro e w1 ⟨rfl, rfl⟩
    go_wp2
    go_end0
    rw [HR.out]
    exact ⟨rfl, v, Or.inl rfl, hr, hg, Two2.refl _ _ _⟩
theorem fill_nil (sv : Value) (zs : List Int) (w : World) (hb : Bs w sv zs) : Calls Tryd.prog 86 #[.pointer none, sv] w fun r w' => r = .returned (.tuple #[]) ∧ w = w' := by
  obtain ⟨ao, cap, hsv, hm⟩ := hb.len
  subst hsv
  go_enter Tryd.func86, Tryd.ntmps86
  go_wp2_with fail
  refine (has_nil _ _).mono ?_
  rintro e w1 ⟨rfl, rfl⟩
  go_wp2
  go_end0
  exact ⟨rfl, rfl⟩

/-- A new row of noughts beside a Reader. -/
theorem Rw_new (w : World) (ys : List Int) (t : TypeId) : Rw (w.alloc (.cells (cellsOf ys).toArray t)) w.heap.size ys t := heap_alloc_new w _
theorem Rd.alloc {w : World} {b : Nat} {v : Value} {zs : List Int} {e : Int} (h : Rd w b v zs e) (o : Obj) : Rd (w.alloc o) b v zs e := h.below ((Below.refl _ _).alloc (Nat.le_refl _) _) (Nat.le_refl _)
theorem Two2.rstep {b : Nat} {w w1 w' : World} (h0 : Below w.heap.size w w1) (h : Two2 b w.heap.size w1 w') : Rstep b w w' :=
  ⟨h.os.trans h0.os, h.tape.trans h0.tape, h.output.trans h0.output, Nat.le_trans h0.size h.size, fun k hk hb => (h.block k (Nat.lt_of_lt_of_le hk h0.size) hb (by omega)).trans (h0.block k hk)⟩

theorem or16 (a c : Int) (ha0 : 0 ≤ a) (ha : a < 256) (hc0 : 0 ≤ c) (hc : c < 256) : bits .or .u16 a (c * 256) = a + 256 * c := by
  rw [u16_or a (c * 256) ha0 (by omega) (by omega) (by omega)]
  have := nat_join 8 (c * 256).toNat a.toNat (by omega) (by omega)
  rw [Nat.or_comm, this]
  omega
theorem or32 (a c : Int) (i : Nat) (hi : i ≤ 24) (ha0 : 0 ≤ a) (ha : a < 2 ^ i) (hc0 : 0 ≤ c) (hc : c < 256) : bits .or .u32 a (c * 2 ^ i) = a + c * 2 ^ i := by
  obtain ⟨A, rfl⟩ := Int.eq_ofNat_of_zero_le ha0
  obtain ⟨C, rfl⟩ := Int.eq_ofNat_of_zero_le hc0
  have hA : A < 2 ^ i := by have e : ((2 ^ i : Nat) : Int) = (2 : Int) ^ i := by simp
                            rw [← e] at ha; omega
  have hp : 2 ^ i ≤ 2 ^ 24 := Nat.pow_le_pow_right (by decide) hi
  have hm : C * 2 ^ i ≤ 255 * 2 ^ 24 := Nat.mul_le_mul (by omega) hp
  have e2 : ((C : Int) * 2 ^ i) = ((C * 2 ^ i : Nat) : Int) := by simp
  rw [e2, u32_or_nat A (C * 2 ^ i) (by omega) (by omega), Nat.or_comm, nat_join i (C * 2 ^ i) A (Nat.mul_mod_left _ _) hA]
  omega
def twoV (l : List Int) : Int := l.getD 0 0 + 256 * l.getD 1 0
def fourV (l : List Int) : Int := l.getD 0 0 + 256 * l.getD 1 0 + 65536 * l.getD 2 0 + 16777216 * l.getD 3 0
set_option maxHeartbeats 800000 in
theorem rfour_any (b : Nat) (v : Value) (zs : List Int) (e : Int) (w : World) (hr : Rd w b v zs e) (hz : Byt zs) (hv : ∀ k, v.ownBlock = some k → k < w.heap.size) :
    Calls Tryd.prog 84 #[.pointer (some ⟨b, 0, none⟩)] w fun r w' => r = .returned (.int .u32 (fourV (rowR [0, 0, 0, 0] zs e).1)) ∧ Rleft w b v w' (rowR [0, 0, 0, 0] zs e).2.1 (rowR [0, 0, 0, 0] zs e).2.2 := by
  have hlen := rowR_len [0, 0, 0, 0] zs e
  have hby := (rowR_byt (ys := [0, 0, 0, 0]) (e := e) (by intro z hz; simp at hz; omega) hz).1
  have hr0 := hr.alloc (.cells #[.int .u8 0, .int .u8 0, .int .u8 0, .int .u8 0] 133)
  have hg0 : Rw (w.alloc (.cells #[.int .u8 0, .int .u8 0, .int .u8 0, .int .u8 0] 133)) w.heap.size [0, 0, 0, 0] 133 := Rw_new w [0, 0, 0, 0] 133
  have hlt := hr.lt
  generalize hres : rowR [0, 0, 0, 0] zs e = R at *
  obtain ⟨row, zs2, e2⟩ := R
  have HR : Hid (rowR [0, 0, 0, 0] zs e = (row, zs2, e2)) := hres
  clear hres
  go_enter Tryd.func84, Tryd.ntmps84
  go_wp2_with fail
  refine (fill_any b w.heap.size v zs [0, 0, 0, 0] e 133 _ hr0 hg0 (by omega) (fun h => Nat.lt_irrefl _ (hv _ h)) (by simp)).mono ?_
  rintro e w2 ⟨rfl, v2, hv2, hr2, hg2, hs2⟩
  rw [HR.out] at hr2 hg2
  obtain ⟨x0, x1, x2, x3, rfl⟩ : ∃ x0 x1 x2 x3, row = [x0, x1, x2, x3] := by
    match row, hlen with
    | [x0, x1, x2, x3], _ => exact ⟨x0, x1, x2, x3, rfl⟩
  have c0 : w2.cell? ⟨w.heap.size, 0, none⟩ = some (.int .u8 x0) := hg2.cell 0 (by simp)
  have c1 : w2.cell? ⟨w.heap.size, 1, none⟩ = some (.int .u8 x1) := hg2.cell 1 (by simp)
  have c2 : w2.cell? ⟨w.heap.size, 2, none⟩ = some (.int .u8 x2) := hg2.cell 2 (by simp)
  have c3 : w2.cell? ⟨w.heap.size, 3, none⟩ = some (.int .u8 x3) := hg2.cell 3 (by simp)
  have b0 := hby x0 (by simp)
  have b1 := hby x1 (by simp)
  have b2 := hby x2 (by simp)
  have b3 := hby x3 (by simp)
  have S : Rleft w b v w2 zs2 e2 := ⟨v2, hr2, Two2.rstep ((Below.refl _ _).alloc (Nat.le_refl _) _) hs2, hv2⟩
  have o1 : bits .or .u32 x0 (x1 * 256) = x0 + x1 * 256 := or32 x0 x1 8 (by decide) b0.1 (by simpa using b0.2) b1.1 b1.2
  obtain ⟨y1, hy1⟩ : ∃ y1, y1 = x0 + x1 * 256 := ⟨_, rfl⟩
  rw [← hy1] at o1
  have o2 : bits .or .u32 y1 (x2 * 65536) = y1 + x2 * 65536 := or32 y1 x2 16 (by decide) (by omega) (by simp; omega) b2.1 b2.2
  obtain ⟨y2, hy2⟩ : ∃ y2, y2 = y1 + x2 * 65536 := ⟨_, rfl⟩
  rw [← hy2] at o2
  have o3 : bits .or .u32 y2 (x3 * 16777216) = y2 + x3 * 16777216 := or32 y2 x3 24 (by decide) (by omega) (by simp; omega) b3.1 b3.2
  obtain ⟨y3, hy3⟩ : ∃ y3, y3 = y2 + x3 * 16777216 := ⟨_, rfl⟩
  rw [← hy3] at o3
  have HE : Hid (y3 = fourV [x0, x1, x2, x3]) := by
    have e : fourV [x0, x1, x2, x3] = x0 + 256 * x1 + 65536 * x2 + 16777216 * x3 := rfl
    show _ = _
    rw [e]; omega
  clear hg2 hr2 hs2 hv2 hby hlen hr0 hg0 hy1 hy2 hy3
  go_wp2
  go_ret
  exact ⟨ret_int HE.out, S⟩
theorem rfour_nil (w : World) : Calls Tryd.prog 84 #[.pointer none] w fun r w' => r = .returned (.int .u32 0) ∧ Below w.heap.size w w' := by
  have hbs : Bs (w.alloc (.cells #[.int .u8 0, .int .u8 0, .int .u8 0, .int .u8 0] 133)) (.slice (some ⟨w.heap.size, 0, none⟩) 4 4) [0, 0, 0, 0] := Bs_of_block (heap_alloc_new w _) (by simp [maxLen])
  go_enter Tryd.func84, Tryd.ntmps84
  go_wp2_with fail
  refine (fill_nil _ _ _ hbs).mono ?_
  rintro e w2 ⟨rfl, rfl⟩
  go_wp2
  go_ret
  exact ⟨rfl, (Below.refl _ _).alloc (Nat.le_refl _) _⟩
end Go.Proofs.YtahodgmdikaedaaDoor
end

section
/-
  The laws' helpers roomy and stands, and the document's own Sum (one binary digit a step).
-/
namespace Go.Proofs.YtahodgmdikaedaaDoor
open Go.RowKit

theorem Ow.take {w : World} {base g m cap : Nat} {ys : List Int} (h : Ow w base (.slice (some ⟨g, 0, none⟩) m cap) ys) (k : Nat) (hk : k ≤ ys.length) : Ow w base (.slice (some ⟨g, 0, none⟩) k cap) (ys.take k) := by
  obtain ⟨ao, c, he, ⟨rfl, _⟩ | ⟨g', cur, rfl, hb, hl, hg, hn, hc, hs, ht⟩⟩ := h.form
  · simp at he
  · simp only [Value.slice.injEq, Option.some.injEq, Addr.mk.injEq, and_true] at he
    obtain ⟨rfl, rfl, rfl⟩ := he
    have hlen : (ys.take k).length = k := by simp; omega
    refine ⟨by simp [cellsOf], Or.inr ⟨g, cap, cur, by rw [hlen], hb, hg, by rw [hlen]; omega, hc, by simpa using hs, ?_⟩⟩
    rw [hlen, Nat.mul_one]
    have := congrArg (List.take k) ht
    rw [List.take_take, Nat.min_eq_left hk] at this
    rw [this]
    simp [cellsOf, List.map_take]

theorem Ow.grow_form {w : World} {base m cap : Nat} {ao : Option Addr} {ys : List Int} (h : Ow w base (.slice ao m cap) ys) (hn : ys ≠ []) : ∃ g, ao = some ⟨g, 0, none⟩ ∧ base ≤ g ∧ g < w.heap.size ∧ m = ys.length ∧ ys.length ≤ cap ∧ cap ≤ maxLen := by
  obtain ⟨ao, c, he, ⟨rfl, _, h0⟩ | ⟨g', cur, rfl, hb, hl, hg, hn, hc, hs, ht⟩⟩ := h.form
  · exact absurd h0 hn
  · simp only [Value.slice.injEq] at he
    obtain ⟨rfl, rfl, rfl⟩ := he
    exact ⟨g', rfl, hb, hl, rfl, hn, hc⟩

set_option maxHeartbeats 800000 in
theorem roomy_any (sv : Value) (zs : List Int) (w : World) (hb : Bs w sv zs) (hz : zs.length ≤ 100000000000000) :
    Calls Tryd.prog 25 #[sv] w fun e w' => ∃ g cap, e = .returned (.slice (some ⟨g, 0, none⟩) (zs.length + 1) cap) ∧ Ow w' w.heap.size (.slice (some ⟨g, 0, none⟩) (zs.length + 1) cap) (zs ++ [171]) ∧ Below w.heap.size w w' ∧ w.heap.size ≤ g ∧ zs.length + 2 ≤ cap := by
  obtain ⟨ao, cap, hsv, hm⟩ := hb.len
  subst hsv
  have hown0 : Ow (w.alloc (.cells #[] 5)) w.heap.size (.slice (some ⟨w.heap.size, 0, none⟩) 0 0) [] := Ow_of_block (heap_alloc_new w _) (by simp) (Nat.le_refl _)
  have hb1 : Bs (w.alloc (.cells #[] 5)) (.slice ao zs.length cap) zs := hb.below ((Below.refl _ _).alloc (Nat.le_refl _) _) (Nat.le_refl _)
  go_enter Tryd.func25, Tryd.ntmps25
  go_wp2_with (at_builtin; refine wpList_append_bs _ rfl (.tmp 3) (.tmp 4) rfl w.heap.size _ [] rfl hown0 _ zs rfl hb1 (by simp; omega) (by simp) ?_)
  intro ao1 cap1 w1 hown1 hgrow1 hat1
  have B1 : Below w.heap.size w w1 := ((Below.refl _ _).alloc (Nat.le_refl _) _).grown hgrow1 (by simp) (fun k hk => by simp [Value.ownBlock] at hk; omega)
  have hs1 := B1.size
  have hown1' : Ow (w1.alloc (.cells #[.int .u8 171] 5)) w.heap.size (.slice ao1 zs.length cap1) zs := World.ownsRow.alloc hown1 _
  have hbs1 : Bs (w1.alloc (.cells #[.int .u8 171] 5)) (.slice (some ⟨w1.heap.size, 0, none⟩) 1 1) [171] := Bs_of_block (heap_alloc_new w1 _) (by simp [maxLen])
  go_wp2_with (at_builtin; refine wpList_append_bs _ rfl (.tmp 5) (.tmp 6) rfl w.heap.size _ zs rfl hown1' _ [171] rfl hbs1 (by simp; omega) (by simp; omega) ?_)
  intro ao2 cap2 w2 hown2 hgrow2 hat2
  have B2 : Below w.heap.size w w2 := (B1.alloc hs1 _).grown hgrow2 (by simp; omega) (fun k hk => (World.ownsRow.lt hown1' k hk).1)
  have hs2 := B2.size
  obtain ⟨ys, hys⟩ : ∃ ys, ys = zs ++ [171] := ⟨_, rfl⟩
  have hyl : zs.length + 1 = ys.length := by rw [hys]; simp
  rw [← hys] at hown2
  have hown2' : Ow (w2.alloc (.cells #[.int .u8 171] 5)) w.heap.size (.slice ao2 (zs.length + 1) cap2) ys := World.ownsRow.alloc hown2 _
  have hbs2 : Bs (w2.alloc (.cells #[.int .u8 171] 5)) (.slice (some ⟨w2.heap.size, 0, none⟩) 1 1) [171] := Bs_of_block (heap_alloc_new w2 _) (by simp [maxLen])
  have HY : Hid (ys = zs ++ [171]) := hys
  have HL : Hid (zs.length + 1 = ys.length) := hyl
  have hy1 : zs.length + 1 ≤ ys.length := by omega
  have hy2 : ys.length ≤ zs.length + 1 := by omega
  clear hys hyl
  go_wp2_with (at_builtin; refine wpList_append_bs _ rfl (.tmp 7) (.tmp 8) rfl w.heap.size _ ys rfl hown2' _ [171] rfl hbs2 (by simp; omega) (by simp; omega) ?_)
  intro ao3 cap3 w3 hown3 hgrow3 hat3
  have B3 : Below w.heap.size w w3 := (B2.alloc hs2 _).grown hgrow3 (by simp; omega) (fun k hk => (World.ownsRow.lt hown2' k hk).1)
  obtain ⟨g, hg, hg1, hg2, hg3, hg4, hg5⟩ := hown3.grow_form (by simp)
  subst hg
  have hl3 : (ys ++ [(171 : Int)]).length = ys.length + 1 := by simp
  have hfin := hown3.take (zs.length + 1) (by rw [hl3]; omega)
  rw [show (ys ++ [(171 : Int)]).take (zs.length + 1) = ys by rw [HL.out]; simp, HY.out] at hfin
  rw [hl3] at hg4
  have hcp : zs.length + 1 ≤ cap3 := by omega
  have hcp2 : zs.length + 2 ≤ cap3 := by omega
  unfold maxLen at hg5
  clear hown3 hgrow3 hat3 hown2' hbs2 hown2 hgrow2 hat2 hown1' hbs1 hown1 hgrow1 hat1 hown0 hb1 HY hl3 hg3 hg4
  go_wp2
  go_ret
  exact ⟨g, cap3, rfl, hfin, B3, hg1, hcp2⟩

theorem Ow.cell {w : World} {base g m cap : Nat} {ys : List Int} (h : Ow w base (.slice (some ⟨g, 0, none⟩) m cap) ys) (i : Nat) (hi : i < ys.length) : w.cell? ⟨g, i, none⟩ = some (.int .u8 (ys.getD i 0)) := by
  have := World.ownsRow.cells h (g := g) rfl i _ (cellsOf_get' ys i hi)
  simpa [Addr.add_lit] using this
theorem Sm.cell {w w' : World} (h : Sm w w') {a : Addr} {v : Value} (hc : w.cell? a = some v) : w'.cell? a = some v := by
  rw [World.cell?_of_block (w := w) (by rw [h.heap])]; exact hc
theorem Ow.bounds {w : World} {base g m cap : Nat} {ys : List Int} (h : Ow w base (.slice (some ⟨g, 0, none⟩) m cap) ys) : m = ys.length ∧ ys.length ≤ cap ∧ cap ≤ maxLen := by
  obtain ⟨ao, c, he, ⟨rfl, _, h0⟩ | ⟨g', cur, rfl, hb, hl, hg, hn, hc, hs, ht⟩⟩ := h.form
  · simp at he
  · simp only [Value.slice.injEq] at he
    obtain ⟨_, rfl, rfl⟩ := he
    exact ⟨rfl, hn, hc⟩

set_option maxHeartbeats 800000 in
theorem stands_any (base g cap : Nat) (sv : Value) (zs : List Int) (w : World) (ho : Ow w base (.slice (some ⟨g, 0, none⟩) (zs.length + 1) cap) (zs ++ [171])) (hb : Bs w sv zs) (hz : zs.length ≤ 100000000000000) :
    Calls Tryd.prog 27 #[.slice (some ⟨g, 0, none⟩) (zs.length + 1) cap, sv] w fun e w' => e = .returned (.bool true) ∧ Sm w w' := by
  obtain ⟨ao, cap', hsv, hm⟩ := hb.len
  subst hsv
  obtain ⟨-, hc1, hc2⟩ := ho.bounds
  have hc1' : zs.length + 1 ≤ cap := by simpa using hc1
  clear hc1
  unfold maxLen at hc2
  have hc := ho.cell zs.length (by simp)
  rw [show (zs ++ [(171 : Int)]).getD zs.length 0 = 171 by simp [List.getD]] at hc
  have ht := (ho.take zs.length (by simp)).bs
  rw [show (zs ++ [(171 : Int)]).take zs.length = zs by simp] at ht
  have heq : eqB zs zs = true := eqB_true rfl
  go_enter Tryd.func27, Tryd.ntmps27
  go_wp2_with fail
  refine (same_any _ _ zs zs _ ht hb).mono ?_
  rintro e w1 ⟨rfl, hsm⟩
  rw [heq]
  have hcc := hsm.cell hc
  clear hc
  go_wp2
  go_ret
  exact ⟨rfl, hsm⟩

def bitN : Nat → Nat → Nat
  | 0, c => c
  | j + 1, c => bit1 (bitN j c)

set_option maxRecDepth 100000 in
set_option maxHeartbeats 1600000 in
theorem refSum_any (va : Value) (xs : List Int) (w : World) (ha : Bs w va xs) (hx : Byt xs) :
    Calls Tryd.prog 49 #[va] w fun e w' => e = .returned (.int .u32 (sumOf xs : Nat)) ∧ w = w' := by
  obtain ⟨a1, c1, h1, m1⟩ := ha.len
  subst h1
  unfold maxLen at m1
  go_enter Tryd.func49, Tryd.ntmps49
  go_wp2
  go_loop [3, 4] (fun s i => ∃ (k t : Nat), k ≤ xs.length ∧ i = .int .i64 k ∧ s = .int .u32 t ∧ t < 4294967296 ∧ Hid (t = crcAll 4294967295 (xs.take k))) (fun _ i => xs.length - (intOf i).toNat)
  case atStart => exact ⟨0, 4294967295, Nat.zero_le _, rfl, rfl, by decide, rfl⟩
  case round =>
    obtain ⟨k, t, hk, rfl, rfl, ht1, HT⟩ := hrel
    by_cases hlt : k < xs.length
    · rcases ha with ⟨h0, _⟩ | ⟨_, b1, o1, d1, he1, hc1, hc2, hcell1⟩
      · subst h0; simp at hlt
      simp only [Value.slice.injEq] at he1
      obtain ⟨rfl, _, rfl⟩ := he1
      have hc := hcell1 k hlt
      clear hcell1
      obtain ⟨hx0, hx1⟩ := hx _ (getD_mem xs k hlt)
      have HN : Hid (xs.take (k + 1) = xs.take k ++ [xs.getD k 0]) := take_snoc xs k hlt
      generalize xs.getD k 0 = x at *
      obtain ⟨X, rfl⟩ := Int.eq_ofNat_of_zero_le hx0
      obtain ⟨t1, q1⟩ : ∃ t1, t1 = t ^^^ X := ⟨_, rfl⟩
      have b1' : t1 < 4294967296 := q1 ▸ xor_lt32 ht1 (by omega)
      have e0 : ((X : Int) % 4294967296) = X := by omega
      have e1 : bits .xor .u32 (t : Int) (X : Int) = (t1 : Int) := by rw [u32_xor_nat t X ht1 (by omega), q1]
      have HT2 : Hid (bitN 8 t1 = crcAll 4294967295 (xs.take (k + 1))) := by
        show _ = _
        rw [HN.out, crcAll_snoc, ← HT.out, crcB_bits, q1]
        rfl
      clear q1 HN HT
      go_wp2
      go_loop [3, 5] (fun s i => ∃ (j u : Nat), j ≤ 8 ∧ i = .int .i64 j ∧ s = .int .u32 u ∧ u < 4294967296 ∧ Hid (u = bitN j t1)) (fun _ i => 8 - (intOf i).toNat)
      case atStart => exact ⟨0, t1, by decide, rfl, rfl, b1', rfl⟩
      case round =>
        obtain ⟨j, u, hj, rfl, rfl, hu1, HU⟩ := hrel
        by_cases hj8 : j < 8
        · have HU2 : Hid (bit1 u = bitN (j + 1) t1) := by show _ = _; rw [HU.out]; rfl
          have hb := bit1_lt u hu1
          by_cases ho : u % 2 = 1
          · have ea : bits .and .u32 (u : Int) 1 = 1 := by
              have := u32_and_nat u 1 hu1 (by decide)
              rw [nat_mask1, ho] at this; exact this
            have ex : bits .xor .u32 ((u : Int) / 2) 2197175160 = ((bit1 u : Nat) : Int) := by
              have := u32_xor_nat (u / 2) 2197175160 (by omega) (by decide)
              rw [← bit1_odd ho] at this; simpa using this
            generalize bit1 u = u2 at *
            clear HU ho e0 e1 hc
            go_wp2
            go_round
            case rel => exact ⟨j + 1, u2, by omega, by go_num, rfl, hb, HU2⟩
            case measure => simp [intOf]; omega
          · have ea : bits .and .u32 (u : Int) 1 = 0 := by
              have := u32_and_nat u 1 hu1 (by decide)
              rw [nat_mask1, show u % 2 = 0 by omega] at this; exact this
            have ed : bit1 u = u / 2 := bit1_even ho
            rw [ed] at HU2 hb
            clear HU ho e0 e1 hc ed
            go_wp2
            go_round
            case rel => exact ⟨j + 1, u / 2, by omega, by go_num, by go_num, hb, HU2⟩
            case measure => simp [intOf]; omega
        · obtain rfl : j = 8 := by omega
          clear e0 e1 hc
          go_wp2
          go_round
          case rel => exact ⟨k + 1, u, by omega, by go_num, rfl, hu1, HU.out.trans HT2.out⟩
          case measure => simp [intOf]; omega
    · have hke : xs.take k = xs := List.take_of_length_le (by omega)
      have HF : Hid (bits .xor .u32 IntKind.u32.max (t : Int) = ((sumOf xs : Nat) : Int)) := by
        show _ = _
        have hm : IntKind.u32.max = ((4294967295 : Nat) : Int) := by decide
        rw [hm, u32_xor_nat 4294967295 t (by decide) ht1, Nat.xor_comm, not32 t ht1, sumOf, HT.out, hke]
      clear HT hke
      go_wp2
      go_ret
      exact ⟨ret_int HF.out, rfl⟩
end Go.Proofs.YtahodgmdikaedaaDoor
end

section
/-
  OctetSums, walked: for every row of bytes, place and byte it answers true, and writes nothing that was there.
-/
namespace Go.Proofs.YtahodgmdikaedaaDoor
open Go.RowKit

theorem Ow.set {w : World} {base g m cap : Nat} {ys : List Int} (h : Ow w base (.slice (some ⟨g, 0, none⟩) m cap) ys) (i : Nat) (x : Int) :
    Ow (w.setCell ⟨g, i, none⟩ (.int .u8 x)) base (.slice (some ⟨g, 0, none⟩) m cap) (ys.set i x) := by
  obtain ⟨ao, c, he, ⟨rfl, _⟩ | ⟨g', cur, rfl, hb, hl, hg, hn, hc, hs, ht⟩⟩ := h.form
  · simp at he
  · simp only [Value.slice.injEq, Option.some.injEq, Addr.mk.injEq, and_true] at he
    obtain ⟨rfl, rfl, rfl⟩ := he
    refine ⟨by simp [cellsOf], Or.inr ⟨g, cap, cur.setIfInBounds i (.int .u8 x), by simp, hb, ?_, by simpa using hn, hc, by simpa using hs, ?_⟩⟩
    · simp only [World.setCell, Array.getElem?_modify, hg]
      simp
    · simp only [List.length_set, Nat.mul_one, Array.toList_setIfInBounds]
      rw [List.take_set, ht]
      simp [cellsOf, List.map_set]

theorem and30 (a : Int) : ∃ A : Nat, bits .and .i64 a 1073741823 = (A : Int) ∧ A < 1073741824 := by
  have e : bits .and .i64 a 1073741823 = IntKind.i64.wrap (((BitVec.ofInt 64 a &&& BitVec.ofInt 64 1073741823).toNat : Nat) : Int) := rfl
  have hb : (BitVec.ofInt 64 a &&& BitVec.ofInt 64 1073741823).toNat < 1073741824 := by
    rw [BitVec.toNat_and]
    have : (BitVec.ofInt 64 1073741823).toNat = 1073741823 := by decide
    rw [this]
    exact Nat.lt_of_le_of_lt Nat.and_le_right (by decide)
  refine ⟨_, ?_, hb⟩
  rw [e]
  generalize (BitVec.ofInt 64 a &&& BitVec.ofInt 64 1073741823).toNat = n at *
  simp [IntKind.wrap, IntKind.bits, IntKind.signed]
  omega

theorem Ow.frozen {w : World} {base g m cap : Nat} {ys : List Int} (h : Ow w base (.slice (some ⟨g, 0, none⟩) m cap) ys) (i : Nat) : w.frozen? ⟨g, i, none⟩ = false := by
  obtain ⟨ao, c, he, ⟨rfl, _⟩ | ⟨g', cur, rfl, hb, hl, hg, hn, hc, hs, ht⟩⟩ := h.form
  · simp at he
  · simp only [Value.slice.injEq, Option.some.injEq, Addr.mk.injEq, and_true] at he
    obtain ⟨rfl, rfl, rfl⟩ := he
    simp [World.frozen?, hg]

theorem sumOf_set (zs : List Int) (i : Nat) (x : Int) (hz : ∀ z ∈ zs, 0 ≤ z ∧ z < 256) (hx : 0 ≤ x ∧ x < 256) (hi : i < zs.length) (hne : x ≠ zs.getD i 0) : sumOf (zs.set i x) ≠ sumOf zs := by
  have e1 : zs.set i x = zs.take i ++ x :: zs.drop (i + 1) := by rw [List.set_eq_take_append_cons_drop]; simp [hi]
  have e2 : zs = zs.take i ++ zs.getD i 0 :: zs.drop (i + 1) := by
    have : zs.getD i 0 = zs[i] := by simp [List.getD, hi]
    rw [this]; simp
  have h1 := sumOf_other (zs.take i) (zs.drop (i + 1)) x (zs.getD i 0) (fun z hz' => hz z (List.mem_of_mem_take hz')) (fun z hz' => hz z (List.mem_of_mem_drop hz')) hx (hz _ (getD_mem zs i hi)) hne
  rw [e1]
  rw [← e2] at h1
  exact h1

end Go.Proofs.YtahodgmdikaedaaDoor
end
