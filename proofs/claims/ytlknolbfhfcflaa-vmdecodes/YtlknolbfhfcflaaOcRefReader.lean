/-
  The document's own Reader, by contracts: raw, Byte, Two, Four, Num, Bytes, Left, End.
-/
import Derived.Test.YtlknolbfhfcflaaOcSlices
import Derived.Deep.RegionHeld3
namespace Go.Proofs.Ytlknolbfhfcflaa.Oc
open Go.RowKit

/-- Block b is the document's Reader that has zs left and the error e; its slice is v. -/
def Rf (w : World) (b : Nat) (v : Value) (zs : List Int) (e : Int) : Prop := w.heap[b]? = some (.cells #[v, .int .i64 e] 81 (0, 0)) ∧ Bs w v zs ∧ v.ownBlock ≠ some b

theorem Rf.lt {w : World} {b : Nat} {v : Value} {zs : List Int} {e : Int} (h : Rf w b v zs e) : b < w.heap.size := (Array.getElem?_eq_some_iff.1 h.1).1
theorem Rf.cell0 {w : World} {b : Nat} {v : Value} {zs : List Int} {e : Int} (h : Rf w b v zs e) : w.cell? ⟨b, 0, none⟩ = some v := by
  rw [cell_of_row w b 0 _ _ _ h.1]; rfl
theorem Rf.cell1 {w : World} {b : Nat} {v : Value} {zs : List Int} {e : Int} (h : Rf w b v zs e) : w.cell? ⟨b, 1, none⟩ = some (.int .i64 e) := by
  rw [cell_of_row w b 1 _ _ _ h.1]; rfl
theorem Rf.frozen {w : World} {b : Nat} {v : Value} {zs : List Int} {e : Int} (h : Rf w b v zs e) (i : Nat) : w.frozen? ⟨b, i, none⟩ = false := by
  simp [World.frozen?, h.1]
/-- Another slice in the Reader's first field. -/
theorem Rf.set0 {w : World} {b : Nat} {v v' : Value} {zs zs' : List Int} {e : Int} (h : Rf w b v zs e) (hb : Bs w v' zs') (hv : v'.ownBlock ≠ some b) : Rf (w.setCell ⟨b, 0, none⟩ v') b v' zs' e ∧ Rstep b w (w.setCell ⟨b, 0, none⟩ v') := by
  refine ⟨⟨?_, hb.keep fun k hk _ => Below.heap_setCell _ _ _ _ (fun e => hv (by rw [hk, e])), hv⟩, ⟨rfl, rfl, rfl, by simp [World.setCell], fun k _ hkb => Below.heap_setCell _ _ _ _ hkb⟩⟩
  simp only [World.setCell, Array.getElem?_modify, h.1]
  simp
theorem Rf.set1 {w : World} {b : Nat} {v : Value} {zs : List Int} {e e' : Int} (h : Rf w b v zs e) : Rf (w.setCell ⟨b, 1, none⟩ (.int .i64 e')) b v zs e' ∧ Rstep b w (w.setCell ⟨b, 1, none⟩ (.int .i64 e')) := by
  refine ⟨⟨?_, h.2.1.keep fun k hk _ => Below.heap_setCell _ _ _ _ (fun e => h.2.2 (by rw [hk, e])), h.2.2⟩, ⟨rfl, rfl, rfl, by simp [World.setCell], fun k _ hkb => Below.heap_setCell _ _ _ _ hkb⟩⟩
  simp only [World.setCell, Array.getElem?_modify, h.1]
  simp
theorem Rf.sm {w w' : World} {b : Nat} {v : Value} {zs : List Int} {e : Int} (h : Rf w b v zs e) (hs : Sm w w') : Rf w' b v zs e := ⟨by rw [hs.heap]; exact h.1, hs.bs h.2.1, h.2.2⟩
theorem Rf.keep {w w' : World} {b : Nat} {v : Value} {zs : List Int} {e : Int} (h : Rf w b v zs e) (hb : w'.heap[b]? = w.heap[b]?) (hk : ∀ k, v.ownBlock = some k → k < w.heap.size → w'.heap[k]? = w.heap[k]?) : Rf w' b v zs e :=
  ⟨by rw [hb]; exact h.1, h.2.1.keep hk, h.2.2⟩
theorem Rf.below {w w' : World} {b B : Nat} {v : Value} {zs : List Int} {e : Int} (h : Rf w b v zs e) (hB : Below B w w') (hs : w.heap.size ≤ B) : Rf w' b v zs e :=
  h.keep (hB.block b (by have := h.lt; omega)) (fun k _ hk => hB.block k (by omega))


/-- What a taking leaves. -/
def Fleft (w : World) (b : Nat) (v : Value) (w' : World) (zs : List Int) (e : Int) : Prop := ∃ v', Rf w' b v' zs e ∧ Rstep b w w' ∧ (v'.ownBlock = v.ownBlock ∨ v'.ownBlock = none)

set_option maxHeartbeats 1600000 in
theorem raw_yes (b : Nat) (v : Value) (zs : List Int) (n : Nat) (w : World) (hr : Rf w b v zs 0) (hn : n ≤ zs.length) (hn0 : 0 < n) :
    Calls Try.prog 64 #[.pointer (some ⟨b, 0, none⟩), .int .i64 n] w fun r w' => ∃ x, r = .returned x ∧ Bs w' x (zs.take n) ∧ Fleft w b v w' (zs.drop n) 0 := by
  have hc0 := hr.cell0
  have hc1 := hr.cell1
  have hf0 := hr.frozen 0
  rcases hr.2.1 with ⟨h0, _⟩ | ⟨hz, b2, off, cap, hv, hca, hcb, hcell⟩
  · subst h0; simp at hn; omega
  subst hv
  have hpre := hr.2.1.front n hn
  have hsuf := hr.2.1.suffix n hn hz
  have hnb : b2 ≠ b := fun e => hr.2.2 (by simp [Value.ownBlock, e])
  unfold maxLen at hcb
  by_cases hcm : cap = n
  · have hd : zs.drop n = [] := List.drop_eq_nil_of_le (by omega)
    have R := hr.set0 (v' := .slice (some ⟨b2, off, none⟩) 0 0) (zs' := []) (Or.inl ⟨rfl, _, 0, rfl, by simp [maxLen], fun e => by cases e⟩) (by simpa [Value.ownBlock] using hnb)
    have hpre2 : Bs (w.setCell ⟨b, 0, none⟩ (.slice (some ⟨b2, off, none⟩) 0 0)) (.slice (some ⟨b2, off, none⟩) n cap) (zs.take n) := hpre.keep fun k hk _ => Below.heap_setCell _ _ _ _ (fun e => hnb (by simpa [Value.ownBlock, e] using hk))
    have hzm : zs.length - n = 0 := by omega
    have HD : Hid (zs.drop n = []) := hd
    clear hcell hsuf hpre hd
    subst hcm
    go_enter Try.func64, Try.ntmps64
    go_wp2
    go_ret
    rw [HD.out]
    exact ⟨_, rfl, hpre2, _, R.1, R.2, Or.inl rfl⟩
  · have R := hr.set0 hsuf (by simpa [Value.ownBlock] using hnb)
    have hpre2 : Bs (w.setCell ⟨b, 0, none⟩ (.slice (some ⟨b2, off + n, none⟩) (zs.length - n) (cap - n))) (.slice (some ⟨b2, off, none⟩) n cap) (zs.take n) := hpre.keep fun k hk _ => Below.heap_setCell _ _ _ _ (fun e => hnb (by simpa [Value.ownBlock, e] using hk))
    clear hcell hsuf hpre
    go_enter Try.func64, Try.ntmps64
    go_wp2
    go_ret
    exact ⟨_, rfl, hpre2, _, R.1, R.2, Or.inl rfl⟩

theorem mk1 (w : World) : (Instr.makeSlice 44 (.int .i64 1) (.int .i64 1)).run Try.prog w = .ok (.slice (some ⟨w.heap.size, 0, none⟩) 1 1) (w.alloc (.cells (cellsOf [0]).toArray 5)) := by kernel_rfl
theorem mk2 (w : World) : (Instr.makeSlice 44 (.int .i64 2) (.int .i64 2)).run Try.prog w = .ok (.slice (some ⟨w.heap.size, 0, none⟩) 2 2) (w.alloc (.cells (cellsOf [0, 0]).toArray 5)) := by kernel_rfl
theorem mk4 (w : World) : (Instr.makeSlice 44 (.int .i64 4) (.int .i64 4)).run Try.prog w = .ok (.slice (some ⟨w.heap.size, 0, none⟩) 4 4) (w.alloc (.cells (cellsOf [0, 0, 0, 0]).toArray 5)) := by kernel_rfl
/-- The error behind a taking that finds too little. -/
def errR (e : Int) : Int := if e = 0 then 2 else e
theorem Rf.alloc {w : World} {b : Nat} {v : Value} {zs : List Int} {e : Int} (h : Rf w b v zs e) (o : Obj) : Rf (w.alloc o) b v zs e := h.below ((Below.refl _ _).alloc (Nat.le_refl _) _) (Nat.le_refl _)
theorem Rstep.alloc {b : Nat} {w w' : World} (h : Rstep b w w') (o : Obj) : Rstep b w (w'.alloc o) := h.trans (Rstep.of_below ((Below.refl _ _).alloc (Nat.le_refl _) _) (Nat.le_refl _))
theorem Bs_new (w W : World) (zs : List Int) (hs : W.heap.size = w.heap.size) (hm : zs.length ≤ maxLen) : Bs (W.alloc (.cells (cellsOf zs).toArray 5)) (.slice (some ⟨w.heap.size, 0, none⟩) zs.length zs.length) zs := by
  have := Bs_of_block (heap_alloc_new W (.cells (cellsOf zs).toArray 5)) hm
  rw [hs] at this
  exact this

set_option maxHeartbeats 1600000 in
theorem raw_no1 (b : Nat) (v : Value) (zs : List Int) (e : Int) (w : World) (hr : Rf w b v zs e) (hn : e = 0 → zs.length < 1) :
    Calls Try.prog 64 #[.pointer (some ⟨b, 0, none⟩), .int .i64 1] w fun r w' => ∃ x, r = .returned x ∧ Bs w' x [0] ∧ Fleft w b v w' [] (errR e) := by
  have hc0 := hr.cell0
  have hc1 := hr.cell1
  have hf0 := hr.frozen 0
  have hf1 := hr.frozen 1
  obtain ⟨ao, cap, hv, hm⟩ := hr.2.1.len
  subst hv
  have hmk := mk1
  have HZ : Hid (([0] : List Int).length ≤ maxLen) := by show _ ≤ _; simp [maxLen]
  by_cases he : e = 0
  · subst he
    have hl := hn rfl
    have R1 := hr.set1 (e' := 2)
    have R2 := R1.1.set0 (Bs_nil _) (by simp [Value.ownBlock])
    have hb := Bs_new w ((w.setCell ⟨b, 1, none⟩ (.int .i64 2)).setCell ⟨b, 0, none⟩ (.slice none 0 0)) [0] (by simp [World.setCell]) HZ.out
    go_enter Try.func64, Try.ntmps64
    go_wp2
    go_ret
    exact ⟨_, rfl, hb, _, R2.1.alloc _, (R1.2.trans R2.2).alloc _, Or.inr rfl⟩
  · have hne : (e == 0) = false := by simp [he]
    have hne2 : (e != 0) = true := by simp [he]
    have R2 := hr.set0 (Bs_nil _) (by simp [Value.ownBlock])
    have hb := Bs_new w (w.setCell ⟨b, 0, none⟩ (.slice none 0 0)) [0] (by simp [World.setCell]) HZ.out
    have HE : Hid (errR e = e) := by show _ = _; simp [errR, he]
    go_enter Try.func64, Try.ntmps64
    go_wp2
    go_ret
    rw [HE.out]
    exact ⟨_, rfl, hb, _, R2.1.alloc _, R2.2.alloc _, Or.inr rfl⟩

set_option maxHeartbeats 1600000 in
theorem raw_no2 (b : Nat) (v : Value) (zs : List Int) (e : Int) (w : World) (hr : Rf w b v zs e) (hn : e = 0 → zs.length < 2) :
    Calls Try.prog 64 #[.pointer (some ⟨b, 0, none⟩), .int .i64 2] w fun r w' => ∃ x, r = .returned x ∧ Bs w' x [0, 0] ∧ Fleft w b v w' [] (errR e) := by
  have hc0 := hr.cell0
  have hc1 := hr.cell1
  have hf0 := hr.frozen 0
  have hf1 := hr.frozen 1
  obtain ⟨ao, cap, hv, hm⟩ := hr.2.1.len
  subst hv
  have hmk := mk2
  have HZ : Hid (([0, 0] : List Int).length ≤ maxLen) := by show _ ≤ _; simp [maxLen]
  by_cases he : e = 0
  · subst he
    have hl := hn rfl
    have R1 := hr.set1 (e' := 2)
    have R2 := R1.1.set0 (Bs_nil _) (by simp [Value.ownBlock])
    have hb := Bs_new w ((w.setCell ⟨b, 1, none⟩ (.int .i64 2)).setCell ⟨b, 0, none⟩ (.slice none 0 0)) [0, 0] (by simp [World.setCell]) HZ.out
    go_enter Try.func64, Try.ntmps64
    go_wp2
    go_ret
    exact ⟨_, rfl, hb, _, R2.1.alloc _, (R1.2.trans R2.2).alloc _, Or.inr rfl⟩
  · have hne : (e == 0) = false := by simp [he]
    have hne2 : (e != 0) = true := by simp [he]
    have R2 := hr.set0 (Bs_nil _) (by simp [Value.ownBlock])
    have hb := Bs_new w (w.setCell ⟨b, 0, none⟩ (.slice none 0 0)) [0, 0] (by simp [World.setCell]) HZ.out
    have HE : Hid (errR e = e) := by show _ = _; simp [errR, he]
    go_enter Try.func64, Try.ntmps64
    go_wp2
    go_ret
    rw [HE.out]
    exact ⟨_, rfl, hb, _, R2.1.alloc _, R2.2.alloc _, Or.inr rfl⟩

set_option maxHeartbeats 1600000 in
theorem raw_no4 (b : Nat) (v : Value) (zs : List Int) (e : Int) (w : World) (hr : Rf w b v zs e) (hn : e = 0 → zs.length < 4) :
    Calls Try.prog 64 #[.pointer (some ⟨b, 0, none⟩), .int .i64 4] w fun r w' => ∃ x, r = .returned x ∧ Bs w' x [0, 0, 0, 0] ∧ Fleft w b v w' [] (errR e) := by
  have hc0 := hr.cell0
  have hc1 := hr.cell1
  have hf0 := hr.frozen 0
  have hf1 := hr.frozen 1
  obtain ⟨ao, cap, hv, hm⟩ := hr.2.1.len
  subst hv
  have hmk := mk4
  have HZ : Hid (([0, 0, 0, 0] : List Int).length ≤ maxLen) := by show _ ≤ _; simp [maxLen]
  by_cases he : e = 0
  · subst he
    have hl := hn rfl
    have R1 := hr.set1 (e' := 2)
    have R2 := R1.1.set0 (Bs_nil _) (by simp [Value.ownBlock])
    have hb := Bs_new w ((w.setCell ⟨b, 1, none⟩ (.int .i64 2)).setCell ⟨b, 0, none⟩ (.slice none 0 0)) [0, 0, 0, 0] (by simp [World.setCell]) HZ.out
    go_enter Try.func64, Try.ntmps64
    go_wp2
    go_ret
    exact ⟨_, rfl, hb, _, R2.1.alloc _, (R1.2.trans R2.2).alloc _, Or.inr rfl⟩
  · have hne : (e == 0) = false := by simp [he]
    have hne2 : (e != 0) = true := by simp [he]
    have R2 := hr.set0 (Bs_nil _) (by simp [Value.ownBlock])
    have hb := Bs_new w (w.setCell ⟨b, 0, none⟩ (.slice none 0 0)) [0, 0, 0, 0] (by simp [World.setCell]) HZ.out
    have HE : Hid (errR e = e) := by show _ = _; simp [errR, he]
    go_enter Try.func64, Try.ntmps64
    go_wp2
    go_ret
    rw [HE.out]
    exact ⟨_, rfl, hb, _, R2.1.alloc _, R2.2.alloc _, Or.inr rfl⟩

end Go.Proofs.Ytlknolbfhfcflaa.Oc
