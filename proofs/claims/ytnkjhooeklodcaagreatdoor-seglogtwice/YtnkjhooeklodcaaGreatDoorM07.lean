/-
  Joined from: FrRefReader, FrRefReaderB.
-/
import Derived.Test.YtnkjhooeklodcaaGreatDoorM06
import Derived.Deep.RegionHeld3
import Derived.Deep.QuietTactic
import Derived.BigQuiet
section
/-
  The document's own Reader, by contracts: raw, Byte, Two, Four, Num, Bytes, Left, End.
-/
namespace Go.Proofs.YtnkjhooeklodcaaGreatDoor.Fr
open Go.RowKit

def Rf (w : World) (b : Nat) (v : Value) (zs : List Int) (e : Int) : Prop := w.heap[b]? = some (.cells #[v, .int .i64 e] 151 (0, 0)) ∧ Bs w v zs ∧ v.ownBlock ≠ some b

theorem Rf.lt {w : World} {b : Nat} {v : Value} {zs : List Int} {e : Int} (h : Rf w b v zs e) : b < w.heap.size := (Array.getElem?_eq_some_iff.1 h.1).1
theorem Rf.cell0 {w : World} {b : Nat} {v : Value} {zs : List Int} {e : Int} (h : Rf w b v zs e) : w.cell? ⟨b, 0, none⟩ = some v := by
  rw [cell_of_row w b 0 _ _ _ h.1]; rfl
theorem Rf.cell1 {w : World} {b : Nat} {v : Value} {zs : List Int} {e : Int} (h : Rf w b v zs e) : w.cell? ⟨b, 1, none⟩ = some (.int .i64 e) := by
  rw [cell_of_row w b 1 _ _ _ h.1]; rfl
theorem Rf.frozen {w : World} {b : Nat} {v : Value} {zs : List Int} {e : Int} (h : Rf w b v zs e) (i : Nat) : w.frozen? ⟨b, i, none⟩ = false := by
  simp [World.frozen?, h.1]
theorem Rf.set0 {w : World} {b : Nat} {v v' : Value} {zs zs' : List Int} {e : Int} (h : Rf w b v zs e) (hb : Bs w v' zs') (hv : v'.ownBlock ≠ some b) : Rf (w.setCell ⟨b, 0, none⟩ v') b v' zs' e ∧ Rstep b w (w.setCell ⟨b, 0, none⟩ v') := by
  refine ⟨⟨?_, hb.keep fun k hk _ => Below.heap_setCell _ _ _ _ (fun e => hv (by rw [hk, e])), hv⟩, ⟨rfl, rfl, rfl, by simp [World.setCell], fun k _ hkb => Below.heap_setCell _ _ _ _ hkb⟩⟩
  simp only [World.setCell, Array.getElem?_modify, h.1]
  simp
theorem Rf.set1 {w : World} {b : Nat} {v : Value} {zs : List Int} {e e' : Int} (h : Rf w b v zs e) : Rf (w.setCell ⟨b, 1, none⟩ (.int .i64 e')) b v zs e' ∧ Rstep b w (w.setCell ⟨b, 1, none⟩ (.int .i64 e')) := by
  refine ⟨⟨?_, h.2.1.keep fun k hk _ => Below.heap_setCell _ _ _ _ (fun e => h.2.2 (by rw [hk, e])), h.2.2⟩, ⟨rfl, rfl, rfl, by simp [World.setCell], fun k _ hkb => Below.heap_setCell _ _ _ _ hkb⟩⟩
  simp only [World.setCell, Array.getElem?_modify, h.1]
  simp
theorem Rf.sm {w w' : World} {b : Nat} {v : Value} {zs : List Int} {e : Int} (h : Rf w b v zs e) (hs : Sm w w') : Rf w' b v zs e := ⟨by rw [hs.heap]; exact h.1, hs.bs h.2.1, h.2.2⟩
theorem Rf.keep {w w' : World} {b : Nat} {v : Value} {zs : List Int} {e : Int} (h : Rf w b v zs e) (hb : w'.heap[b]? = w.heap[b]?) (hk : ∀ k, v.ownBlock = some k → k < w.heap.size → w'.heap[k]? = w.heap[k]?) : Rf w' b v zs e :=
  ⟨by rw [hb]; exact h.1, h.2.1.keep hk, h.2.2⟩
theorem Rf.below {w w' : World} {b B : Nat} {v : Value} {zs : List Int} {e : Int} (h : Rf w b v zs e) (hB : Below B w w') (hs : w.heap.size ≤ B) : Rf w' b v zs e :=
  h.keep (hB.block b (by have := h.lt; omega)) (fun k _ hk => hB.block k (by omega))


def Fleft (w : World) (b : Nat) (v : Value) (w' : World) (zs : List Int) (e : Int) : Prop := ∃ v', Rf w' b v' zs e ∧ Rstep b w w' ∧ (v'.ownBlock = v.ownBlock ∨ v'.ownBlock = none)

set_option maxHeartbeats 1600000 in
theorem raw_yes (b : Nat) (v : Value) (zs : List Int) (n : Nat) (w : World) (hr : Rf w b v zs 0) (hn : n ≤ zs.length) (hn0 : 0 < n) :
    Calls Tryz.prog 134 #[.pointer (some ⟨b, 0, none⟩), .int .i64 n] w fun r w' => ∃ x, r = .returned x ∧ Bs w' x (zs.take n) ∧ Fleft w b v w' (zs.drop n) 0 := by
  have hc0 := hr.cell0
  have hc1 := hr.cell1
  have hf0 := hr.frozen 0
  rcases hr.2.1 with ⟨h0, _⟩ | ⟨hz, b2, off, cap, hv, hca, hcb, hcell⟩
  · subst h0; simp at hn; omega
  subst hv
  have hpre := hr.2.1.front n hn
  have hsuf := hr.2.1.suffix n hn hz
  have hnb : b2 ≠ b := fun e => hr.2.2 (by simp [Value.ownBlock, e])
  unfold maxLen at hcb
  by_cases hcm : cap = n
  · have hd : zs.drop n = [] := List.drop_eq_nil_of_le (by omega)
    have R := hr.set0 (v' := .slice (some ⟨b2, off, none⟩) 0 0) (zs' := []) (Or.inl ⟨rfl, _, 0, rfl, by simp [maxLen], fun e => by cases e⟩) (by simpa [Value.ownBlock] using hnb)
    have hpre2 : Bs (w.setCell ⟨b, 0, none⟩ (.slice (some ⟨b2, off, none⟩) 0 0)) (.slice (some ⟨b2, off, none⟩) n cap) (zs.take n) := hpre.keep fun k hk _ => Below.heap_setCell _ _ _ _ (fun e => hnb (by simpa [Value.ownBlock, e] using hk))
    have hzm : zs.length - n = 0 := by omega
    have HD : Hid (zs.drop n = []) := hd
    clear hcell hsuf hpre hd
    subst hcm
    go_enter Tryz.func134, Tryz.ntmps134
    go_wp2
    go_ret
    rw [HD.out]
    exact ⟨_, rfl, hpre2, _, R.1, R.2, Or.inl rfl⟩
  · have R := hr.set0 hsuf (by simpa [Value.ownBlock] using hnb)
    have hpre2 : Bs (w.setCell ⟨b, 0, none⟩ (.slice (some ⟨b2, off + n, none⟩) (zs.length - n) (cap - n))) (.slice (some ⟨b2, off, none⟩) n cap) (zs.take n) := hpre.keep fun k hk _ => Below.heap_setCell _ _ _ _ (fun e => hnb (by simpa [Value.ownBlock, e] using hk))
    clear hcell hsuf hpre
    go_enter Tryz.func134, Tryz.ntmps134
    go_wp2
    go_ret
    exact ⟨_, rfl, hpre2, _, R.1, R.2, Or.inl rfl⟩

theorem mk1 (w : World) : (Instr.makeSlice 38 (.int .i64 1) (.int .i64 1)).run Tryz.prog w = .ok (.slice (some ⟨w.heap.size, 0, none⟩) 1 1) (w.alloc (.cells (cellsOf [0]).toArray 5)) := by kernel_rfl
theorem mk2 (w : World) : (Instr.makeSlice 38 (.int .i64 2) (.int .i64 2)).run Tryz.prog w = .ok (.slice (some ⟨w.heap.size, 0, none⟩) 2 2) (w.alloc (.cells (cellsOf [0, 0]).toArray 5)) := by kernel_rfl
theorem mk4 (w : World) : (Instr.makeSlice 38 (.int .i64 4) (.int .i64 4)).run Tryz.prog w = .ok (.slice (some ⟨w.heap.size, 0, none⟩) 4 4) (w.alloc (.cells (cellsOf [0, 0, 0, 0]).toArray 5)) := by kernel_rfl

def errR (e : Int) : Int := if e = 0 then 2 else e
theorem Rf.alloc {w : World} {b : Nat} {v : Value} {zs : List Int} {e : Int} (h : Rf w b v zs e) (o : Obj) : Rf (w.alloc o) b v zs e := h.below ((Below.refl _ _).alloc (Nat.le_refl _) _) (Nat.le_refl _)
theorem Rstep.alloc {b : Nat} {w w' : World} (h : Rstep b w w') (o : Obj) : Rstep b w (w'.alloc o) := h.trans (Rstep.of_below ((Below.refl _ _).alloc (Nat.le_refl _) _) (Nat.le_refl _))
theorem Bs_new (w W : World) (zs : List Int) (hs : W.heap.size = w.heap.size) (hm : zs.length ≤ maxLen) : Bs (W.alloc (.cells (cellsOf zs).toArray 5)) (.slice (some ⟨w.heap.size, 0, none⟩) zs.length zs.length) zs := by
  have := Bs_of_block (heap_alloc_new W (.cells (cellsOf zs).toArray 5)) hm
  rw [hs] at this
  exact this

set_option maxHeartbeats 1600000 in
theorem raw_no1 (b : Nat) (v : Value) (zs : List Int) (e : Int) (w : World) (hr : Rf w b v zs e) (hn : e = 0 → zs.length < 1) :
    Calls Tryz.prog 134 #[.pointer (some ⟨b, 0, none⟩), .int .i64 1] w fun r w' => ∃ x, r = .returned x ∧ Bs w' x [0] ∧ Fleft w b v w' [] (errR e) := by
  have hc0 := hr.cell0
  have hc1 := hr.cell1
  have hf0 := hr.frozen 0
  have hf1 := hr.frozen 1
  obtain ⟨ao, cap, hv, hm⟩ := hr.2.1.len
  subst hv
  have hmk := mk1
  have HZ : Hid (([0] : List Int).length ≤ maxLen) := by show _ ≤ _; simp [maxLen]
  by_cases he : e = 0
  · subst he
    have hl := hn rfl
    have R1 := hr.set1 (e' := 2)
    have R2 := R1.1.set0 (Bs_nil _) (by simp [Value.ownBlock])
    have hb := Bs_new w ((w.setCell ⟨b, 1, none⟩ (.int .i64 2)).setCell ⟨b, 0, none⟩ (.slice none 0 0)) [0] (by simp [World.setCell]) HZ.out
    go_enter Tryz.func134, Tryz.ntmps134
    go_wp2
    go_ret
    exact ⟨_, rfl, hb, _, R2.1.alloc _, (R1.2.trans R2.2).alloc _, Or.inr rfl⟩
  · have hne : (e == 0) = false := by simp [he]
    have hne2 : (e != 0) = true := by simp [he]
    have R2 := hr.set0 (Bs_nil _) (by simp [Value.ownBlock])
    have hb := Bs_new w (w.setCell ⟨b, 0, none⟩ (.slice none 0 0)) [0] (by simp [World.setCell]) HZ.out
    have HE : Hid (errR e = e) := by show _ = _; simp [errR, he]
    go_enter Tryz.func134, Tryz.ntmps134
    go_wp2
    go_ret
    rw [HE.out]
    exact ⟨_, rfl, hb, _, R2.1.alloc _, R2.2.alloc _, Or.inr rfl⟩

set_option maxHeartbeats 1600000 in
theorem raw_no2 (b : Nat) (v : Value) (zs : List Int) (e : Int) (w : World) (hr : Rf w b v zs e) (hn : e = 0 → zs.length < 2) :
    Calls Tryz.prog 134 #[.pointer (some ⟨b, 0, none⟩), .int .i64 2] w fun r w' => ∃ x, r = .returned x ∧ Bs w' x [0, 0] ∧ Fleft w b v w' [] (errR e) := by
  have hc0 := hr.cell0
  have hc1 := hr.cell1
  have hf0 := hr.frozen 0
  have hf1 := hr.frozen 1
  obtain ⟨ao, cap, hv, hm⟩ := hr.2.1.len
  subst hv
  have hmk := mk2
  have HZ : Hid (([0, 0] : List Int).length ≤ maxLen) := by show _ ≤ _; simp [maxLen]
  by_cases he : e = 0
  · subst he
    have hl := hn rfl
    have R1 := hr.set1 (e' := 2)
    have R2 := R1.1.set0 (Bs_nil _) (by simp [Value.ownBlock])
    have hb := Bs_new w ((w.setCell ⟨b, 1, none⟩ (.int .i64 2)).setCell ⟨b, 0, none⟩ (.slice none 0 0)) [0, 0] (by simp [World.setCell]) HZ.out
    go_enter Tryz.func134, Tryz.ntmps134
    go_wp2
    go_ret
    exact ⟨_, rfl, hb, _, R2.1.alloc _, (R1.2.trans R2.2).alloc _, Or.inr rfl⟩
  · have hne : (e == 0) = false := by simp [he]
    have hne2 : (e != 0) = true := by simp [he]
    have R2 := hr.set0 (Bs_nil _) (by simp [Value.ownBlock])
    have hb := Bs_new w (w.setCell ⟨b, 0, none⟩ (.slice none 0 0)) [0, 0] (by simp [World.setCell]) HZ.out
    have HE : Hid (errR e = e) := by show _ = _; simp [errR, he]
    go_enter Tryz.func134, Tryz.ntmps134
    go_wp2
    go_ret
    rw [HE.out]
    exact ⟨_, rfl, hb, _, R2.1.alloc _, R2.2.alloc _, Or.inr rfl⟩

set_option maxHeartbeats 1600000 in
theorem raw_no4 (b : Nat) (v : Value) (zs : List Int) (e : Int) (w : World) (hr : Rf w b v zs e) (hn : e = 0 → zs.length < 4) :
    Calls Tryz.prog 134 #[.pointer (some ⟨b, 0, none⟩), .int .i64 4] w fun r w' => ∃ x, r = .returned x ∧ Bs w' x [0, 0, 0, 0] ∧ Fleft w b v w' [] (errR e) := by
  have hc0 := hr.cell0
  have hc1 := hr.cell1
  have hf0 := hr.frozen 0
  have hf1 := hr.frozen 1
  obtain ⟨ao, cap, hv, hm⟩ := hr.2.1.len
  subst hv
  have hmk := mk4
  have HZ : Hid (([0, 0, 0, 0] : List Int).length ≤ maxLen) := by show _ ≤ _; simp [maxLen]
  by_cases he : e = 0
  · subst he
    have hl := hn rfl
    have R1 := hr.set1 (e' := 2)
    have R2 := R1.1.set0 (Bs_nil _) (by simp [Value.ownBlock])
    have hb := Bs_new w ((w.setCell ⟨b, 1, none⟩ (.int .i64 2)).setCell ⟨b, 0, none⟩ (.slice none 0 0)) [0, 0, 0, 0] (by simp [World.setCell]) HZ.out
    go_enter Tryz.func134, Tryz.ntmps134
    go_wp2
    go_ret
    exact ⟨_, rfl, hb, _, R2.1.alloc _, (R1.2.trans R2.2).alloc _, Or.inr rfl⟩
  · have hne : (e == 0) = false := by simp [he]
    have hne2 : (e != 0) = true := by simp [he]
    have R2 := hr.set0 (Bs_nil _) (by simp [Value.ownBlock])
    have hb := Bs_new w (w.setCell ⟨b, 0, none⟩ (.slice none 0 0)) [0, 0, 0, 0] (by simp [World.setCell]) HZ.out
    have HE : Hid (errR e = e) := by show _ = _; simp [errR, he]
    go_enter Tryz.func134, Tryz.ntmps134
    go_wp2
    go_ret
    rw [HE.out]
    exact ⟨_, rfl, hb, _, R2.1.alloc _, R2.2.alloc _, Or.inr rfl⟩

end Go.Proofs.YtnkjhooeklodcaaGreatDoor.Fr
end

section
/-
  The document's own Reader, by contracts: Byte, Two, Four, Left, End; and octet's Byte in the same words.
-/
namespace Go.Proofs.YtnkjhooeklodcaaGreatDoor.Fr
open Go.RowKit

def Inv (zs : List Int) (e : Int) : Prop := e = 0 ∨ zs = []
theorem rowR_inv (ys zs : List Int) (e : Int) (h : Inv zs e) : Inv (rowR ys zs e).2.1 (rowR ys zs e).2.2 := by
  unfold rowR Inv at *; split
  · split
    · exact Or.inl rfl
    · exact Or.inr rfl
  · exact h
theorem raw_row (ys zs : List Int) (e : Int) (w : World) (b : Nat) (v : Value) (n : Nat) (hys : ys.length = n) (hn0 : 0 < n) (hr : Rf w b v zs e) (hi : Inv zs e)
    (hno : (e = 0 → zs.length < n) → Calls Tryz.prog 134 #[.pointer (some ⟨b, 0, none⟩), .int .i64 n] w fun r w' => ∃ x, r = .returned x ∧ Bs w' x ys ∧ Fleft w b v w' [] (errR e)) :
    Calls Tryz.prog 134 #[.pointer (some ⟨b, 0, none⟩), .int .i64 n] w fun r w' => ∃ x, r = .returned x ∧ Bs w' x (rowR ys zs e).1 ∧ Fleft w b v w' (rowR ys zs e).2.1 (rowR ys zs e).2.2 := by
  by_cases he : e = 0
  · subst he
    by_cases hl : ys.length ≤ zs.length
    · rw [rowR_yes hl, hys]
      exact raw_yes b v zs n w hr (by omega) hn0
    · rw [rowR_no hl]
      exact hno (fun _ => by omega)
  · have hz : zs = [] := by rcases hi with h | h; exact absurd h he; exact h
    subst hz
    rw [rowR_err he]
    have := hno (fun h => absurd h he)
    rw [show errR e = e by simp [errR, he]] at this
    exact this

theorem rbyte_u (b : Nat) (v : Value) (zs : List Int) (e : Int) (w : World) (hr : Rd w b v zs e) :
    Calls Tryz.prog 158 #[.pointer (some ⟨b, 0, none⟩)] w fun r w' => r = .returned (.int .u8 ((rowR [0] zs e).1.getD 0 0)) ∧ Rleft w b v w' (rowR [0] zs e).2.1 (rowR [0] zs e).2.2 := by
  by_cases he : e = 0
  · subst he
    cases zs with
    | nil =>
      refine (rbyte_no b v w hr).mono ?_
      rintro r w' ⟨rfl, h1, h2⟩
      exact ⟨rfl, _, h1, h2, Or.inr rfl⟩
    | cons z zs =>
      refine (rbyte_yes b v z zs w hr).mono ?_
      rintro r w' ⟨rfl, v', hv, h1, h2⟩
      rw [rowR_yes (by simp)]
      exact ⟨rfl, v', h1, h2, Or.inl hv⟩
  · refine (rbyte_err b v zs e w hr he).mono ?_
    rintro r w' ⟨rfl, rfl⟩
    rw [rowR_err he]
    exact ⟨rfl, v, hr, Rstep.refl _ _, Or.inl rfl⟩

theorem Fleft.sm {w w1 w2 : World} {b : Nat} {v : Value} {zs : List Int} {e : Int} (h : Fleft w b v w1 zs e) (hs : Sm w1 w2) : Fleft w b v w2 zs e := by
  obtain ⟨v', h1, h2, h3⟩ := h
  exact ⟨v', h1.sm hs, h2.trans (Rstep.of_below (hs.below _) (Nat.le_refl _)), h3⟩

set_option maxHeartbeats 1600000 in
theorem ffour_u (b : Nat) (v : Value) (zs : List Int) (e : Int) (w : World) (hr : Rf w b v zs e) (hi : Inv zs e) (hz : Byt zs) :
    Calls Tryz.prog 163 #[.pointer (some ⟨b, 0, none⟩)] w fun r w' => r = .returned (.int .u32 (fourV (rowR [0, 0, 0, 0] zs e).1)) ∧ Fleft w b v w' (rowR [0, 0, 0, 0] zs e).2.1 (rowR [0, 0, 0, 0] zs e).2.2 := by
  have hlen := rowR_len [0, 0, 0, 0] zs e
  have hby := (rowR_byt (ys := [0, 0, 0, 0]) (e := e) (by intro z hz; simp at hz; omega) hz).1
  have hraw := raw_row [0, 0, 0, 0] zs e w b v 4 rfl (by decide) hr hi (raw_no4 b v zs e w hr)
  generalize rowR [0, 0, 0, 0] zs e = R at *
  obtain ⟨row, zs2, e2⟩ := R
  obtain ⟨x0, x1, x2, x3, rfl⟩ : ∃ x0 x1 x2 x3, row = [x0, x1, x2, x3] := by
    match row, hlen with
    | [x0, x1, x2, x3], _ => exact ⟨x0, x1, x2, x3, rfl⟩
  have HR : Hid (Calls Tryz.prog 134 #[.pointer (some ⟨b, 0, none⟩), .int .i64 4] w fun r w' => ∃ x, r = .returned x ∧ Bs w' x [x0, x1, x2, x3] ∧ Fleft w b v w' zs2 e2) := hraw
  have b0 := hby x0 (by simp)
  have b1 := hby x1 (by simp)
  have b2 := hby x2 (by simp)
  have b3 := hby x3 (by simp)
  have o1 : bits .or .u32 x0 (x1 * 256) = x0 + x1 * 256 := or32 x0 x1 8 (by decide) b0.1 (by simpa using b0.2) b1.1 b1.2
  obtain ⟨y1, hy1⟩ : ∃ y1, y1 = x0 + x1 * 256 := ⟨_, rfl⟩
  rw [← hy1] at o1
  have o2 : bits .or .u32 y1 (x2 * 65536) = y1 + x2 * 65536 := or32 y1 x2 16 (by decide) (by omega) (by simp; omega) b2.1 b2.2
  obtain ⟨y2, hy2⟩ : ∃ y2, y2 = y1 + x2 * 65536 := ⟨_, rfl⟩
  rw [← hy2] at o2
  have o3 : bits .or .u32 y2 (x3 * 16777216) = y2 + x3 * 16777216 := or32 y2 x3 24 (by decide) (by omega) (by simp; omega) b3.1 b3.2
  obtain ⟨y3, hy3⟩ : ∃ y3, y3 = y2 + x3 * 16777216 := ⟨_, rfl⟩
  rw [← hy3] at o3
  have HE : Hid (y3 = fourV [x0, x1, x2, x3]) := by
    have e : fourV [x0, x1, x2, x3] = x0 + 256 * x1 + 65536 * x2 + 16777216 * x3 := rfl
    show _ = _
    rw [e]; omega
  clear hraw hlen hby hy1 hy2 hy3
  go_enter Tryz.func163, Tryz.ntmps163
  go_wp2_with fail
  refine HR.out.mono ?_
  rintro r w1 ⟨x, rfl, hb, hl⟩
  rcases hb with ⟨h0, _⟩ | ⟨_, bb, off, cap, hx, h1, h2, hcell⟩
  · cases h0
  have hc0 : w1.cell? ⟨bb, off, none⟩ = some (.int .u8 x0) := by simpa using hcell 0 (by simp)
  have hc1 : w1.cell? ⟨bb, off + 1, none⟩ = some (.int .u8 x1) := by simpa using hcell 1 (by simp)
  have hc2 : w1.cell? ⟨bb, off + 2, none⟩ = some (.int .u8 x2) := by simpa using hcell 2 (by simp)
  have hc3 : w1.cell? ⟨bb, off + 3, none⟩ = some (.int .u8 x3) := by simpa using hcell 3 (by simp)
  have hx' : x = .slice (some ⟨bb, off, none⟩) 4 cap := hx
  rw [hx']
  clear hcell hx hx'
  go_wp2
  go_quiet (fail)
  go_wp2
  go_ret
  exact ⟨ret_int HE.out, hl.sm (Sm.drewN _ _)⟩
end Go.Proofs.YtnkjhooeklodcaaGreatDoor.Fr
end
