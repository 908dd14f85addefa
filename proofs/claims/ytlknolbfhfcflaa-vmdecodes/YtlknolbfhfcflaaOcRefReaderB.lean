/-
  The document's own Reader, by contracts: Byte, Two, Four, Left, End; and octet's Byte in the same words.
-/
import Derived.Test.YtlknolbfhfcflaaOcRefReader
import Derived.Deep.QuietTactic
import Derived.BigQuiet
namespace Go.Proofs.Ytlknolbfhfcflaa.Oc
open Go.RowKit

/-- Behind an error nothing is left. -/
def Inv (zs : List Int) (e : Int) : Prop := e = 0 ∨ zs = []
theorem rowR_inv (ys zs : List Int) (e : Int) (h : Inv zs e) : Inv (rowR ys zs e).2.1 (rowR ys zs e).2.2 := by
  unfold rowR Inv at *; split
  · split
    · exact Or.inl rfl
    · exact Or.inr rfl
  · exact h
theorem numR_err (f k u : Nat) (zs : List Int) (h : (numR f k u zs).2.2 ≠ 0) : (numR f k u zs).1 = 0 ∧ (numR f k u zs).2.1 = [] := by
  induction f generalizing k u zs with
  | zero => exact ⟨rfl, rfl⟩
  | succ f ih =>
    cases zs with
    | nil => exact ⟨rfl, rfl⟩
    | cons z r =>
      by_cases hz : 128 ≤ z
      · rw [numR_more hz] at h ⊢; exact ih _ _ _ h
      · cases hb : badB k z with
        | true => rw [numR_bad hz hb]; exact ⟨rfl, rfl⟩
        | false => rw [numR_good hz hb] at h; exact absurd rfl h
theorem numR_inv (f k u : Nat) (zs : List Int) : Inv (numR f k u zs).2.1 (numR f k u zs).2.2 := by
  by_cases h : (numR f k u zs).2.2 = 0
  · exact Or.inl h
  · exact Or.inr (numR_err f k u zs h).2

theorem raw_row (ys zs : List Int) (e : Int) (w : World) (b : Nat) (v : Value) (n : Nat) (hys : ys.length = n) (hn0 : 0 < n) (hr : Rf w b v zs e) (hi : Inv zs e)
    (hno : (e = 0 → zs.length < n) → Calls Try.prog 64 #[.pointer (some ⟨b, 0, none⟩), .int .i64 n] w fun r w' => ∃ x, r = .returned x ∧ Bs w' x ys ∧ Fleft w b v w' [] (errR e)) :
    Calls Try.prog 64 #[.pointer (some ⟨b, 0, none⟩), .int .i64 n] w fun r w' => ∃ x, r = .returned x ∧ Bs w' x (rowR ys zs e).1 ∧ Fleft w b v w' (rowR ys zs e).2.1 (rowR ys zs e).2.2 := by
  by_cases he : e = 0
  · subst he
    by_cases hl : ys.length ≤ zs.length
    · rw [rowR_yes hl, hys]
      exact raw_yes b v zs n w hr (by omega) hn0
    · rw [rowR_no hl]
      exact hno (fun _ => by omega)
  · have hz : zs = [] := by rcases hi with h | h; exact absurd h he; exact h
    subst hz
    rw [rowR_err he]
    have := hno (fun h => absurd h he)
    rw [show errR e = e by simp [errR, he]] at this
    exact this

theorem rbyte_u (b : Nat) (v : Value) (zs : List Int) (e : Int) (w : World) (hr : Rd w b v zs e) :
    Calls Try.prog 35 #[.pointer (some ⟨b, 0, none⟩)] w fun r w' => r = .returned (.int .u8 ((rowR [0] zs e).1.getD 0 0)) ∧ Rleft w b v w' (rowR [0] zs e).2.1 (rowR [0] zs e).2.2 := by
  by_cases he : e = 0
  · subst he
    cases zs with
    | nil =>
      refine (rbyte_no b v w hr).mono ?_
      rintro r w' ⟨rfl, h1, h2⟩
      exact ⟨rfl, _, h1, h2, Or.inr rfl⟩
    | cons z zs =>
      refine (rbyte_yes b v z zs w hr).mono ?_
      rintro r w' ⟨rfl, v', hv, h1, h2⟩
      rw [rowR_yes (by simp)]
      exact ⟨rfl, v', h1, h2, Or.inl hv⟩
  · refine (rbyte_err b v zs e w hr he).mono ?_
    rintro r w' ⟨rfl, rfl⟩
    rw [rowR_err he]
    exact ⟨rfl, v, hr, Rstep.refl _ _, Or.inl rfl⟩

set_option maxHeartbeats 800000 in
theorem fbyte_u (b : Nat) (v : Value) (zs : List Int) (e : Int) (w : World) (hr : Rf w b v zs e) (hi : Inv zs e) :
    Calls Try.prog 41 #[.pointer (some ⟨b, 0, none⟩)] w fun r w' => r = .returned (.int .u8 ((rowR [0] zs e).1.getD 0 0)) ∧ Fleft w b v w' (rowR [0] zs e).2.1 (rowR [0] zs e).2.2 := by
  have hlen := rowR_len [0] zs e
  have hraw := raw_row [0] zs e w b v 1 rfl (by decide) hr hi (raw_no1 b v zs e w hr)
  generalize rowR [0] zs e = R at *
  obtain ⟨row, zs2, e2⟩ := R
  obtain ⟨x0, rfl⟩ : ∃ x0, row = [x0] := by
    match row, hlen with
    | [x0], _ => exact ⟨x0, rfl⟩
  have HR : Hid (Calls Try.prog 64 #[.pointer (some ⟨b, 0, none⟩), .int .i64 1] w fun r w' => ∃ x, r = .returned x ∧ Bs w' x [x0] ∧ Fleft w b v w' zs2 e2) := hraw
  clear hraw hlen
  go_enter Try.func41, Try.ntmps41
  go_wp2_with fail
  refine HR.out.mono ?_
  rintro r w1 ⟨x, rfl, hb, hl⟩
  rcases hb with ⟨h0, _⟩ | ⟨_, b2, off, cap, hx, h1, h2, hcell⟩
  · cases h0
  have hc : w1.cell? ⟨b2, off, none⟩ = some (.int .u8 x0) := by simpa using hcell 0 (by simp)
  have hx' : x = .slice (some ⟨b2, off, none⟩) 1 cap := hx
  rw [hx']
  clear hcell hx hx'
  go_wp2
  go_ret
  exact ⟨rfl, hl⟩

theorem fend_any (b : Nat) (v : Value) (zs : List Int) (e : Int) (w : World) (hr : Rf w b v zs e) :
    Calls Try.prog 42 #[.pointer (some ⟨b, 0, none⟩)] w fun r w' => r = .returned (.int .i64 (endR zs e)) ∧ w = w' := by
  have hc0 := hr.cell0
  have hc1 := hr.cell1
  obtain ⟨ao, cap, hv, hm⟩ := hr.2.1.len
  subst hv
  by_cases he : e = 0
  · subst he
    by_cases hz : zs = []
    · have HE : Hid (0 = endR zs 0) := by show _ = _; simp [endR, hz]
      subst hz
      go_enter Try.func42, Try.ntmps42
      go_wp2
      go_ret
      exact ⟨ret_int HE.out, rfl⟩
    · have HE : Hid (3 = endR zs 0) := by show _ = _; simp [endR, hz]
      have hl : 0 < zs.length := List.length_pos_iff.2 hz
      clear hz
      go_enter Try.func42, Try.ntmps42
      go_wp2
      go_ret
      exact ⟨ret_int HE.out, rfl⟩
  · have HE : Hid (e = endR zs e) := by show _ = _; simp [endR, he]
    have hne : (e == 0) = false := by simp [he]
    clear he
    go_enter Try.func42, Try.ntmps42
    go_wp2
    go_ret
    exact ⟨ret_int HE.out, rfl⟩

theorem Fleft.sm {w w1 w2 : World} {b : Nat} {v : Value} {zs : List Int} {e : Int} (h : Fleft w b v w1 zs e) (hs : Sm w1 w2) : Fleft w b v w2 zs e := by
  obtain ⟨v', h1, h2, h3⟩ := h
  exact ⟨v', h1.sm hs, h2.trans (Rstep.of_below (hs.below _) (Nat.le_refl _)), h3⟩

set_option maxHeartbeats 1600000 in
theorem ffour_u (b : Nat) (v : Value) (zs : List Int) (e : Int) (w : World) (hr : Rf w b v zs e) (hi : Inv zs e) (hz : Byt zs) :
    Calls Try.prog 40 #[.pointer (some ⟨b, 0, none⟩)] w fun r w' => r = .returned (.int .u32 (fourV (rowR [0, 0, 0, 0] zs e).1)) ∧ Fleft w b v w' (rowR [0, 0, 0, 0] zs e).2.1 (rowR [0, 0, 0, 0] zs e).2.2 := by
  have hlen := rowR_len [0, 0, 0, 0] zs e
  have hby := (rowR_byt (ys := [0, 0, 0, 0]) (e := e) (by intro z hz; simp at hz; omega) hz).1
  have hraw := raw_row [0, 0, 0, 0] zs e w b v 4 rfl (by decide) hr hi (raw_no4 b v zs e w hr)
  generalize rowR [0, 0, 0, 0] zs e = R at *
  obtain ⟨row, zs2, e2⟩ := R
  obtain ⟨x0, x1, x2, x3, rfl⟩ : ∃ x0 x1 x2 x3, row = [x0, x1, x2, x3] := by
    match row, hlen with
    | [x0, x1, x2, x3], _ => exact ⟨x0, x1, x2, x3, rfl⟩
  have HR : Hid (Calls Try.prog 64 #[.pointer (some ⟨b, 0, none⟩), .int .i64 4] w fun r w' => ∃ x, r = .returned x ∧ Bs w' x [x0, x1, x2, x3] ∧ Fleft w b v w' zs2 e2) := hraw
  have b0 := hby x0 (by simp)
  have b1 := hby x1 (by simp)
  have b2 := hby x2 (by simp)
  have b3 := hby x3 (by simp)
  have o1 : bits .or .u32 x0 (x1 * 256) = x0 + x1 * 256 := or32 x0 x1 8 (by decide) b0.1 (by simpa using b0.2) b1.1 b1.2
  obtain ⟨y1, hy1⟩ : ∃ y1, y1 = x0 + x1 * 256 := ⟨_, rfl⟩
  rw [← hy1] at o1
  have o2 : bits .or .u32 y1 (x2 * 65536) = y1 + x2 * 65536 := or32 y1 x2 16 (by decide) (by omega) (by simp; omega) b2.1 b2.2
  obtain ⟨y2, hy2⟩ : ∃ y2, y2 = y1 + x2 * 65536 := ⟨_, rfl⟩
  rw [← hy2] at o2
  have o3 : bits .or .u32 y2 (x3 * 16777216) = y2 + x3 * 16777216 := or32 y2 x3 24 (by decide) (by omega) (by simp; omega) b3.1 b3.2
  obtain ⟨y3, hy3⟩ : ∃ y3, y3 = y2 + x3 * 16777216 := ⟨_, rfl⟩
  rw [← hy3] at o3
  have HE : Hid (y3 = fourV [x0, x1, x2, x3]) := by
    have e : fourV [x0, x1, x2, x3] = x0 + 256 * x1 + 65536 * x2 + 16777216 * x3 := rfl
    show _ = _
    rw [e]; omega
  clear hraw hlen hby hy1 hy2 hy3
  go_enter Try.func40, Try.ntmps40
  go_wp2_with fail
  refine HR.out.mono ?_
  rintro r w1 ⟨x, rfl, hb, hl⟩
  rcases hb with ⟨h0, _⟩ | ⟨_, bb, off, cap, hx, h1, h2, hcell⟩
  · cases h0
  have hc0 : w1.cell? ⟨bb, off, none⟩ = some (.int .u8 x0) := by simpa using hcell 0 (by simp)
  have hc1 : w1.cell? ⟨bb, off + 1, none⟩ = some (.int .u8 x1) := by simpa using hcell 1 (by simp)
  have hc2 : w1.cell? ⟨bb, off + 2, none⟩ = some (.int .u8 x2) := by simpa using hcell 2 (by simp)
  have hc3 : w1.cell? ⟨bb, off + 3, none⟩ = some (.int .u8 x3) := by simpa using hcell 3 (by simp)
  have hx' : x = .slice (some ⟨bb, off, none⟩) 4 cap := hx
  rw [hx']
  clear hcell hx hx'
  go_wp2
  go_quiet (fail)
  go_wp2
  go_ret
  exact ⟨ret_int HE.out, hl.sm (Sm.drewN _ _)⟩
end Go.Proofs.Ytlknolbfhfcflaa.Oc
