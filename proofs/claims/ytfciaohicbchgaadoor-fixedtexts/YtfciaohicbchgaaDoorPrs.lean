/-
  The program's read and Parse.
-/
import Derived.Test.YtfciaohicbchgaaDoorPans
import Derived.Test.YtfciaohicbchgaaDoorTxt
namespace Go.Proofs.YtfciaohicbchgaaDoor
open Go.Shelf Go.RowKit
theorem parseM_le (M : Nat) : ∀ (l : List UInt8) (acc u : Nat), acc ≤ M → Lib.parseUintM M acc l = .ok u → u ≤ M
  | [], acc, u, ha, h => by simp only [Lib.parseUintM] at h; injection h with h; omega
  | c :: r, acc, u, ha, h => by
    simp only [Lib.parseUintM] at h
    split at h
    · split at h
      · cases h
      · split at h
        · cases h
        · exact parseM_le M r _ u (by omega) h
    · cases h
theorem hexM_le : ∀ (l : List UInt8) (acc u : Nat), acc ≤ 65535 → hexM acc l = .ok u → u ≤ 65535
  | [], acc, u, ha, h => by simp only [hexM] at h; injection h with h; omega
  | c :: r, acc, u, ha, h => by
    simp only [hexM] at h
    split at h
    · cases h
    · split at h
      · cases h
      · exact hexM_le r _ u (by omega) h
theorem okOf_some {e : Lib.NumEnd Nat} {u : Nat} (h : okOf e = some u) : e = .ok u := by cases e <;> simp [okOf] at h; rw [h]
theorem decP_le {l : List UInt8} {u : Nat} (h : decP l = some u) : u ≤ 4294967295 := by
  have h1 := okOf_some h
  unfold Lib.parseUintB at h1
  split at h1
  · cases h1
  · exact parseM_le _ _ _ _ (by decide) h1
theorem hexP_le {l : List UInt8} {u : Nat} (h : hexP l = some u) : u ≤ 65535 := by
  unfold hexP at h
  split at h
  · cases h
  · exact hexM_le _ _ _ (by decide) (okOf_some h)
/-- A text, read. -/
def readS (s : List UInt8) : Option Int :=
  match decP (Lib.cut (Lib.trimPrefix s [45]) [46]).1, hexP (Lib.cut (Lib.trimPrefix s [45]) [46]).2.1 with
  | some x, some y => some (if Lib.hasPrefix s [45] = true then -((x : Int) * 65536 + y) else (x : Int) * 65536 + y)
  | _, _ => none
theorem cut_any (l : List UInt8) (hl : l.length ≤ 1000) (w : World) (h : TbT w) :
    Calls Tryd.prog 33 #[.string ⟨l.toArray⟩, .string ⟨#[46]⟩] w fun e w' => e = .returned (.tuple #[.string ⟨(Lib.cut l [46]).1.toArray⟩, .string ⟨(Lib.cut l [46]).2.1.toArray⟩, .bool (Lib.cut l [46]).2.2]) ∧ Below w.heap.size w w' := by
  obtain ⟨m, hm⟩ := h.ml
  have hsz : (⟨l.toArray⟩ : ByteArray).size = l.length := by simp [ByteArray.size]
  refine (Any.strings_Cut (ρ := sh_lays145_ren) sh_lays145 ⟨l.toArray⟩ ⟨#[46]⟩ m w (by omega) hm).mono fun e w' ⟨he, n, hw⟩ => ⟨he, ?_⟩
  rw [hw]
  exact ⟨rfl, rfl, rfl, Nat.le_refl _, fun _ _ => rfl⟩
theorem cut_len (l : List UInt8) (sep : List UInt8) : (Lib.cut l sep).1.length ≤ l.length ∧ (Lib.cut l sep).2.1.length ≤ l.length := by
  unfold Lib.cut
  split <;> simp <;> omega
theorem trim_len (l p : List UInt8) : (Lib.trimPrefix l p).length ≤ l.length := by
  unfold Lib.trimPrefix
  split <;> simp
set_option maxHeartbeats 2000000 in
theorem read_any (s : List UInt8) (hl : s.length ≤ 1000) (w : World) (h : TbT w) :
    Calls Tryd.prog 27 #[.string ⟨s.toArray⟩] w fun e w' => e = .returned (.tuple #[.int .i64 ((readS s).getD 0), .bool (readS s).isSome]) ∧ Below w.heap.size w w' := by
  have C1 : Calls Tryd.prog 32 #[.string ⟨s.toArray⟩, .string ⟨#[45]⟩] w fun e w' => e = .returned (.tuple #[.string ⟨(Lib.trimPrefix s [45]).toArray⟩, .bool (Lib.hasPrefix s [45])]) ∧ w' = w := cutPrefix ⟨s.toArray⟩ ⟨#[45]⟩ w
  have l1 := trim_len s [45]
  have l2 := cut_len (Lib.trimPrefix s [45]) [46]
  have hR : readS s = match decP (Lib.cut (Lib.trimPrefix s [45]) [46]).1, hexP (Lib.cut (Lib.trimPrefix s [45]) [46]).2.1 with
    | some x, some y => some (if Lib.hasPrefix s [45] = true then -((x : Int) * 65536 + y) else (x : Int) * 65536 + y)
    | _, _ => none := rfl
  generalize Lib.trimPrefix s [45] = u at *
  have C2 := cut_any u (by omega) w h
  generalize (Lib.cut u [46]).2.2 = cb at *
  generalize (Lib.cut u [46]).1 = bf at *
  generalize (Lib.cut u [46]).2.1 = bh at *
  have C3 := fun (w1 : World) (hb : Below w.heap.size w w1) => parse10_any bf (by omega) w1 (h.below hb (Nat.le_refl _))
  have C4 := fun (w1 : World) (hb : Below w.heap.size w w1) => parse16_any bh (by omega) w1 (h.below hb (Nat.le_refl _))
  generalize Lib.hasPrefix s [45] = ng at *
  generalize readS s = R at *
  have L1 := @decP_le bf
  have L2 := @hexP_le bh
  generalize decP bf = X at *
  generalize hexP bh = Y at *
  clear l1 l2 h hl
  cases X with
  | none =>
    cases Y with
    | none =>
      have hR' : R = none := hR
      subst hR'
      clear hR
      go_enter Tryd.func27, Tryd.ntmps27
      go_wp2_with (first
        | (go_at_call 32; refine C1.mono ?_; rintro e w1 ⟨rfl, hw⟩; replace hw := hw.symm; subst hw)
        | (go_at_call 33; refine C2.mono ?_; rintro e w2 ⟨rfl, B2⟩)
        | (go_at_call_of 34 (Value.string ⟨bf.toArray⟩); refine (C3 _ B2).mono ?_; rintro e w3 ⟨⟨x3, T3, v3, rfl⟩, B3⟩; replace B2 := B2.trans (B3.mono B2.size); clear B3)
        | (go_at_call 34; refine (C4 _ B2).mono ?_; rintro e w4 ⟨⟨x4, T4, v4, rfl⟩, B4⟩; replace B2 := B2.trans (B4.mono B2.size); clear B4))
      go_ret2
      exact ⟨rfl, B2⟩
    | some y =>
      have hy := L2 rfl
      clear L2
      have hR' : R = none := hR
      subst hR'
      clear hR
      go_enter Tryd.func27, Tryd.ntmps27
      go_wp2_with (first
        | (go_at_call 32; refine C1.mono ?_; rintro e w1 ⟨rfl, hw⟩; replace hw := hw.symm; subst hw)
        | (go_at_call 33; refine C2.mono ?_; rintro e w2 ⟨rfl, B2⟩)
        | (go_at_call_of 34 (Value.string ⟨bf.toArray⟩); refine (C3 _ B2).mono ?_; rintro e w3 ⟨⟨x3, T3, v3, rfl⟩, B3⟩; replace B2 := B2.trans (B3.mono B2.size); clear B3)
        | (go_at_call 34; refine (C4 _ B2).mono ?_; rintro e w4 ⟨rfl, B4⟩; replace B2 := B2.trans (B4.mono B2.size); clear B4))
      go_ret2
      exact ⟨rfl, B2⟩
  | some x =>
    have hx := L1 rfl
    clear L1
    cases Y with
    | none =>
      have hR' : R = none := hR
      subst hR'
      clear hR
      go_enter Tryd.func27, Tryd.ntmps27
      go_wp2_with (first
        | (go_at_call 32; refine C1.mono ?_; rintro e w1 ⟨rfl, hw⟩; replace hw := hw.symm; subst hw)
        | (go_at_call 33; refine C2.mono ?_; rintro e w2 ⟨rfl, B2⟩)
        | (go_at_call_of 34 (Value.string ⟨bf.toArray⟩); refine (C3 _ B2).mono ?_; rintro e w3 ⟨rfl, B3⟩; replace B2 := B2.trans (B3.mono B2.size); clear B3)
        | (go_at_call 34; refine (C4 _ B2).mono ?_; rintro e w4 ⟨⟨x4, T4, v4, rfl⟩, B4⟩; replace B2 := B2.trans (B4.mono B2.size); clear B4))
      go_ret2
      exact ⟨rfl, B2⟩
    | some y =>
      have hy := L2 rfl
      clear L2
      have c1 : IntKind.u64.wrap ((x : Int) * 65536) = (x : Int) * 65536 := by rw [IntKind.wrap_u64]; omega
      have c2 : IntKind.u64.wrap ((x : Int) * 65536 + (y : Int)) = (x : Int) * 65536 + (y : Int) := by rw [IntKind.wrap_u64]; omega
      have c3 : wrap64 ((x : Int) * 65536 + (y : Int)) = (x : Int) * 65536 + (y : Int) := by unfold wrap64; omega
      have c4 : wrap64 (-((x : Int) * 65536 + (y : Int))) = -((x : Int) * 65536 + (y : Int)) := by unfold wrap64; omega
      cases ng with
      | true =>
        have hR' : R = some (-((x : Int) * 65536 + y)) := hR
        subst hR'
        clear hR
        go_enter Tryd.func27, Tryd.ntmps27
        go_wp2_with (first
          | (go_at_call 32; refine C1.mono ?_; rintro e w1 ⟨rfl, hw⟩; replace hw := hw.symm; subst hw)
          | (go_at_call 33; refine C2.mono ?_; rintro e w2 ⟨rfl, B2⟩)
          | (go_at_call_of 34 (Value.string ⟨bf.toArray⟩); refine (C3 _ B2).mono ?_; rintro e w3 ⟨rfl, B3⟩; replace B2 := B2.trans (B3.mono B2.size); clear B3)
          | (go_at_call 34; refine (C4 _ B2).mono ?_; rintro e w4 ⟨rfl, B4⟩; replace B2 := B2.trans (B4.mono B2.size); clear B4))
        go_ret2
        exact ⟨by rfl, B2⟩
      | false =>
        have hR' : R = some ((x : Int) * 65536 + y) := hR
        subst hR'
        clear hR
        go_enter Tryd.func27, Tryd.ntmps27
        go_wp2_with (first
          | (go_at_call 32; refine C1.mono ?_; rintro e w1 ⟨rfl, hw⟩; replace hw := hw.symm; subst hw)
          | (go_at_call 33; refine C2.mono ?_; rintro e w2 ⟨rfl, B2⟩)
          | (go_at_call_of 34 (Value.string ⟨bf.toArray⟩); refine (C3 _ B2).mono ?_; rintro e w3 ⟨rfl, B3⟩; replace B2 := B2.trans (B3.mono B2.size); clear B3)
          | (go_at_call 34; refine (C4 _ B2).mono ?_; rintro e w4 ⟨rfl, B4⟩; replace B2 := B2.trans (B4.mono B2.size); clear B4))
        go_ret2
        exact ⟨by rfl, B2⟩
/-- What Parse answers. -/
def parseS (s : List UInt8) : Int × Int := match readS s with
  | some n => if textS (heldI n) = s then (heldI n, 0) else (0, 3)
  | none => (0, 3)
set_option maxHeartbeats 2000000 in
theorem Parse_any (s : List UInt8) (hl : s.length ≤ 1000) (w : World) (h : TbT w) :
    Calls Tryd.prog 21 #[.string ⟨s.toArray⟩] w fun e w' => e = .returned (.tuple #[.int .i32 (parseS s).1, .int .i64 (parseS s).2]) ∧ Below w.heap.size w w' := by
  have C1 := read_any s hl w h
  have C3 := fun (n : Int) (w1 : World) (hb : Below w.heap.size w w1) => Text_any (heldI n) (heldI_in n) w1 (h.below hb (Nat.le_refl _)).tb
  have HP : Hid (parseS s = match readS s with | some n => if textS (heldI n) = s then (heldI n, 0) else (0, 3) | none => (0, 3)) := hid_into rfl
  clear h hl
  cases hr : readS s with
  | none =>
    rw [hr] at C1 HP
    have C1' : Calls Tryd.prog 27 #[.string ⟨s.toArray⟩] w fun e w' => e = .returned (.tuple #[.int .i64 0, .bool false]) ∧ Below w.heap.size w w' := C1
    have HP' : Hid (parseS s = (0, 3)) := HP
    rw [HP'.out]
    clear C1 HP hr
    go_enter Tryd.func21, Tryd.ntmps21
    go_wp2_with (first
      | (go_at_call 27; refine C1'.mono ?_; rintro e w1 ⟨rfl, B1⟩)
      | (go_at_call 28; refine (hold_any _ _).mono ?_; rintro e w' ⟨rfl, hw⟩; replace hw := hw.symm; subst hw))
    go_ret2
    exact ⟨rfl, B1⟩
  | some n =>
    rw [hr] at C1 HP
    have C1' : Calls Tryd.prog 27 #[.string ⟨s.toArray⟩] w fun e w' => e = .returned (.tuple #[.int .i64 n, .bool true]) ∧ Below w.heap.size w w' := C1
    have C3' := C3 n
    have HP2 : Hid (parseS s = if textS (heldI n) = s then (heldI n, 0) else (0, 3)) := HP
    clear C1 hr C3 HP
    have H := hold_any n
    generalize heldI n = a at *
    by_cases ht : textS a = s
    · have HP' : Hid (parseS s = (a, 0)) := hid_into (HP2.out.trans (if_pos ht))
      rw [HP'.out]
      rw [ht] at C3'
      clear HP2 ht
      go_enter Tryd.func21, Tryd.ntmps21
      go_wp2_with (first
        | (go_at_call 27; refine C1'.mono ?_; rintro e w1 ⟨rfl, B1⟩)
        | (go_at_call 28; refine (H _).mono ?_; rintro e w' ⟨rfl, hw⟩; replace hw := hw.symm; subst hw)
        | (go_at_call 20; refine (C3' _ B1).mono ?_; rintro e w2 ⟨rfl, B2⟩; replace B1 := B1.trans (B2.mono B1.size)))
      go_ret2
      exact ⟨rfl, B1⟩
    · have HP' : Hid (parseS s = (0, 3)) := hid_into (HP2.out.trans (if_neg ht))
      rw [HP'.out]
      have hne : (textS a == s) = false := by simp [ht]
      clear HP2 ht
      go_enter Tryd.func21, Tryd.ntmps21
      go_wp2_with (first
        | (go_at_call 27; refine C1'.mono ?_; rintro e w1 ⟨rfl, B1⟩)
        | (go_at_call 28; refine (H _).mono ?_; rintro e w' ⟨rfl, hw⟩; replace hw := hw.symm; subst hw)
        | (go_at_call 20; refine (C3' _ B1).mono ?_; rintro e w2 ⟨rfl, B2⟩; replace B1 := B1.trans (B2.mono B1.size)))
      go_ret2
      exact ⟨rfl, B1⟩
end Go.Proofs.YtfciaohicbchgaaDoor
