/-
  The law's programs and known.
-/
import Derived.Test.YtddmnpfebajnmaaDoorPrint
namespace Go.Proofs.YtddmnpfebajnmaaDoor
open Go.RowKit
def eqI (a b : List Ii) : Bool := decide (a = b)
theorem eqI_true {a b : List Ii} (h : a = b) : eqI a b = true := by simp [eqI, h]
theorem eqI_false {a b : List Ii} (h : a ≠ b) : eqI a b = false := by simp [eqI, h]
set_option maxRecDepth 20000 in
set_option maxHeartbeats 4000000 in
theorem programs_any (va vb : Value) (xs ys : List Ii) (w : World) (ha : Ls w va xs) (hb : Ls w vb ys) :
    Calls Tryd.prog 16 #[va, vb] w fun e w' => e = .returned (.bool (eqI xs ys)) ∧ Sm w w' := by
  obtain ⟨a1, c1, h1, m1⟩ := ha.len
  obtain ⟨a2, c2, h2, m2⟩ := hb.len
  subst h1; subst h2
  unfold maxLen at m1 m2
  have HA := hid_into ha
  have HBb := hid_into hb
  clear ha hb
  by_cases hl : xs.length = ys.length
  · have hne : ((xs.length : Int) != (ys.length : Int)) = false := by simp [hl]
    have HL : Hid (xs.length = ys.length) := hl
    clear hl
    go_enter Tryd.func16, Tryd.ntmps16
    go_wp2
    go_loopw [5] (fun i wr => ∃ k : Nat, k ≤ xs.length ∧ i = .int .i64 k ∧ Sm w wr ∧ Hid (∀ j, j < k → xs[j]? = ys[j]?)) (fun i _ => xs.length - (intOf i).toNat)
    case atStart => exact ⟨0, Nat.zero_le _, rfl, Sm.refl _, fun j hj => by omega⟩
    case round =>
      obtain ⟨k, hk, rfl, hsm, HJ⟩ := hrel
      by_cases hlt : k < xs.length
      · have hlt2 : k < ys.length := by have := HL.out; omega
        obtain ⟨⟨o1, p1⟩, hx⟩ : ∃ x, xs[k]? = some x := ⟨_, List.getElem?_eq_getElem hlt⟩
        obtain ⟨⟨o2, p2⟩, hy⟩ : ∃ x, ys[k]? = some x := ⟨_, List.getElem?_eq_getElem hlt2⟩
        obtain ⟨g1, off1, e1, x0, x1⟩ := HA.out.at (hsm.below w.heap.size) (Nat.le_refl _) k _ hx
        obtain ⟨g2, off2, e2, y0, y1⟩ := HBb.out.at (hsm.below w.heap.size) (Nat.le_refl _) k _ hy
        subst e1; subst e2
        simp only at x0 x1 y0 y1
        have HX := hid_into hx
        have HY := hid_into hy
        clear hx hy
        by_cases ho : o1 = o2
        · subst ho
          by_cases hp : p1 = p2
          · subst hp
            have HJ2 : Hid (∀ j, j < k + 1 → xs[j]? = ys[j]?) := by
              intro j hj
              by_cases hjk : j = k
              · subst hjk; rw [HX.out, HY.out]
              · exact HJ.out j (by omega)
            clear HJ HX HY
            go_wp2
            go_quiet (fail)
            go_wp2
            go_roundw
            case rel => exact ⟨k + 1, by omega, by go_num, hsm.trans (Sm.drewN _ _), HJ2⟩
            case measure => simp [intOf]; omega
          · have HF : Hid (eqI xs ys = false) := eqI_false (fun e => hp (by
              have := HX.out
              rw [e, HY.out] at this
              cases this
              rfl))
            have e3 : (p1 == p2) = false := by simp [hp]
            clear HJ HX HY
            go_wp2
            go_quiet (fail)
            go_wp2
            go_ret
            exact ⟨by rw [HF.out]; rfl, hsm.trans (Sm.drewN _ _)⟩
        · have HF : Hid (eqI xs ys = false) := eqI_false (fun e => ho (by
            have := HX.out
            rw [e, HY.out] at this
            cases this
            rfl))
          have e3 : (o1 == o2) = false := by simp [ho]
          clear HJ HX HY
          go_wp2
          go_quiet (fail)
          go_wp2
          go_ret
          exact ⟨by rw [HF.out]; rfl, hsm.trans (Sm.drewN _ _)⟩
      · have HT : Hid (eqI xs ys = true) := eqI_true (by
          refine List.ext_getElem? fun j => ?_
          by_cases hj : j < k
          · exact HJ.out j hj
          · rw [List.getElem?_eq_none (by omega), List.getElem?_eq_none (by have := HL.out; omega)])
        clear HJ
        go_wp2
        go_ret
        exact ⟨by rw [HT.out]; rfl, hsm⟩
  · have hne : ((xs.length : Int) != (ys.length : Int)) = true := by simp; omega
    have HF : Hid (eqI xs ys = false) := eqI_false (fun e => hl (by rw [e]))
    go_enter Tryd.func16, Tryd.ntmps16
    go_wp2
    go_ret
    exact ⟨by rw [HF.out]; rfl, Sm.refl _⟩
def knownL : List Ii := [(1, 5), (3, 0), (22, 0)]
theorem known_chk : chk knownL = (0, 0) := by decide
theorem known_prn : prnL knownL = [112, 117, 115, 104, 32, 53, 10, 115, 116, 111, 114, 101, 32, 48, 10, 104, 97, 108, 116, 10] := by
  have e5 : Lib.itoa 5 = [53] := by simp [Lib.itoa, Lib.decDigits]
  have e0 : Lib.itoa 0 = [48] := by simp [Lib.itoa, Lib.decDigits]
  rw [prnL, known_chk]
  simp [textL, knownL, lineL, nameL, hasA, e5, e0]
set_option maxHeartbeats 1000000 in
theorem known_any (w : World) (ht : Tp w) : Calls Tryd.prog 17 #[] w fun e w' => e = .returned (.bool true) ∧ Below w.heap.size w w' := by
  have hA : Below w.heap.size w (w.alloc (.cells (cells2 knownL).toArray 60)) := (Below.refl _ _).alloc (Nat.le_refl _) _
  have hL : Ls (w.alloc (.cells (cells2 knownL).toArray 60)) (.slice (some ⟨w.heap.size, 0, none⟩) 3 3) knownL := Ls_of_block (l := knownL) (heap_alloc_new w _) (by unfold maxLen; decide)
  have C := print_any _ knownL _ hL (ht.below hA (Nat.le_refl _))
  rw [known_chk, known_prn] at C
  have HA := hid_into hA
  clear hA hL
  go_enter Tryd.func17, Tryd.ntmps17
  go_wp2_with (go_at_call 13; refine C.mono ?_; rintro e w1 ⟨rfl, B1⟩)
  go_ret
  exact ⟨rfl, HA.out.trans (B1.mono (by simp))⟩
end Go.Proofs.YtddmnpfebajnmaaDoor
