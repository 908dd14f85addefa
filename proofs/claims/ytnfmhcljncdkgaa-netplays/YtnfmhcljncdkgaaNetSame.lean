/-
  The laws' same leaves the memory as it was, but for draws.
-/
import Derived.Test.YtnfmhcljncdkgaaBase
namespace Go.Proofs.Ytnfmhcljncdkgaa
open Go.RowKit
set_option maxHeartbeats 800000 in
theorem same_quiet (va vb : Value) (xs ys : List Int) (w : World) (ha : Bs w va xs) (hb : Bs w vb ys) :
    Calls Try.prog 26 #[va, vb] w fun e w' => e = .returned (.bool (eqB xs ys)) ∧ ∃ q, w' = w.drewN q := by
  obtain ⟨a1, c1, h1, m1⟩ := ha.len
  obtain ⟨a2, c2, h2, m2⟩ := hb.len
  subst h1; subst h2
  unfold maxLen at m1 m2
  by_cases hl : xs.length = ys.length
  · have hne : ((xs.length : Int) != (ys.length : Int)) = false := by simp [hl]
    have HL : Hid (xs.length = ys.length) := hl
    clear hl
    go_enter Try.func26, Try.ntmps26
    go_wp2
    go_loopw [5] (fun i wr => ∃ k : Nat, k ≤ xs.length ∧ i = .int .i64 k ∧ Hid (∃ q, wr = w.drewN q) ∧ Hid (∀ j, j < k → xs.getD j 0 = ys.getD j 0)) (fun i _ => xs.length - (intOf i).toNat)
    case atStart => exact ⟨0, Nat.zero_le _, rfl, hid_into ⟨0, rfl⟩, fun j hj => by omega⟩
    case round =>
      obtain ⟨k, hk, rfl, HQ, HJ⟩ := hrel
      have hsm : Sm w wr := by obtain ⟨q, e⟩ := HQ.out; rw [e]; exact Sm.drewN w q
      by_cases hlt : k < xs.length
      · have hlt2 : k < ys.length := by have := HL.out; omega
        rcases hsm.bs ha with ⟨h0, _⟩ | ⟨_, b1, o1, d1, he1, hc1, hc2, hcell1⟩
        · subst h0; simp at hlt
        rcases hsm.bs hb with ⟨h0, _⟩ | ⟨_, b2, o2, d2, he2, hd1, hd2, hcell2⟩
        · subst h0; simp at hlt2
        simp only [Value.slice.injEq] at he1 he2
        obtain ⟨rfl, _, rfl⟩ := he1
        obtain ⟨rfl, _, rfl⟩ := he2
        have hx := hcell1 k hlt
        have hy := hcell2 k hlt2
        clear hcell1 hcell2
        obtain ⟨x, ex⟩ : ∃ x, x = xs.getD k 0 := ⟨_, rfl⟩
        obtain ⟨y, ey⟩ : ∃ y, y = ys.getD k 0 := ⟨_, rfl⟩
        rw [← ex] at hx
        rw [← ey] at hy
        have HX : Hid (x = xs.getD k 0) := ex
        have HY : Hid (y = ys.getD k 0) := ey
        clear ex ey
        by_cases hxy : x = y
        · subst hxy
          have HJ2 : Hid (∀ j, j < k + 1 → xs.getD j 0 = ys.getD j 0) := by
            intro j hj
            by_cases hjk : j = k
            · subst hjk; rw [← HX.out, ← HY.out]
            · exact HJ.out j (by omega)
          clear HJ HX HY
          go_wp2
          go_quiet (fail)
          go_wp2
          go_roundw
          case rel => exact ⟨k + 1, by omega, by go_num, (by obtain ⟨q, e⟩ := HQ.out; exact ⟨_, by rw [e]; exact World.drewN_drewN _ _ _⟩), HJ2⟩
          case measure => simp [intOf]; omega
        · have hxy' : (x != y) = true := by simp [hxy]
          have HF : Hid (eqB xs ys = false) := eqB_false (fun e => hxy (by rw [HX.out, HY.out, e]))
          clear HJ HX HY hxy
          go_wp2
          go_quiet (fail)
          go_wp2
          go_ret
          exact ⟨by rw [HF.out]; rfl, by obtain ⟨q, e⟩ := HQ.out; exact ⟨_, by rw [e]; exact World.drewN_drewN _ _ _⟩⟩
      · have HT : Hid (eqB xs ys = true) := eqB_true (eq_of_all xs ys HL.out (fun j hj => HJ.out j (by omega)))
        clear HJ
        go_wp2
        go_ret
        exact ⟨by rw [HT.out]; rfl, HQ.out⟩
  · have hne : ((xs.length : Int) != (ys.length : Int)) = true := by simp; omega
    have HF : Hid (eqB xs ys = false) := eqB_false (fun e => hl (by rw [e]))
    go_enter Try.func26, Try.ntmps26
    go_wp2
    go_ret
    exact ⟨by rw [HF.out]; rfl, 0, rfl⟩
end Go.Proofs.Ytnfmhcljncdkgaa
