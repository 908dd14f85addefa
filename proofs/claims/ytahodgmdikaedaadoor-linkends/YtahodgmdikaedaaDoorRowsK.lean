/-
  The law's rows, by contract.
-/
import Derived.Test.YtahodgmdikaedaaDoorM09
import Derived.Test.YtahodgmdikaedaaDoorM06
import Derived.Lib.SlBytesConst
namespace Go.Proofs.YtahodgmdikaedaaDoor
open Go.RowKit

/-- Whether two rows of rows hold the same bytes. -/
def eqR (xs ys : List (List Int)) : Bool := decide (xs = ys)
theorem eqR_true {xs ys : List (List Int)} (h : xs = ys) : eqR xs ys = true := by simp [eqR, h]
theorem eqR_false {xs ys : List (List Int)} (h : xs ≠ ys) : eqR xs ys = false := by simp [eqR, h]
theorem bytesOf2_get {rs : List Rw2} {i : Nat} {v : Value} {zs : List Int} (h : rs[i]? = some (v, zs)) : (bytesOf2 rs)[i]? = some zs := by simp [bytesOf2, h]
theorem take_snoc2 {xs : List (List Int)} {k : Nat} {z : List Int} (h : xs[k]? = some z) : xs.take (k + 1) = xs.take k ++ [z] := by
  obtain ⟨hi, e⟩ := List.getElem?_eq_some_iff.1 h
  rw [List.take_succ_eq_append_getElem hi, e]

set_option maxHeartbeats 3200000 in
set_option maxRecDepth 20000 in
theorem rows_any (va vb : Value) (ra rb : List Rw2) (w : World) (ha : Rs w va ra) (hb : Rs w vb rb) :
    Calls Tryd.prog 18 #[va, vb] w fun e w' => e = .returned (.bool (eqR (bytesOf2 ra) (bytesOf2 rb))) ∧ Sm w w' := by
  obtain ⟨a1, c1, h1, m1, -⟩ := ha.form
  obtain ⟨a2, c2, h2, m2, -⟩ := hb.form
  subst h1; subst h2
  by_cases hl : ra.length = rb.length
  · obtain ⟨n, hn⟩ : ∃ n, n = rb.length := ⟨_, rfl⟩
    have HA : Hid (ra.length = n) := hl.trans hn.symm
    have HB : Hid (rb.length = n) := hn.symm
    have hn2 : n ≤ 140737488355328 := by omega
    rw [HA.out, HB.out]
    have HRa : Hid (Rs w (.slice a1 ra.length c1) ra) := ha
    have HRb : Hid (Rs w (.slice a2 rb.length c2) rb) := hb
    clear hn hl m1 m2 ha hb
    go_enter Tryd.func18, Tryd.ntmps18
    go_wp2
    go_loopw [5] (fun i wr => ∃ k : Nat, k ≤ n ∧ i = .int .i64 k ∧ Hid ((bytesOf2 ra).take k = (bytesOf2 rb).take k) ∧ Sm w wr) (fun i _ => n - (intOf i).toNat)
    case atStart => exact ⟨0, Nat.zero_le _, rfl, by show _ = _; simp, Sm.refl _⟩
    case round =>
      obtain ⟨k, hk, rfl, HT, hsm⟩ := hrel
      by_cases hlt : k < n
      · obtain ⟨b1, o1, ap1, cp1, z1, rfl, hg1, hcell1, hbs1, -, -⟩ := Rs.get (rs := ra) HRa.out (by rw [HA.out]; exact hlt)
        obtain ⟨b2, o2, ap2, cp2, z2, rfl, hg2, hcell2, hbs2, -, -⟩ := Rs.get (rs := rb) HRb.out (by rw [HB.out]; exact hlt)
        have hc1 := hsm.cell hcell1
        have hc2 := hsm.cell hcell2
        have e1 := bytesOf2_get hg1
        have e2 := bytesOf2_get hg2
        have f1 : (0 : Int) ≤ (k : Int) := by omega
        have f2 : (k : Int) < (n : Int) := by omega
        have C : ∀ W, Sm w W → Calls Tryd.prog 24 #[.slice ap1 z1.length cp1, .slice ap2 z2.length cp2] W fun e w' => e = .returned (.bool (eqB z1 z2)) ∧ Sm W w' := fun W hW => same_any _ _ z1 z2 W (hW.bs hbs1) (hW.bs hbs2)
        by_cases hz : z1 = z2
        · have HN : Hid ((bytesOf2 ra).take (k + 1) = (bytesOf2 rb).take (k + 1)) := by
            show _ = _
            rw [take_snoc2 e1, take_snoc2 e2, HT.out, hz]
          rw [eqB_true hz] at C
          clear hg1 hg2 hbs1 hbs2 e1 e2 HT hz HA HB HRa HRb
          go_wp2_with fail
          go_region_held3 (fun w' => w'.cell? ⟨b1, o1 + k, none⟩ = some (.slice ap1 z1.length cp1) ∧ w'.cell? ⟨b2, o2 + k, none⟩ = some (.slice ap2 z2.length cp2)) (exact ⟨by assumption, by assumption⟩)
            (first
              | (go_at_call 24; refine (C _ (by exact hsm.trans (Sm.drewN _ 1))).mono ?_; rintro e w2 ⟨rfl, hs2⟩; have hd1 := ((hsm.trans (Sm.drewN _ 1)).trans hs2).cell hcell1; have hd2 := ((hsm.trans (Sm.drewN _ 1)).trans hs2).cell hcell2))
          have hs3 : Sm w w2 := (hsm.trans (Sm.drewN _ 1)).trans hs2
          go_wp2
          go_roundw
          case rel => exact ⟨k + 1, by omega, by go_num, HN, hs3⟩
          case measure => simp [intOf]; omega
        · have HF : Hid (eqR (bytesOf2 ra) (bytesOf2 rb) = false) := eqR_false (fun e => hz (by rw [e, e2] at e1; exact (Option.some.inj e1).symm))
          rw [eqB_false hz] at C
          clear hg1 hg2 hbs1 hbs2 e1 e2 HT hz HA HB HRa HRb
          go_wp2_with fail
          go_region_held3 (fun w' => w'.cell? ⟨b1, o1 + k, none⟩ = some (.slice ap1 z1.length cp1) ∧ w'.cell? ⟨b2, o2 + k, none⟩ = some (.slice ap2 z2.length cp2)) (exact ⟨by assumption, by assumption⟩)
            (first
              | (go_at_call 24; refine (C _ (by exact hsm.trans (Sm.drewN _ 1))).mono ?_; rintro e w2 ⟨rfl, hs2⟩; have hd1 := ((hsm.trans (Sm.drewN _ 1)).trans hs2).cell hcell1; have hd2 := ((hsm.trans (Sm.drewN _ 1)).trans hs2).cell hcell2))
          have hs3 : Sm w w2 := (hsm.trans (Sm.drewN _ 1)).trans hs2
          go_wp2
          go_ret
          exact ⟨by rw [HF.out]; rfl, hs3⟩
      · have HF : Hid (eqR (bytesOf2 ra) (bytesOf2 rb) = true) := by
          refine eqR_true ?_
          have h := HT.out
          rw [List.take_of_length_le (by rw [bytesOf2_len, HA.out]; omega), List.take_of_length_le (by rw [bytesOf2_len, HB.out]; omega)] at h
          exact h
        clear HT HA HB HRa HRb
        go_wp2
        go_ret
        exact ⟨by rw [HF.out]; rfl, hsm⟩
  · have HF : Hid (eqR (bytesOf2 ra) (bytesOf2 rb) = false) := eqR_false (fun e => hl (by rw [← bytesOf2_len ra, e, bytesOf2_len]))
    have hl' : ¬ (ra.length : Int) = (rb.length : Int) := by omega
    clear ha hb
    go_enter Tryd.func18, Tryd.ntmps18
    go_wp2
    go_ret
    exact ⟨by rw [HF.out]; rfl, Sm.refl _⟩

end Go.Proofs.YtahodgmdikaedaaDoor
