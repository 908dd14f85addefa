/-
  The law's rows and known, by contract.
-/
import Derived.Test.YteinhklopnlgbaaDoorRowsW
import Derived.Test.YteinhklopnlgbaaDoorSpoil
import Derived.Lib.SlBytesConst
namespace Go.Proofs.YteinhklopnlgbaaDoor
open Go.RowKit

/-- Whether two rows of rows hold the same bytes. -/
def eqR (xs ys : List (List Int)) : Bool := decide (xs = ys)
theorem eqR_true {xs ys : List (List Int)} (h : xs = ys) : eqR xs ys = true := by simp [eqR, h]
theorem eqR_false {xs ys : List (List Int)} (h : xs ≠ ys) : eqR xs ys = false := by simp [eqR, h]
theorem bytesOf2_get {rs : List Rw2} {i : Nat} {v : Value} {zs : List Int} (h : rs[i]? = some (v, zs)) : (bytesOf2 rs)[i]? = some zs := by simp [bytesOf2, h]
theorem take_snoc2 {xs : List (List Int)} {k : Nat} {z : List Int} (h : xs[k]? = some z) : xs.take (k + 1) = xs.take k ++ [z] := by
  obtain ⟨hi, e⟩ := List.getElem?_eq_some_iff.1 h
  rw [List.take_succ_eq_append_getElem hi, e]

set_option maxHeartbeats 3200000 in
set_option maxRecDepth 20000 in
theorem rows_any (va vb : Value) (ra rb : List Rw2) (w : World) (ha : Rs w va ra) (hb : Rs w vb rb) :
    Calls Tryd.prog 18 #[va, vb] w fun e w' => e = .returned (.bool (eqR (bytesOf2 ra) (bytesOf2 rb))) ∧ Sm w w' := by
  obtain ⟨a1, c1, h1, m1, -⟩ := ha.form
  obtain ⟨a2, c2, h2, m2, -⟩ := hb.form
  subst h1; subst h2
  by_cases hl : ra.length = rb.length
  · obtain ⟨n, hn⟩ : ∃ n, n = rb.length := ⟨_, rfl⟩
    have HA : Hid (ra.length = n) := hl.trans hn.symm
    have HB : Hid (rb.length = n) := hn.symm
    have hn2 : n ≤ 140737488355328 := by omega
    rw [HA.out, HB.out]
    have HRa : Hid (Rs w (.slice a1 ra.length c1) ra) := ha
    have HRb : Hid (Rs w (.slice a2 rb.length c2) rb) := hb
    clear hn hl m1 m2 ha hb
    go_enter Tryd.func18, Tryd.ntmps18
    go_wp2
    go_loopw [5] (fun i wr => ∃ k : Nat, k ≤ n ∧ i = .int .i64 k ∧ Hid ((bytesOf2 ra).take k = (bytesOf2 rb).take k) ∧ Sm w wr) (fun i _ => n - (intOf i).toNat)
    case atStart => exact ⟨0, Nat.zero_le _, rfl, by show _ = _; simp, Sm.refl _⟩
    case round =>
      obtain ⟨k, hk, rfl, HT, hsm⟩ := hrel
      by_cases hlt : k < n
      · obtain ⟨b1, o1, ap1, cp1, z1, rfl, hg1, hcell1, hbs1, -, -⟩ := Rs.get (rs := ra) HRa.out (by rw [HA.out]; exact hlt)
        obtain ⟨b2, o2, ap2, cp2, z2, rfl, hg2, hcell2, hbs2, -, -⟩ := Rs.get (rs := rb) HRb.out (by rw [HB.out]; exact hlt)
        have hc1 := hsm.cell hcell1
        have hc2 := hsm.cell hcell2
        have e1 := bytesOf2_get hg1
        have e2 := bytesOf2_get hg2
        have f1 : (0 : Int) ≤ (k : Int) := by omega
        have f2 : (k : Int) < (n : Int) := by omega
        have C : ∀ W, Sm w W → Calls Tryd.prog 11 #[.slice ap1 z1.length cp1, .slice ap2 z2.length cp2] W fun e w' => e = .returned (.bool (eqB z1 z2)) ∧ Sm W w' := fun W hW => same_any _ _ z1 z2 W (hW.bs hbs1) (hW.bs hbs2)
        by_cases hz : z1 = z2
        · have HN : Hid ((bytesOf2 ra).take (k + 1) = (bytesOf2 rb).take (k + 1)) := by
            show _ = _
            rw [take_snoc2 e1, take_snoc2 e2, HT.out, hz]
          rw [eqB_true hz] at C
          clear hg1 hg2 hbs1 hbs2 e1 e2 HT hz HA HB HRa HRb
          go_wp2_with fail
          go_region_held3 (fun w' => w'.cell? ⟨b1, o1 + k, none⟩ = some (.slice ap1 z1.length cp1) ∧ w'.cell? ⟨b2, o2 + k, none⟩ = some (.slice ap2 z2.length cp2)) (exact ⟨by assumption, by assumption⟩)
            (first
              | (go_at_call 11; refine (C _ (by exact hsm.trans (Sm.drewN _ 1))).mono ?_; rintro e w2 ⟨rfl, hs2⟩; have hd1 := ((hsm.trans (Sm.drewN _ 1)).trans hs2).cell hcell1; have hd2 := ((hsm.trans (Sm.drewN _ 1)).trans hs2).cell hcell2))
          have hs3 : Sm w w2 := (hsm.trans (Sm.drewN _ 1)).trans hs2
          go_wp2
          go_roundw
          case rel => exact ⟨k + 1, by omega, by go_num, HN, hs3⟩
          case measure => simp [intOf]; omega
        · have HF : Hid (eqR (bytesOf2 ra) (bytesOf2 rb) = false) := eqR_false (fun e => hz (by rw [e, e2] at e1; exact (Option.some.inj e1).symm))
          rw [eqB_false hz] at C
          clear hg1 hg2 hbs1 hbs2 e1 e2 HT hz HA HB HRa HRb
          go_wp2_with fail
          go_region_held3 (fun w' => w'.cell? ⟨b1, o1 + k, none⟩ = some (.slice ap1 z1.length cp1) ∧ w'.cell? ⟨b2, o2 + k, none⟩ = some (.slice ap2 z2.length cp2)) (exact ⟨by assumption, by assumption⟩)
            (first
              | (go_at_call 11; refine (C _ (by exact hsm.trans (Sm.drewN _ 1))).mono ?_; rintro e w2 ⟨rfl, hs2⟩; have hd1 := ((hsm.trans (Sm.drewN _ 1)).trans hs2).cell hcell1; have hd2 := ((hsm.trans (Sm.drewN _ 1)).trans hs2).cell hcell2))
          have hs3 : Sm w w2 := (hsm.trans (Sm.drewN _ 1)).trans hs2
          go_wp2
          go_ret
          exact ⟨by rw [HF.out]; rfl, hs3⟩
      · have HF : Hid (eqR (bytesOf2 ra) (bytesOf2 rb) = true) := by
          refine eqR_true ?_
          have h := HT.out
          rw [List.take_of_length_le (by rw [bytesOf2_len, HA.out]; omega), List.take_of_length_le (by rw [bytesOf2_len, HB.out]; omega)] at h
          exact h
        clear HT HA HB HRa HRb
        go_wp2
        go_ret
        exact ⟨by rw [HF.out]; rfl, hsm⟩
  · have HF : Hid (eqR (bytesOf2 ra) (bytesOf2 rb) = false) := eqR_false (fun e => hl (by rw [← bytesOf2_len ra, e, bytesOf2_len]))
    have hl' : ¬ (ra.length : Int) = (rb.length : Int) := by omega
    clear ha hb
    go_enter Tryd.func18, Tryd.ntmps18
    go_wp2
    go_ret
    exact ⟨by rw [HF.out]; rfl, Sm.refl _⟩

set_option maxHeartbeats 3200000 in
set_option maxRecDepth 20000 in
theorem known_any (w : World) (ht : Tab w) : Calls Tryd.prog 14 #[] w fun e w' => e = .returned (.bool true) ∧ Below w.heap.size w w' := by
  have kc := fun (w : World) (C : Array Value) (n c : Nat) => Lib.run_convert_bytes_const (P := Tryd.prog) w 22 5 C n c Tryd.underlying22 Tryd.underlying5
  have B0 : Below w.heap.size w (w.alloc (.cells #[.int .u8 120] 5 (1, 2))) := (Below.refl _ _).alloc (Nat.le_refl _) _
  have hb0 : Bs (w.alloc (.cells #[.int .u8 120] 5 (1, 2))) (.slice (some ⟨w.heap.size, 0, none⟩) 1 1) [120] := Bs_of_block (heap_alloc_new w _) (by simp [maxLen])
  have by0 : Byt [120] := by unfold Byt; decide
  have hl : ([120] : List Int).length ≤ 65536 := by decide
  obtain ⟨d1, d2, d3⟩ := dec_rec [120] [1] by0 hl
  have yR : Byt (recN [120] ++ [1]) := (recN_byt by0).app (by unfold Byt; decide)
  have lR : Hid ((recN [120]).length = 13) := by show _ = _; rw [recN_len]; rfl
  go_enter Tryd.func14, Tryd.ntmps14
  go_wp2_with fail
  refine (enc_any _ [120] _ hb0 by0 hl (ht.below B0 ht.lt) (fun k hk => by
    have hk' : w.heap.size = k := by simpa [Value.ownBlock] using hk
    simp; omega)).mono ?_
  rintro e w1 ⟨ao1, cap1, rfl, ho1, hB1⟩
  have B1 : Below w.heap.size w w1 := B0.trans (hB1.mono B0.size)
  have ho1' : Ow (w1.alloc (.cells #[.int .u8 1] 5)) w.heap.size (.slice ao1 (recN [120]).length cap1) (recN [120]) := World.ownsRow.alloc (ho1.mono B0.size) _
  have hb1 : Bs (w1.alloc (.cells #[.int .u8 1] 5)) (.slice (some ⟨w1.heap.size, 0, none⟩) 1 1) [1] := Bs_of_block (heap_alloc_new w1 _) (by simp [maxLen])
  have B1' : Below w.heap.size w (w1.alloc (.cells #[.int .u8 1] 5)) := B1.alloc B1.size _
  generalize recN [120] = R at *
  clear hb0 B0 hB1 ho1
  go_wp2_with (at_builtin; refine wpList_append_bs _ rfl (.tmp 13) (.tmp 14) rfl w.heap.size _ R rfl ho1' _ [1] rfl hb1 (by rw [lR.out]; decide) B1'.size ?_)
  intro ao2 cap2 w2 ho2 hg2 hat2
  have B2 : Below w.heap.size w w2 := B1'.trans (grown_below hg2 B1'.size ho1'.from)
  rw [show R.length + 1 = (R ++ [1]).length by simp] at ho2 ⊢
  have lS : Hid ((R ++ [1]).length = 14) := by show _ = _; rw [List.length_append, lR.out]; rfl
  have C := dec_any _ _ w2 ho2.bs yR (by rw [lS.out]; decide) (ht.below B2 ht.lt)
  rw [d1, d2, d3] at C
  clear d1 d2 d3 hg2 hat2 ho1' hb1 B1' lR B1
  generalize R ++ [1] = S at *
  go_wp2_with fail
  refine C.mono ?_
  rintro e w3 ⟨ao3, cap3, rfl, ho3, hB3⟩
  have B3 : Below w.heap.size w w3 := B2.trans (hB3.mono B2.size)
  have hb4 : Bs (w3.alloc (.cells #[.int .u8 120] 5 (1, 2))) (.slice (some ⟨w3.heap.size, 0, none⟩) 1 1) [120] := Bs_of_block (heap_alloc_new w3 _) (by simp [maxLen])
  have hb5 : Bs (w3.alloc (.cells #[.int .u8 120] 5 (1, 2))) (.slice ao3 1 cap3) [120] := ho3.bs.below ((Below.refl _ _).alloc (Nat.le_refl _) _) (Nat.le_refl _)
  have B4 : Below w.heap.size w (w3.alloc (.cells #[.int .u8 120] 5 (1, 2))) := B3.alloc B3.size _
  have C2 := same_any _ _ [120] [120] _ hb5 hb4
  rw [eqB_true rfl] at C2
  clear C ho2 ho3 hB3
  go_wp2_with fail
  refine C2.mono ?_
  rintro e w5 ⟨rfl, hs5⟩
  go_wp2
  go_ret
  exact ⟨rfl, B4.trans (hs5.below _)⟩
end Go.Proofs.YteinhklopnlgbaaDoor
