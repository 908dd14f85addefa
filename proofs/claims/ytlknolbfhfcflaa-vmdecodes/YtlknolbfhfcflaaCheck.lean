/-
  code.Check, and the document's: both answer what chk tells.
-/
import Derived.Test.YtlknolbfhfcflaaTable
namespace Go.Proofs.Ytlknolbfhfcflaa
open Go.RowKit
set_option maxRecDepth 20000 in
set_option maxHeartbeats 4000000 in
theorem check_any (v : Value) (l : List Ii) (w : World) (h : Ls w v l) :
    Calls Try.prog 30 #[v] w fun e w' => e = .returned (.tuple #[.int .i64 (chk l).1, .int .i64 (chk l).2]) ∧ Below w.heap.size w w' := by
  obtain ⟨ao, cap, rfl, hm⟩ := h.len
  have hm' : l.length ≤ 9223372036854775807 := by unfold maxLen at hm; omega
  have HL := hid_into h
  clear h hm
  by_cases h256 : 256 < l.length
  · rw [chk_long h256]
    go_enter Try.func30, Try.ntmps30
    go_wp2
    go_ret2
    exact ⟨rfl, Below.refl _ _⟩
  · obtain ⟨cs, hcs⟩ : ∃ cs, cs = opsR := ⟨_, rfl⟩
    obtain ⟨os, hos⟩ : ∃ os, os = zeroT := ⟨_, rfl⟩
    have HI : Hid ((Try.prog.info? 105).map (·.size) = some os.length) := by rw [hos]; exact Try.size105
    have HLn : Hid (os.length = cs.length) := by rw [hos, hcs]; exact hid_into rfl
    have HC : Hid (∀ v ∈ cs, v.oneCell' = true) := by rw [hcs]; exact hid_into (by decide)
    have HO : Hid ((Try.prog.info? 105).bind (·.zero) = some (.agg os.toArray)) := by rw [hos]; exact Try.zero105
    have HOP : ∀ W, Calls Try.prog 55 #[] W fun e w' => e = .returned (.agg cs.toArray) ∧ Below W.heap.size W w' := by rw [hcs]; exact ops_any
    have HE : Hid (cs = opsR) := hid_into hcs
    clear hcs hos
    go_enter Try.func30, Try.ntmps30
    go_wp2_with (first
      | (go_at_call 55; refine (HOP _).mono ?_; rintro e w1 ⟨rfl, B1⟩)
      | (refine wpList_alloc_row rfl 105 rfl os HO.out ?_; intro W1 hc1 B2 HS1)
      | (refine wpList_store_rw rfl 105 (.tmp 4) (.tmp 10) rfl w1.heap.size os cs 105 rfl rfl hc1 HI HLn HC.out ?_; intro W2 hc2 O2))
    have HT : Hid (Tb W2 w1.heap.size) := by
      have e := HE.out
      subst e
      exact hc2
    have HB : Hid (Below w.heap.size w W2) := B1.trans ((B2.mono B1.size).trans (O2.below B1.size))
    have hs1 := B1.size
    have htb : w1.heap.size < W2.heap.size := hc2.lt
    clear HE hc1 hc2 O2 B2 HS1 HO HI HLn HC HOP
    go_loopw [13] (fun i wr => ∃ k : Nat, k ≤ l.length ∧ i = .int .i64 (k : Int) ∧ Hid (∀ j y, j < k → l[j]? = some y → mayI y l.length = true) ∧ Hid (Tb wr w1.heap.size) ∧ Hid (Below w.heap.size w wr)) (fun i _ => l.length - (intOf i).toNat)
    case atStart => exact ⟨0, Nat.zero_le _, rfl, fun j y hj => absurd hj (by omega), HT.out, HB.out⟩
    case round =>
      clear HT HB
      obtain ⟨k, hk, rfl, HA, HT, HB⟩ := hrel
      by_cases hlt : k < l.length
      · obtain ⟨⟨o, a⟩, hx⟩ : ∃ x, l[k]? = some x := ⟨_, List.getElem?_eq_getElem hlt⟩
        obtain ⟨g, off, hao, x0, x1⟩ := HL.out.at HB.out (Nat.le_refl _) k _ hx
        subst hao
        simp only at x0 x1
        have HX := hid_into hx
        clear hx
        have hTl := Cw.lt HT.out
        have HT2 := hid_into (HT.out.below ((Below.refl _ _).alloc (Nat.le_refl _) (.cells #[.int .i64 o, .int .i64 a] 52)))
        have HB2 := hid_into (HB.out.trans (((Below.refl wr.heap.size wr).alloc (Nat.le_refl _) (.cells #[.int .i64 o, .int .i64 a] 52)).mono HB.out.size))
        by_cases ho : opI o = true
        · obtain ⟨o1, o2⟩ := opI_iff.1 ho
          obtain ⟨n, rfl⟩ := Int.eq_ofNat_of_zero_le (show 0 ≤ o by omega)
          obtain ⟨_, _, t2⟩ := HT2.out.at n (by omega) (by omega)
          have hmay := fun W => may_any n (by omega) (by omega) (some ⟨g, off, none⟩) l.length cap a W
          have hent := enters_may n
          have hhas : ∀ p W, Calls Try.prog 56 #[p, .int .i64 (n : Int)] W fun e w' => e = .returned (.bool true) ∧ w' = W := fun p W => by have := has_any p (n : Int) W; rwa [ho] at this
          have e22 : (n : Int) < 23 := by omega
          have HM : Hid (mayI (((n : Nat) : Int), a) l.length = argI n a l.length) := by show _ = _; simp [mayI, ho]
          generalize mayF n = fm at t2 hmay hent
          cases hb : argI n a l.length with
          | true =>
            rw [hb] at hmay
            have HM2 := hid_into (HM.out.trans hb)
            clear hb HM
            go_wp2_with fail
            go_quiet (first
              | (go_at_call 56; refine Calls.quiet_of_same ((hhas _ _).mono fun _ _ h => ⟨h.1, h.2⟩))
              | (go_at_fn fm; refine Calls.quiet_of_same ((hmay _).mono fun _ _ h => ⟨h.1, h.2⟩)))
            go_wp2_with fail
            go_roundw
            case rel =>
              refine ⟨k + 1, by omega, by go_num, fun j y hj hy => ?_, HT2.out.below ((Sm.drewN _ _).below _), HB2.out.trans ((Sm.drewN _ _).below _)⟩
              by_cases hjk : j < k
              · exact HA.out j y hjk hy
              · obtain rfl : j = k := by omega
                rw [HX.out] at hy
                cases hy
                exact HM2.out
            case measure => simp [intOf]; omega
          | false =>
            rw [hb] at hmay
            have HM2 := hid_into (HM.out.trans hb)
            clear hb HM
            go_wp2_with fail
            go_quiet (first
              | (go_at_call 56; refine Calls.quiet_of_same ((hhas _ _).mono fun _ _ h => ⟨h.1, h.2⟩))
              | (go_at_fn fm; refine Calls.quiet_of_same ((hmay _).mono fun _ _ h => ⟨h.1, h.2⟩)))
            go_wp2_with fail
            go_ret2
            rw [chk_bad h256 k _ HX.out HA.out HM2.out]
            exact ⟨rfl, HB2.out.trans ((Sm.drewN _ _).below _)⟩
        · have ho' : opI o = false := by simpa using ho
          have HM2 : Hid (mayI (o, a) l.length = false) := by show _ = _; simp [mayI, ho']
          have hhas : ∀ p W, Calls Try.prog 56 #[p, .int .i64 o] W fun e w' => e = .returned (.bool false) ∧ w' = W := fun p W => by have := has_any p o W; rwa [ho'] at this
          clear ho ho'
          go_wp2_with fail
          go_quiet ((go_at_call 56; refine Calls.quiet_of_same ((hhas _ _).mono fun _ _ h => ⟨h.1, h.2⟩)))
          go_wp2_with fail
          go_ret2
          rw [chk_bad h256 k _ HX.out HA.out HM2.out]
          exact ⟨rfl, HB2.out.trans ((Sm.drewN _ _).below _)⟩
      · obtain rfl : k = l.length := by omega
        go_wp2_with fail
        go_ret2
        rw [chk_ok h256 (fun x hx => by
          obtain ⟨j, hj, rfl⟩ := List.getElem_of_mem hx
          exact HA.out j _ hj (List.getElem?_eq_getElem hj))]
        exact ⟨rfl, HB.out⟩
end Go.Proofs.Ytlknolbfhfcflaa
