/-
  The document's Put, Get, Known, Both, by contracts.
-/
import Derived.Test.YtkjoadncbfhjfaaRNew
namespace Go.Proofs.Ytkjoadncbfhjfaa
open Go.RowKit
variable {w w' : World} {lo hi rb a0 a1 b0 b1 : Nat} {l0 l1 : List Pl}
theorem none_p (b : Addr) (w : World) (p f : Int) (h : p < 0 ∨ 1 < p) : Calls Try.prog 23 #[.pointer (some b), .int .i64 p, .int .i64 f] w fun e w' => e = .returned (.bool true) ∧ w' = w := by
  by_cases h1 : p < 0
  · clear h
    go_enter Try.func23, Try.ntmps23
    go_wp2_with fail
    go_ret
    exact ⟨rfl, rfl⟩
  · have h2 : 1 < p := by omega
    clear h
    go_enter Try.func23, Try.ntmps23
    go_wp2_with fail
    go_ret
    exact ⟨rfl, rfl⟩
theorem none_any (h : Rq w lo hi rb a0 a1 b0 b1 l0 l1) (p f : Int) (hp : 0 ≤ p) (hp2 : p ≤ 1) : Calls Try.prog 23 #[.pointer (some ⟨rb, 0, none⟩), .int .i64 p, .int .i64 f] w fun e w' => e = .returned (.bool (decide (f < 0 ∨ (l0.length : Int) ≤ f))) ∧ w' = w := by
  have c := h.q.cell 0
  simp only [List.getElem?_cons_zero] at c
  generalize l0.length = n at *
  clear h
  by_cases h3 : f < 0
  · rw [decide_eq_true (Or.inl h3)]
    go_enter Try.func23, Try.ntmps23
    go_wp2_with fail
    go_ret
    exact ⟨rfl, rfl⟩
  · by_cases h4 : (n : Int) ≤ f
    · rw [decide_eq_true (Or.inr h4)]
      go_enter Try.func23, Try.ntmps23
      go_wp2_with fail
      go_ret
      exact ⟨rfl, rfl⟩
    · rw [decide_eq_false (by omega)]
      have q1 : decide (p < 0) = false := by simp; omega
      have q2 : decide (1 < p) = false := by simp; omega
      have q3 : decide ((n : Int) ≤ f) = false := by simp; omega
      clear h4
      go_enter Try.func23, Try.ntmps23
      go_wp2_with fail
      go_ret
      exact ⟨rfl, rfl⟩
theorem rput_no (b : Addr) (w : World) (p f x : Int) (h : p < 0 ∨ 1 < p) : Calls Try.prog 11 #[.pointer (some b), .int .i64 p, .int .i64 f, .int .u16 x] w fun e w' => e = .returned (.int .i64 1) ∧ w' = w := by
  have HP := hid_into h
  clear h
  go_enter Try.func11, Try.ntmps11
  go_wp2_with (go_at_call 23; refine (none_p _ _ _ _ HP.out).mono ?_; rintro e w1 ⟨rfl, rfl⟩)
  go_ret
  exact ⟨rfl, rfl⟩
theorem rput_out' (h : Rq w lo hi rb a0 a1 b0 b1 l0 l1) (p f x : Int) (hp : 0 ≤ p) (hp2 : p ≤ 1) (hf : f < 0 ∨ (l0.length : Int) ≤ f) : Calls Try.prog 11 #[.pointer (some ⟨rb, 0, none⟩), .int .i64 p, .int .i64 f, .int .u16 x] w fun e w' => e = .returned (.int .i64 1) ∧ w' = w := by
  have C := none_any h p f hp hp2
  rw [decide_eq_true hf] at C
  have HC := hid_into C
  clear C hf h
  go_enter Try.func11, Try.ntmps11
  go_wp2_with (go_at_call 23; refine HC.out.mono ?_; rintro e w1 ⟨rfl, rfl⟩)
  go_ret
  exact ⟨rfl, rfl⟩
/-- What stands beside one player's rows. -/
theorem Rq.set0 (h : Rq w lo hi rb a0 a1 b0 b1 l0 l1) {k : Nat} (x : Int) : Rq ((w.setCell ⟨b0, k, none⟩ (.bool true)).setCell ⟨a0, k, none⟩ (.int .u16 x)) lo hi rb a0 a1 b0 b1 (l0.set k (x, true)) l1 := by
  have hn := h.nd
  simp only [List.nodup_cons, List.mem_cons, List.not_mem_nil, or_false, not_or] at hn
  obtain ⟨⟨n1, n2, n3, n4⟩, ⟨n5, n6, n7⟩, ⟨n8, n9⟩, n10, _⟩ := hn
  have o1 := Only.set b0 k w (.bool true)
  have o2 := Only.set a0 k (w.setCell ⟨b0, k, none⟩ (.bool true)) (.int .u16 x)
  refine ⟨?_, ?_, o2.cw (o1.cw h.i1 (by omega)) (by omega), ?_, o2.cw (o1.cw h.s1 (by omega)) (by omega), by rw [List.length_set]; exact h.len, by rw [List.length_set]; exact h.n1, by rw [List.length_set]; exact h.n2, h.nd, h.inn⟩
  · rw [List.length_set]; exact o2.cw (o1.cw h.q (by omega)) (by omega)
  · rw [← cellsI_set]; exact (o1.cw h.i0 (by omega)).set k _
  · rw [← cellsB_set]; exact o2.cw (h.s0.set k _) (by omega)
theorem Rq.set1 (h : Rq w lo hi rb a0 a1 b0 b1 l0 l1) {k : Nat} (x : Int) : Rq ((w.setCell ⟨b1, k, none⟩ (.bool true)).setCell ⟨a1, k, none⟩ (.int .u16 x)) lo hi rb a0 a1 b0 b1 l0 (l1.set k (x, true)) := by
  have hn := h.nd
  simp only [List.nodup_cons, List.mem_cons, List.not_mem_nil, or_false, not_or] at hn
  obtain ⟨⟨n1, n2, n3, n4⟩, ⟨n5, n6, n7⟩, ⟨n8, n9⟩, n10, _⟩ := hn
  have o1 := Only.set b1 k w (.bool true)
  have o2 := Only.set a1 k (w.setCell ⟨b1, k, none⟩ (.bool true)) (.int .u16 x)
  refine ⟨o2.cw (o1.cw h.q (by omega)) (by omega), o2.cw (o1.cw h.i0 (by omega)) (by omega), ?_, o2.cw (o1.cw h.s0 (by omega)) (by omega), ?_, by rw [List.length_set]; exact h.len, h.n1, h.n2, h.nd, h.inn⟩
  · rw [← cellsI_set]; exact (o1.cw h.i1 (by omega)).set k _
  · rw [← cellsB_set]; exact o2.cw (h.s1.set k _) (by omega)
/-- What the document's Put leaves. -/
structure RPutP (w w' : World) (lo hi rb a0 a1 b0 b1 : Nat) (l0 l1 : List Pl) (p f x : Int) : Prop where
  q : Rq w' lo hi rb a0 a1 b0 b1 (if p = 0 then putL l0 f x else l0) (if p = 1 then putL l1 f x else l1)
  og : Og (fun k => lo ≤ k ∧ k < hi) w w'

theorem rput_0 (h : Rq w lo hi rb a0 a1 b0 b1 l0 l1) (k : Nat) (x : Int) (hk : k < l0.length) : Calls Try.prog 11 #[.pointer (some ⟨rb, 0, none⟩), .int .i64 0, .int .i64 (k : Int), .int .u16 x] w fun e w' => e = .returned (.int .i64 (putE l0 k x)) ∧ RPutP w w' lo hi rb a0 a1 b0 b1 l0 l1 0 k x := by
  have C := none_any h 0 (k : Int) (by decide) (by decide)
  have hk0 : k < l0.length := by have := h.len; omega
  rw [decide_eq_false (by omega)] at C
  have HC := hid_into C
  clear C
  have hp : putE l0 k x = if (at0 l0 k).2 = true then (if (at0 l0 k).1 = x then 8 else 18) else 0 := by
    unfold putE
    rw [if_neg (by omega), Int.toNat_natCast]
  have hpl : putL l0 k x = if putE l0 k x = 0 then l0.set k (x, true) else l0 := by simp [putL]
  have ci := h.q.cell 1
  have cs := h.q.cell 3
  simp only [List.getElem?_cons_succ, List.getElem?_cons_zero, slR] at ci cs
  have di : w.cell? ⟨a0, k, none⟩ = some (.int .u16 (at0 l0 k).1) := (h.i0.cell _).trans (cellsI_at hk)
  have ds : w.cell? ⟨b0, k, none⟩ = some (.bool (at0 l0 k).2) := (h.s0.cell _).trans (cellsB_at hk)
  have zi := h.i0.frozen k
  have zs := h.s0.frozen k
  have hn := h.nd
  simp only [List.nodup_cons, List.mem_cons, List.not_mem_nil, or_false, not_or] at hn
  obtain ⟨⟨n1, n2, n3, n4⟩, ⟨n5, n6, n7⟩, ⟨n8, n9⟩, n10, _⟩ := hn
  have m1 : ¬ rb = b0 := by omega
  have m2 : ¬ a0 = b0 := by omega
  have m3 : ¬ b0 = a0 := by omega
  clear n1 n2 n3 n4 n5 n6 n7 n8 n9 n10
  have HS := hid_into (h.set0 (k := k) x)
  have HQ := hid_into h
  have hb : (lo ≤ a0 ∧ a0 < hi) ∧ (lo ≤ b0 ∧ b0 < hi) := ⟨h.inn _ (by simp), h.inn _ (by simp)⟩
  clear h
  have HPL := hid_into hpl
  rw [hp]
  have HP := hid_into hp
  clear hp hpl
  have hkn : (k : Int) < (l0.length : Int) := by omega
  generalize l0.length = n at *
  have HA : ∃ A, A = at0 l0 k := ⟨_, rfl⟩
  obtain ⟨⟨y, b⟩, hA⟩ := HA
  rw [← hA] at di ds
  rw [← hA]
  have HP2 := HP.out
  rw [← hA] at HP2
  simp only at di ds HP2
  replace HP2 := hid_into HP2
  clear HP hA hk hk0
  cases b with
  | false =>
    simp only [Bool.false_eq_true, if_false]
    go_enter Try.func11, Try.ntmps11
    go_wp2_with (go_at_call 23; refine HC.out.mono ?_; rintro e w1 ⟨rfl, hw1⟩; replace hw1 := hw1.symm; subst hw1)
    go_ret
    refine ⟨rfl, ?_, (Og.of (Only.set _ _ _ _) hb.2).trans (Og.of (Only.set _ _ _ _) hb.1)⟩
    have e1 := HP2.out
    simp only [Bool.false_eq_true, if_false] at e1
    rw [if_pos rfl, if_neg (by decide), HPL.out, e1, if_pos rfl]
    exact HS.out
  | true =>
    by_cases e : y = x
    · subst e
      simp only [if_true]
      go_enter Try.func11, Try.ntmps11
      go_wp2_with (go_at_call 23; refine HC.out.mono ?_; rintro e w1 ⟨rfl, hw1⟩; replace hw1 := hw1.symm; subst hw1)
      go_ret
      refine ⟨rfl, ?_, Og.refl _ _⟩
      have e1 := HP2.out
      simp only [if_true] at e1
      rw [if_pos rfl, if_neg (by decide), HPL.out, e1, if_neg (by decide)]
      exact HQ.out
    · simp only [if_true, if_neg e]
      go_enter Try.func11, Try.ntmps11
      go_wp2_with (go_at_call 23; refine HC.out.mono ?_; rintro e w1 ⟨rfl, hw1⟩; replace hw1 := hw1.symm; subst hw1)
      go_ret
      refine ⟨rfl, ?_, Og.refl _ _⟩
      have e1 := HP2.out
      simp only [if_true, if_neg e] at e1
      rw [if_pos rfl, if_neg (by decide), HPL.out, e1, if_neg (by decide)]
      exact HQ.out

theorem rput_1 (h : Rq w lo hi rb a0 a1 b0 b1 l0 l1) (k : Nat) (x : Int) (hk : k < l1.length) : Calls Try.prog 11 #[.pointer (some ⟨rb, 0, none⟩), .int .i64 1, .int .i64 (k : Int), .int .u16 x] w fun e w' => e = .returned (.int .i64 (putE l1 k x)) ∧ RPutP w w' lo hi rb a0 a1 b0 b1 l0 l1 1 k x := by
  have C := none_any h 1 (k : Int) (by decide) (by decide)
  have hk0 : k < l0.length := by have := h.len; omega
  rw [decide_eq_false (by omega)] at C
  have HC := hid_into C
  clear C
  have hp : putE l1 k x = if (at0 l1 k).2 = true then (if (at0 l1 k).1 = x then 8 else 18) else 0 := by
    unfold putE
    rw [if_neg (by omega), Int.toNat_natCast]
  have hpl : putL l1 k x = if putE l1 k x = 0 then l1.set k (x, true) else l1 := by simp [putL]
  have ci := h.q.cell 2
  have cs := h.q.cell 4
  simp only [List.getElem?_cons_succ, List.getElem?_cons_zero, slR] at ci cs
  have di : w.cell? ⟨a1, k, none⟩ = some (.int .u16 (at0 l1 k).1) := (h.i1.cell _).trans (cellsI_at hk)
  have ds : w.cell? ⟨b1, k, none⟩ = some (.bool (at0 l1 k).2) := (h.s1.cell _).trans (cellsB_at hk)
  have zi := h.i1.frozen k
  have zs := h.s1.frozen k
  have hn := h.nd
  simp only [List.nodup_cons, List.mem_cons, List.not_mem_nil, or_false, not_or] at hn
  obtain ⟨⟨n1, n2, n3, n4⟩, ⟨n5, n6, n7⟩, ⟨n8, n9⟩, n10, _⟩ := hn
  have m1 : ¬ rb = b1 := by omega
  have m2 : ¬ a1 = b1 := by omega
  have m3 : ¬ b1 = a1 := by omega
  clear n1 n2 n3 n4 n5 n6 n7 n8 n9 n10
  have HS := hid_into (h.set1 (k := k) x)
  have HQ := hid_into h
  have hb : (lo ≤ a1 ∧ a1 < hi) ∧ (lo ≤ b1 ∧ b1 < hi) := ⟨h.inn _ (by simp), h.inn _ (by simp)⟩
  clear h
  have HPL := hid_into hpl
  rw [hp]
  have HP := hid_into hp
  clear hp hpl
  have hkn : (k : Int) < (l0.length : Int) := by omega
  generalize l0.length = n at *
  have HA : ∃ A, A = at0 l1 k := ⟨_, rfl⟩
  obtain ⟨⟨y, b⟩, hA⟩ := HA
  rw [← hA] at di ds
  rw [← hA]
  have HP2 := HP.out
  rw [← hA] at HP2
  simp only at di ds HP2
  replace HP2 := hid_into HP2
  clear HP hA hk hk0
  cases b with
  | false =>
    simp only [Bool.false_eq_true, if_false]
    go_enter Try.func11, Try.ntmps11
    go_wp2_with (go_at_call 23; refine HC.out.mono ?_; rintro e w1 ⟨rfl, hw1⟩; replace hw1 := hw1.symm; subst hw1)
    go_ret
    refine ⟨rfl, ?_, (Og.of (Only.set _ _ _ _) hb.2).trans (Og.of (Only.set _ _ _ _) hb.1)⟩
    have e1 := HP2.out
    simp only [Bool.false_eq_true, if_false] at e1
    rw [if_neg (by decide), if_pos rfl, HPL.out, e1, if_pos rfl]
    exact HS.out
  | true =>
    by_cases e : y = x
    · subst e
      simp only [if_true]
      go_enter Try.func11, Try.ntmps11
      go_wp2_with (go_at_call 23; refine HC.out.mono ?_; rintro e w1 ⟨rfl, hw1⟩; replace hw1 := hw1.symm; subst hw1)
      go_ret
      refine ⟨rfl, ?_, Og.refl _ _⟩
      have e1 := HP2.out
      simp only [if_true] at e1
      rw [if_neg (by decide), if_pos rfl, HPL.out, e1, if_neg (by decide)]
      exact HQ.out
    · simp only [if_true, if_neg e]
      go_enter Try.func11, Try.ntmps11
      go_wp2_with (go_at_call 23; refine HC.out.mono ?_; rintro e w1 ⟨rfl, hw1⟩; replace hw1 := hw1.symm; subst hw1)
      go_ret
      refine ⟨rfl, ?_, Og.refl _ _⟩
      have e1 := HP2.out
      simp only [if_true, if_neg e] at e1
      rw [if_neg (by decide), if_pos rfl, HPL.out, e1, if_neg (by decide)]
      exact HQ.out

theorem rput_anyR (h : Rq w lo hi rb a0 a1 b0 b1 l0 l1) (p f x : Int) : Calls Try.prog 11 #[.pointer (some ⟨rb, 0, none⟩), .int .i64 p, .int .i64 f, .int .u16 x] w fun e w' => e = .returned (.int .i64 (putE (sel p l0 l1) f x)) ∧ RPutP w w' lo hi rb a0 a1 b0 b1 l0 l1 p f x := by
  by_cases hp : p < 0 ∨ 1 < p
  · rw [sel_no hp, putE_nil]
    refine (rput_no _ w p f x hp).mono ?_
    rintro e w1 ⟨rfl, rfl⟩
    exact ⟨rfl, by rw [if_neg (by omega), if_neg (by omega)]; exact h, Og.refl _ _⟩
  · have hs : (sel p l0 l1).length = l0.length := by
      obtain rfl | rfl : p = 0 ∨ p = 1 := by omega
      · rfl
      · exact h.len
    by_cases hf : f < 0 ∨ (l0.length : Int) ≤ f
    · have h1 : ∀ l : List Pl, l.length = l0.length → putE l f x = 1 := by
        intro l hl
        unfold putE
        rw [hl, if_pos hf]
      have h2 : ∀ l : List Pl, l.length = l0.length → putL l f x = l := by
        intro l hl
        unfold putL
        rw [h1 l hl, if_neg (by decide)]
      rw [h1 _ hs]
      refine (rput_out' h p f x (by omega) (by omega) hf).mono ?_
      rintro e w1 ⟨rfl, rfl⟩
      refine ⟨rfl, ?_, Og.refl _ _⟩
      rw [h2 l0 rfl, h2 l1 h.len, ite_self, ite_self]
      exact h
    · obtain ⟨k, rfl⟩ : ∃ k : Nat, f = (k : Int) := ⟨f.toNat, by omega⟩
      obtain rfl | rfl : p = 0 ∨ p = 1 := by omega
      · exact rput_0 h k x (by omega)
      · exact rput_1 h k x (by have := h.len; omega)
end Go.Proofs.Ytkjoadncbfhjfaa
