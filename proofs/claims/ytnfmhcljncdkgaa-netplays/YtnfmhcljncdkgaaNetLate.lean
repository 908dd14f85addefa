/-
  The program's Net: Twice, Late, by contracts.
-/
import Derived.Test.YtnfmhcljncdkgaaNetGive
import Derived.Deep.RegionHeld3
namespace Go.Proofs.Ytnfmhcljncdkgaa
open Go.RowKit
set_option maxRecDepth 20000 in
set_option maxHeartbeats 2000000 in
theorem twice1_any {w : World} {B nb bn : Nat} {v : Value} {A C : List Mg} {m : Mg} (h : Np w B nb v (A ++ m :: C)) (hB : B ≤ w.heap.size) (c1 : Cw w bn [.pointer (some ⟨nb, 0, none⟩)] 28) :
    Calls Try.prog 32 #[.int .i64 (A.length : Int), .pointer (some ⟨bn, 0, none⟩)] w fun e w' => ∃ b, e = .returned (.bool b) ∧ b = sendB (A ++ m :: C) ∧ ∃ v', Nx w w' B nb v v' (sendN (A ++ m :: C) m) := by
  have HD : Hid (Calls Try.prog 27 #[.pointer (some ⟨nb, 0, none⟩), .agg #[.int .i64 m.fr, .int .i64 m.to, .string (strOfNums m.d)]] w.drew fun e w' => e = .returned (.bool (sendB (A ++ m :: C))) ∧ ∃ v', Nx w w' B nb v v' (sendN (A ++ m :: C) m)) := by
    refine (lay_any h.drew hB m).mono ?_
    rintro e w' ⟨rfl, v', hx⟩
    exact ⟨rfl, v', hx.pre (Gr.drew _ _)⟩
  have k1 := c1.cell 0
  simp only [List.getElem?_cons_zero] at k1
  have k2 := h.slot
  obtain ⟨g, cap, hv, hgl, _, hcap, hcm⟩ := h.r.at
  subst hv
  obtain ⟨m0, m1, m2⟩ := h.r.at3
  have q1 : (A.length : Int) < ((A.length + C.length + 1 : Nat) : Int) := by omega
  have q2 : A.length < A.length + C.length + 1 := by omega
  unfold maxLen at hcm
  clear c1 h
  generalize hb0 : A.length + C.length + 1 = n at *
  generalize A.length = a at *
  have t0 : w.cell? ⟨bn, 0, none⟩ = some (.pointer (some ⟨nb, 0, none⟩)) ∧ w.cell? ⟨nb, 0, none⟩ = some (.slice (some ⟨g, 0, none⟩) n cap) ∧ w.cell? ⟨g, a * 3, none⟩ = some (.int .i64 m.fr) ∧ w.cell? ⟨g, a * 3 + 1, none⟩ = some (.int .i64 m.to) ∧ w.cell? ⟨g, a * 3 + 2, none⟩ = some (.string (strOfNums m.d)) := ⟨k1, k2, m0, m1, m2⟩
  go_enter Try.func32, Try.ntmps32
  go_wp2_with fail
  go_region_with (go_at_call 27; refine HD.out.mono ?_; rintro e w1 ⟨rfl, v', hx⟩)
  all_goals (go_wp2_with fail; go_ret; exact ⟨_, rfl, rfl, v', hx⟩)
set_option maxRecDepth 20000 in
set_option maxHeartbeats 2000000 in
theorem late1_any {w : World} {B nb bn : Nat} {v : Value} {A C : List Mg} {m : Mg} (h : Np w B nb v (A ++ m :: C)) (hB : B ≤ w.heap.size) (c1 : Cw w bn [.pointer (some ⟨nb, 0, none⟩)] 28) (hf : ¬ Nf nb v bn) :
    Calls Try.prog 33 #[.int .i64 (A.length : Int), .pointer (some ⟨bn, 0, none⟩)] w fun e w' => ∃ b, e = .returned (.bool b) ∧ b = true ∧ ∃ v', Nx w w' B nb v v' (A ++ (C ++ [m])) := by
  have hle := h.le
  have HT : Hid (Calls Try.prog 31 #[.pointer (some ⟨nb, 0, none⟩), .int .i64 (A.length : Int)] w.drew fun e w1 => e = .returned (.agg #[.int .i64 m.fr, .int .i64 m.to, .string (strOfNums m.d)]) ∧ w1.cell? ⟨bn, 0, none⟩ = some (.pointer (some ⟨nb, 0, none⟩)) ∧
      Hid (Calls Try.prog 27 #[.pointer (some ⟨nb, 0, none⟩), .agg #[.int .i64 m.fr, .int .i64 m.to, .string (strOfNums m.d)]] w1 fun e w' => e = .returned (.bool true) ∧ ∃ v', Nx w w' B nb v v' (A ++ (C ++ [m])))) := by
    refine (take_any h.drew).mono ?_
    rintro e w1 ⟨rfl, v1, hx⟩
    refine ⟨rfl, ?_, ?_⟩
    · have := hx.g.cw (show Cw w.drew bn _ 28 from c1) hf
      rw [this.cell]; rfl
    · have hx' := hx.pre (Gr.drew _ w)
      refine (lay_some hx.n (Nat.le_trans hB hx'.g.size) m (by simp at hle ⊢; omega)).mono ?_
      rintro e w2 ⟨rfl, v2, hx2⟩
      exact ⟨rfl, v2, by rw [← List.append_assoc]; exact hx'.then hx2⟩
  have k1 := c1.cell 0
  simp only [List.getElem?_cons_zero] at k1
  clear c1 h hle hf
  generalize A.length = a at *
  go_enter Try.func33, Try.ntmps33
  go_wp2_with fail
  go_region_with (first
    | (go_at_call 31; refine HT.out.mono ?_; rintro e w1 ⟨rfl, k2, HL⟩)
    | (go_at_call 27; refine HL.out.mono ?_; rintro e w2 ⟨rfl, v', hx⟩))
  all_goals (go_wp2_with fail; go_ret; exact ⟨_, rfl, rfl, v', hx⟩)
set_option maxRecDepth 20000 in
theorem twice_any {w : World} {B nb : Nat} {v : Value} {L : List Mg} (h : Np w B nb v L) (hB : B ≤ w.heap.size) (hL : L ≠ []) (pick : Int) :
    Calls Try.prog 18 #[.pointer (some ⟨nb, 0, none⟩), .int .i64 pick] w fun e w' => e = .returned (.bool (sendB L)) ∧ ∃ v', Nx w w' B nb v v' (twiceN L pick) := by
  obtain ⟨A, m, C, hLe, hAl, hgm, hgn⟩ := give_cut hL pick
  have ht : twiceN L pick = sendN L m := by unfold twiceN; rw [hgm]
  rw [ht]
  have HC : Hid (∀ (W : World) (bn : Nat), Gr (fun _ => False) w W → Cw W bn [.pointer (some ⟨nb, 0, none⟩)] 28 →
      Calls Try.prog 29 #[.pointer (some ⟨nb, 0, none⟩), .int .i64 pick, .func (.func 32) #[] #[.pointer (some ⟨bn, 0, none⟩)]] W fun e w' => ∃ b, e = .returned (.bool b) ∧ b = sendB L ∧ ∃ v', Nx w w' B nb v v' (sendN L m)) := fun W bn hb c1 => by
    have hW : Np W B nb v L := h.gr hb fun _ _ h => h
    refine picked_any hW hL pick 32 _ enters32 _ ?_
    rw [← hAl]
    rw [hLe] at hW ⊢
    refine (twice1_any hW (Nat.le_trans hB hb.size) c1).mono ?_
    rintro e w' ⟨b, rfl, hb1, v', hx⟩
    exact ⟨b, rfl, hb1, v', hx.pre hb⟩
  clear h hL hLe hAl hgm hgn hB ht
  go_enter Try.func18, Try.ntmps18
  go_wp2_with (first
    | (go_at_call 29; refine (HC.out _ _ (Gr.alloc _ _ _) (Cw.new w [.pointer (some ⟨nb, 0, none⟩)] 28)).mono ?_; rintro e W3 ⟨b, rfl, rfl, v', hx⟩)
    | fail)
  go_ret
  exact ⟨rfl, v', hx⟩
set_option maxRecDepth 20000 in
theorem late_any {w : World} {B nb : Nat} {v : Value} {L : List Mg} (h : Np w B nb v L) (hB : B ≤ w.heap.size) (hL : L ≠ []) (pick : Int) :
    Calls Try.prog 20 #[.pointer (some ⟨nb, 0, none⟩), .int .i64 pick] w fun e w' => e = .returned (.bool true) ∧ ∃ v', Nx w w' B nb v v' (lateN L pick) := by
  obtain ⟨A, m, C, hLe, hAl, hgm, hgn⟩ := give_cut hL pick
  have ht : lateN L pick = A ++ (C ++ [m]) := by unfold lateN; rw [hgm, hgn]; exact List.append_assoc _ _ _
  rw [ht]
  have HC : Hid (∀ (W : World) (bn : Nat), Gr (fun _ => False) w W → Cw W bn [.pointer (some ⟨nb, 0, none⟩)] 28 → w.heap.size ≤ bn →
      Calls Try.prog 29 #[.pointer (some ⟨nb, 0, none⟩), .int .i64 pick, .func (.func 33) #[] #[.pointer (some ⟨bn, 0, none⟩)]] W fun e w' => ∃ b, e = .returned (.bool b) ∧ b = true ∧ ∃ v', Nx w w' B nb v v' (A ++ (C ++ [m]))) := fun W bn hb c1 hn => by
    have hW : Np W B nb v L := h.gr hb fun _ _ h => h
    refine picked_any hW hL pick 33 _ enters33 _ ?_
    rw [← hAl]
    rw [hLe] at hW
    refine (late1_any hW (Nat.le_trans hB hb.size) c1 fun hN => by have := h.hi bn hN; omega).mono ?_
    rintro e w' ⟨b, rfl, hb1, v', hx⟩
    exact ⟨b, rfl, hb1, v', hx.pre hb⟩
  clear h hL hLe hAl hgm hgn hB ht
  go_enter Try.func20, Try.ntmps20
  go_wp2_with (first
    | (go_at_call 29; refine (HC.out _ _ (Gr.alloc _ _ _) (Cw.new w [.pointer (some ⟨nb, 0, none⟩)] 28) (Nat.le_refl _)).mono ?_; rintro e W3 ⟨b, rfl, rfl, v', hx⟩)
    | fail)
  go_ret
  exact ⟨rfl, v', hx⟩
theorem twice_off {w : World} {pa : Option Addr} (C : ∀ W, Below w.heap.size w W → Calls Try.prog 24 #[.pointer pa] W fun e w' => e = .returned (.int .i64 0) ∧ w' = W) (pick : Int) :
    Calls Try.prog 18 #[.pointer pa, .int .i64 pick] w fun e w' => e = .returned (.bool false) ∧ Below w.heap.size w w' := by
  have HC : Hid (∀ f, Calls Try.prog 29 #[.pointer pa, .int .i64 pick, f] (w.alloc (.cells #[.pointer pa] 28)) fun e w' => e = .returned (.bool false) ∧ Below w.heap.size w w') := fun f => by
    refine (picked_none (C _ ((Below.refl _ _).alloc (Nat.le_refl _) _)) pick f).mono ?_
    rintro e w' ⟨rfl, rfl⟩
    exact ⟨rfl, (Below.refl _ _).alloc (Nat.le_refl _) _⟩
  clear C
  go_enter Try.func18, Try.ntmps18
  go_wp2_with (first
    | (go_at_call 29; refine (HC.out _).mono ?_; rintro e W3 ⟨rfl, hb⟩)
    | fail)
  go_ret
  exact ⟨rfl, hb⟩
theorem late_off {w : World} {pa : Option Addr} (C : ∀ W, Below w.heap.size w W → Calls Try.prog 24 #[.pointer pa] W fun e w' => e = .returned (.int .i64 0) ∧ w' = W) (pick : Int) :
    Calls Try.prog 20 #[.pointer pa, .int .i64 pick] w fun e w' => e = .returned (.bool false) ∧ Below w.heap.size w w' := by
  have HC : Hid (∀ f, Calls Try.prog 29 #[.pointer pa, .int .i64 pick, f] (w.alloc (.cells #[.pointer pa] 28)) fun e w' => e = .returned (.bool false) ∧ Below w.heap.size w w') := fun f => by
    refine (picked_none (C _ ((Below.refl _ _).alloc (Nat.le_refl _) _)) pick f).mono ?_
    rintro e w' ⟨rfl, rfl⟩
    exact ⟨rfl, (Below.refl _ _).alloc (Nat.le_refl _) _⟩
  clear C
  go_enter Try.func20, Try.ntmps20
  go_wp2_with (first
    | (go_at_call 29; refine (HC.out _).mono ?_; rintro e W3 ⟨rfl, hb⟩)
    | fail)
  go_ret
  exact ⟨rfl, hb⟩
end Go.Proofs.Ytnfmhcljncdkgaa
