/-
  TimersFull, walked; more of rows in order.
-/
import Derived.Test.YtilaankipjcgaaaKnown
namespace Go.Proofs.Ytilaankipjcgaaa
open Go.RowKit Go.Maps
variable {w w' : World} {F : Nat → Prop} {sb : Nat} {s : List Pr}
theorem rm_perm_cons {s : List Pr} {id x : Int} (hd : Dis s) (h : get s id = some x) : s.Perm ((id, x) :: rm s id) := by
  obtain ⟨i, hi⟩ := List.getElem?_of_mem (get_mem h)
  have h1 := get_perm_cons hi
  have hd2 := dis_perm hd h1
  have h2 := rm_perm h1 id
  rw [show rm ((id, x) :: s.eraseIdx i) id = s.eraseIdx i from rm_cons_eq (p := (id, x)) fun y hy => Ne.symm ((List.pairwise_cons.1 hd2).1 y hy)] at h2
  exact h1.trans (h2.symm.cons _)
theorem rm_len {s : List Pr} {id x : Int} (hd : Dis s) (h : get s id = some x) : (rm s id).length + 1 = s.length := by
  rw [(rm_perm_cons hd h).length_eq]; rfl
theorem put_len {s : List Pr} {id x d : Int} (hd : Dis s) (h : get s id = some x) : (put s id d).length = s.length := by
  rw [(put_perm s id d).length_eq, List.length_cons, rm_len hd h]
theorem get_put {s : List Pr} (hd : Dis s) (id d : Int) : get (put s id d) id = some d := get_of_mem (put_dis hd id d) ((put_perm s id d).mem_iff.2 List.mem_cons_self)
/-- So many things, all at 5. -/
def rowS (k : Nat) : List Pr := (List.range k).map fun (i : Nat) => (((i : Int), 5) : Pr)
theorem rowS_srt (k : Nat) : Srt (rowS k) := by
  unfold rowS Srt
  rw [List.pairwise_map]
  exact List.pairwise_lt_range.imp fun h => Or.inr ⟨rfl, Int.ofNat_lt.2 h⟩
theorem rowS_len (k : Nat) : (rowS k).length = k := by simp [rowS]
theorem rowS_mem {k : Nat} {p : Pr} : p ∈ rowS k ↔ ∃ i : Nat, i < k ∧ p = ((i : Int), 5) := by
  simp only [rowS, List.mem_map, List.mem_range]
  exact ⟨fun ⟨i, h, e⟩ => ⟨i, h, e.symm⟩, fun ⟨i, h, e⟩ => ⟨i, h, e.symm⟩⟩
theorem rowS_none {k n : Nat} (h : k ≤ n) : get (rowS k) (n : Int) = none := by
  cases e : get (rowS k) (n : Int) with
  | none => rfl
  | some x =>
    obtain ⟨i, hi, e2⟩ := rowS_mem.1 (get_mem e)
    injection e2 with e3 _
    omega
theorem rowS_set {k : Nat} (h : k < 4096) : canS (rowS k) (k : Int) = true ∧ setS (rowS k) (k : Int) 5 = rowS (k + 1) := by
  have hc : canS (rowS k) (k : Int) = true := by simp [canS, rowS_len, h]
  refine ⟨hc, ?_⟩
  simp only [setS, hc, if_true]
  refine srt_eq (put_srt (rowS_srt k) _ _) (rowS_srt _) ((put_perm _ _ _).trans ?_)
  rw [rm_none (rowS_none (Nat.le_refl k))]
  have : rowS (k + 1) = rowS k ++ [((k : Int), 5)] := by simp [rowS, List.range_succ]
  rw [this]
  exact (List.perm_append_singleton _ _).symm
/-- Cancel, of timers of the call's own. -/
theorem cancel_own {B : Nat} (h : To B w sb s) (hB : B ≤ w.heap.size) (id d : Int) (hid : In64 id) (hg : get s id = some d) :
    Calls Try.prog 11 #[.pointer (some ⟨sb, 0, none⟩), .int .i64 id] w fun e w' => e = .returned (.tuple #[.int .i64 d, .bool true]) ∧ To B w' sb (rm s id) ∧ Below B w w' := by
  refine (cancel_some h id d hid hg).mono ?_
  rintro e w' ⟨rfl, h2, hg⟩
  exact ⟨rfl, To.of h2 fun k hk => hk.1, hg.below hB fun k hk => hk.1⟩
theorem can_full : canS (rowS 4096) 4096 = false := by
  simp only [canS, show get (rowS 4096) 4096 = none from rowS_none (n := 4096) (Nat.le_refl _), rowS_len]; rfl
theorem set_full : setS (rowS 4096) 4096 1 = rowS 4096 := by simp [setS, can_full]
theorem get_row {n : Nat} (h : n < 4096) : get (rowS 4096) (n : Int) = some 5 := get_of_mem ((rowS_srt 4096).imp_of_mem fun ha hb hab e => by
  obtain ⟨i, _, rfl⟩ := rowS_mem.1 ha
  obtain ⟨j, _, rfl⟩ := rowS_mem.1 hb
  simp only at e
  rw [e] at hab
  exact bef_irrefl _ hab) (rowS_mem.2 ⟨n, h, rfl⟩)
set_option maxRecDepth 20000 in
set_option maxHeartbeats 1000000 in
theorem full_walk (id due : Int) (w : World) (hdu : In64 due) : Calls Try.prog 5 #[.int .i64 id, .int .i64 due] w fun e w' => e = .returned (.bool true) ∧ Below w.heap.size w w' := by
  by_cases hlo : id < 0
  · go_enter Try.func5, Try.ntmps5
    go_wp2_with (go_at_call 19; refine (known_any _).mono ?_; rintro e w1 ⟨rfl, hB⟩)
    go_ret
    exact ⟨rfl, hB⟩
  by_cases hhi : 4000 < id
  · go_enter Try.func5, Try.ntmps5
    go_wp2_with (go_at_call 19; refine (known_any _).mono ?_; rintro e w1 ⟨rfl, hB⟩)
    go_ret
    exact ⟨rfl, hB⟩
  obtain ⟨n, rfl⟩ : ∃ n : Nat, id = (n : Int) := ⟨id.toNat, by omega⟩
  have hn : n ≤ 4000 := by omega
  clear hlo hhi
  go_enter Try.func5, Try.ntmps5
  go_wp2_with (go_at_call 8; refine (new_any _).mono ?_; rintro e w1 ⟨rfl, h1, B1⟩; have H := hid_into (To.of h1 fun k hk => hk); have BB := hid_into B1; clear h1 B1)
  go_loopw [6] (fun x wr => ∃ k : Nat, k ≤ 4096 ∧ x = .int .i64 (k : Int) ∧ Hid (To w.heap.size wr w.heap.size (rowS k)) ∧ Hid (Below w.heap.size w wr)) (fun x _ => 4096 - (intOf x).toNat)
  case atStart => exact ⟨0, by omega, rfl, H.out, BB.out⟩
  case round =>
    clear H BB
    obtain ⟨k, hk, rfl, H, BB⟩ := hrel
    by_cases hlt : k < 4096
    · obtain ⟨hc, hs⟩ := rowS_set hlt
      have HC := hid_into hc
      have HS := hid_into hs
      clear hc hs
      go_wp2_with (go_at_call 9; refine (set_own H.out BB.out.size _ _ (in64 _ (by omega) (by omega)) (in64 _ (by decide) (by decide))).mono ?_; rintro e w2 ⟨rfl, h2, B2⟩; rw [HC.out]; rw [HS.out] at h2)
      go_roundw
      case rel => exact ⟨k + 1, by omega, by go_num, h2, BB.out.trans B2⟩
      case measure => simp [intOf]; omega
    · have hk4 : k = 4096 := by omega
      subst hk4
      have hg := get_row (n := n) (by omega)
      have hdS : Dis (rowS 4096) := H.out.dis
      have HG := hid_into hg
      have C2 := hid_into (canS_some hg)
      have S2 := hid_into (setS_some (due := due) hg)
      have L2 := hid_into (put_len (d := due) hdS hg)
      have G2 := hid_into (get_put hdS (n : Int) due)
      have L3 := hid_into (rm_len (put_dis hdS (n : Int) due) G2.out)
      have C3 : Hid (canS (rm (put (rowS 4096) (n : Int) due) (n : Int)) 4096 = true) := by
        show _ = _
        have h1 := L3.out
        have h2 := L2.out
        rw [rowS_len] at h2
        simp only [canS, Bool.or_eq_true, decide_eq_true_eq]
        exact Or.inr (by omega)
      have L2' : Hid ((put (rowS 4096) (n : Int) due).length = 4096) := by show _ = _; rw [L2.out, rowS_len]
      clear hg hdS
      have B0 := BB
      go_wp2_with (first
        | (go_at_call_of 9 (Value.int .i64 due); refine (set_own H.out BB.out.size _ _ (in64 _ (by omega) (by omega)) hdu).mono ?_; rintro e w3 ⟨rfl, h3, B3⟩; rw [C2.out]; rw [S2.out] at h3; replace H := hid_into h3; replace BB := hid_into (BB.out.trans B3); clear h3 B3)
        | (go_at_call 9; first | (refine (set_own H.out BB.out.size 4096 1 (in64 _ (by decide) (by decide)) (in64 _ (by decide) (by decide))).mono ?_; rintro e w3 ⟨rfl, h3, B3⟩; first | (rw [can_full]; rw [set_full] at h3; replace H := hid_into h3; replace BB := hid_into (BB.out.trans B3); clear h3 B3) | (rw [C3.out]; replace BB := hid_into (BB.out.trans B3); clear h3 B3)) | (refine (set_own H.out BB.out.size _ _ (in64 _ (by omega) (by omega)) hdu).mono ?_; rintro e w3 ⟨rfl, h3, B3⟩; rw [C2.out]; rw [S2.out] at h3; replace H := hid_into h3; replace BB := hid_into (BB.out.trans B3); clear h3 B3))
        | (go_at_call 18; refine (tlen_any H.out).mono ?_; rintro e w5 ⟨rfl, rfl⟩; rw [L2'.out])
        | (go_at_call 11; refine (cancel_own H.out BB.out.size _ due (in64 _ (by omega) (by omega)) G2.out).mono ?_; rintro e w3 ⟨rfl, h3, B3⟩; replace H := hid_into h3; replace BB := hid_into (BB.out.trans B3); clear h3 B3)
        | (go_at_call 19; refine (known_any _).mono ?_; rintro e w6 ⟨rfl, hB⟩; replace BB := hid_into (BB.out.trans (hB.mono BB.out.size))))
      go_ret
      exact ⟨rfl, BB.out⟩
end Go.Proofs.Ytilaankipjcgaaa
