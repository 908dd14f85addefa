/-
  Get and Newest of a ring, by contracts.
-/
import Derived.Test.YtkchdkcdkeajkaaRgApi
namespace Go.Proofs.Ytkchdkcdkeajkaa
open Go.RowKit
/-- The state of a place. -/
theorem Rg.at {w : World} {rb pb n a : Nat} {L : List Sp} (h : Rg w rb pb n a L) {i : Nat} {s : Sp} (hi : L[i]? = some s) : w.rangeAt pb ((a + i) % n * 20) (stV s) := by
  obtain ⟨ps, hp, hl⟩ := h.p
  intro j u hu
  have := cellsS_at hl.fit _ s (hl.at' i s hi) j u hu
  rw [← hp.cell] at this
  exact this
theorem get_nil (w : World) (x : Int) : Calls Try.prog 15 #[.pointer none, .int .i64 x] w fun e w' => e = .returned (.tuple #[.agg zeroS.toArray, .bool false]) ∧ Below w.heap.size w w' := by
  have CE := hid_into empty_nil
  have HZ : Hid ((Try.prog.info? 35).bind (·.zero) = some (.agg zeroS.toArray)) := Try.zero35
  have ZS := zeroS_size
  have HBz : Hid (Try.prog.built 35 [] = some zeroS.toArray) := built28z
  have HL := st_len noS_wf
  have HO := st_one noS_wf
  go_enter Try.func15, Try.ntmps15
  go_wp2_with (first
    | (refine wpList_alloc_row rfl 35 rfl zeroS HZ.out ?_; intro W1 hr1 B1 _)
    | (go_at_call 19; refine (CE.out _).mono ?_; rintro e w2 ⟨rfl, hs2⟩; have hr2 := hs2.cw hr1; have HB2 := hid_into (B1.trans (hs2.below _)); clear hr1 B1)
    | (refine wpList_build_row rfl 35 #[] rfl zeroS [] rfl HBz.out ?_)
    | (refine wpList_store_rw rfl 35 (.tmp 4) (.tmp 24) rfl w.heap.size zeroS zeroS 35 rfl rfl ?_ ZS HL HO.out ?_; exact hr2; intro W3 hr3 O3))
  refine ret_row2 rfl rfl rfl hr3 Try.underlying35 rfl ZS ?_
  exact ⟨rfl, HB2.out.trans (O3.below (Nat.le_refl _))⟩
set_option maxHeartbeats 2000000 in
theorem get_any {w : World} {rb pb n a : Nat} {L : List Sp} (h : Rg w rb pb n a L) (x : Int) : Calls Try.prog 15 #[.pointer (some ⟨rb, 0, none⟩), .int .i64 x] w fun e w' => e = .returned (.tuple #[.agg (stV (gtS a L x)).toArray, .bool (gtB a L x)]) ∧ Below w.heap.size w w' := by
  have CE : Hid (∀ W, Below w.heap.size w W → Calls Try.prog 19 #[.pointer (some ⟨rb, 0, none⟩)] W fun e w' => e = .returned (.bool (decide (L = []))) ∧ Sm W w') := fun W hW => empty_any (h.below hW (Nat.le_refl _))
  have HX : Hid (∀ W, Below w.heap.size w W → W.cell? ⟨rb, 1, none⟩ = some (.int .i64 (a : Int)) ∧ W.cell? ⟨rb, 2, none⟩ = some (.int .i64 ((a + L.length : Nat) : Int))) := fun W hW => by
    have hr := (h.below hW (Nat.le_refl _)).r
    exact ⟨hr.cell 1, hr.cell 2⟩
  have HZ : Hid ((Try.prog.info? 35).bind (·.zero) = some (.agg zeroS.toArray)) := Try.zero35
  have ZS := zeroS_size
  have HBz : Hid (Try.prog.built 35 [] = some zeroS.toArray) := built28z
  have HL := st_len noS_wf
  have HO := st_one noS_wf
  cases hg : gtB a L x with
  | false =>
    have hv : stV (gtS a L x) = zeroS := by rw [gt_no hg]; rfl
    rw [hv]
    simp only [gtB, decide_eq_false_iff_not] at hg
    by_cases hl : L = []
    · have e2 : decide (L = []) = true := by simp [hl]
      rw [e2] at CE
      clear h hl e2 HX hg hv
      go_enter Try.func15, Try.ntmps15
      go_wp2_with (first
        | (refine wpList_alloc_row rfl 35 rfl zeroS HZ.out ?_; intro W1 hr1 B1 _)
        | (go_at_call 19; refine (CE.out _ B1).mono ?_; rintro e w2 ⟨rfl, hs2⟩; have hr2 := hs2.cw hr1; have HB2 := hid_into (B1.trans (hs2.below _)); clear hr1 B1)
        | (refine wpList_build_row rfl 35 #[] rfl zeroS [] rfl HBz.out ?_)
        | (refine wpList_store_rw rfl 35 (.tmp 4) (.tmp 24) rfl w.heap.size zeroS zeroS 35 rfl rfl ?_ ZS HL HO.out ?_; exact hr2; intro W3 hr3 O3))
      refine ret_row2 rfl rfl rfl hr3 Try.underlying35 rfl ZS ?_
      exact ⟨rfl, HB2.out.trans (O3.below (Nat.le_refl _))⟩
    · have e2 : decide (L = []) = false := by simp [hl]
      rw [e2] at CE
      by_cases h1 : x < (a : Int)
      · clear h hl e2 hg hv
        generalize ((a + L.length : Nat) : Int) = y at *
        generalize (a : Int) = z at *
        go_enter Try.func15, Try.ntmps15
        go_wp2_with (first
          | (refine wpList_alloc_row rfl 35 rfl zeroS HZ.out ?_; intro W1 hr1 B1 _)
          | (go_at_call 19; refine (CE.out _ B1).mono ?_; rintro e w2 ⟨rfl, hs2⟩; have hr2 := hs2.cw hr1; have HB2 := hid_into (B1.trans (hs2.below _)); obtain ⟨c1, c2⟩ := HX.out _ HB2.out; clear hr1 B1)
          | (refine wpList_build_row rfl 35 #[] rfl zeroS [] rfl HBz.out ?_)
          | (refine wpList_store_rw rfl 35 (.tmp 4) (.tmp 24) rfl w.heap.size zeroS zeroS 35 rfl rfl ?_ ZS HL HO.out ?_; exact hr2; intro W3 hr3 O3))
        refine ret_row2 rfl rfl rfl hr3 Try.underlying35 rfl ZS ?_
        exact ⟨rfl, HB2.out.trans (O3.below (Nat.le_refl _))⟩
      · have h2 : ((a + L.length : Nat) : Int) ≤ x := by omega
        clear h hl e2 hg hv
        generalize ((a + L.length : Nat) : Int) = y at *
        generalize (a : Int) = z at *
        go_enter Try.func15, Try.ntmps15
        go_wp2_with (first
          | (refine wpList_alloc_row rfl 35 rfl zeroS HZ.out ?_; intro W1 hr1 B1 _)
          | (go_at_call 19; refine (CE.out _ B1).mono ?_; rintro e w2 ⟨rfl, hs2⟩; have hr2 := hs2.cw hr1; have HB2 := hid_into (B1.trans (hs2.below _)); obtain ⟨c1, c2⟩ := HX.out _ HB2.out; clear hr1 B1)
          | (refine wpList_build_row rfl 35 #[] rfl zeroS [] rfl HBz.out ?_)
          | (refine wpList_store_rw rfl 35 (.tmp 4) (.tmp 24) rfl w.heap.size zeroS zeroS 35 rfl rfl ?_ ZS HL HO.out ?_; exact hr2; intro W3 hr3 O3))
        refine ret_row2 rfl rfl rfl hr3 Try.underlying35 rfl ZS ?_
        exact ⟨rfl, HB2.out.trans (O3.below (Nat.le_refl _))⟩
  | true =>
    obtain ⟨i, s, hi, hx, hs⟩ := gt_yes hg
    have hl : L ≠ [] := fun e => by rw [e] at hi; simp at hi
    have hil : i < L.length := (List.getElem?_eq_some_iff.1 hi).1
    have e2 : decide (L = []) = false := by simp [hl]
    rw [e2] at CE
    rw [hs]
    have hwf := h.k.fit s (List.mem_of_getElem? hi)
    have HN := st_size hwf
    have HL2 := st_len hwf
    have HO2 := st_one hwf
    have CP : Hid (∀ W, Below w.heap.size w W → Calls Try.prog 20 #[.pointer (some ⟨rb, 0, none⟩), .int .i64 x] W fun e w' => e = .returned (.pointer (some ⟨pb, (a + i) % n * 20, none⟩)) ∧ Sm W w') := fun W hW => by rw [hx]; exact place_any (h.below hW (Nat.le_refl _)) (a + i)
    have HR : Hid (∀ W, Below w.heap.size w W → W.rangeAt pb ((a + i) % n * 20) (stV s)) := fun W hW => (h.below hW (Nat.le_refl _)).at hi
    have h1 : (a : Int) ≤ x := by omega
    have h2 : x < ((a + L.length : Nat) : Int) := by omega
    have h1' : ¬ x < (a : Int) := by omega
    have h2' : ¬ ((a + L.length : Nat) : Int) ≤ x := by omega
    clear h hl e2 hg hs hi hx hil hwf h1 h2
    generalize ((a + L.length : Nat) : Int) = y at *
    generalize (a + i) % n * 20 = o at *
    generalize (a : Int) = z at *
    generalize stV s = cs at *
    go_enter Try.func15, Try.ntmps15
    go_wp2_with (first
      | (refine wpList_alloc_row rfl 35 rfl zeroS HZ.out ?_; intro W1 hr1 B1 _)
      | (go_at_call 19; refine (CE.out _ B1).mono ?_; rintro e w2 ⟨rfl, hs2⟩; have hr2 := hs2.cw hr1; have HB2 := hid_into (B1.trans (hs2.below _)); obtain ⟨c1, c2⟩ := HX.out _ HB2.out; clear hr1 B1)
      | (go_at_call 20; refine (CP.out _ HB2.out).mono ?_; rintro e w3 ⟨rfl, hs3⟩; have hr3 := hs3.cw hr2; have HB3 := hid_into (HB2.out.trans (hs3.below _)); have hg3 := HR.out _ HB3.out; clear hr2)
      | (refine wpList_plain rfl fun _ hK => ?_; refine wp_load_mid 35 (.tmp 28) rfl pb o rfl cs _ ?_ Try.underlying35 rfl HN.out ?_; exact hg3; refine hK _ _ ?_)
      | (refine wpList_store_rw rfl 35 (.tmp 4) (.tmp 29) rfl w.heap.size zeroS cs 35 rfl rfl ?_ ZS HL2 HO2.out ?_; exact hr3; intro W4 hr4 O4))
    refine ret_row2 rfl rfl rfl hr4 Try.underlying35 rfl HN ?_
    exact ⟨rfl, HB3.out.trans (O4.below (Nat.le_refl _))⟩
theorem newest_nil (w : World) : Calls Try.prog 13 #[.pointer none] w fun e w' => e = .returned (.tuple #[.agg zeroS.toArray, .bool false]) ∧ Below w.heap.size w w' := by
  have CF := hid_into frames_nil
  have CG := hid_into get_nil
  have HZ : Hid ((Try.prog.info? 35).bind (·.zero) = some (.agg zeroS.toArray)) := Try.zero35
  have ZS := zeroS_size
  have HL := st_len noS_wf
  have HO := st_one noS_wf
  go_enter Try.func13, Try.ntmps13
  go_wp2_with (first
    | (refine wpList_alloc_row rfl 35 rfl zeroS HZ.out ?_; intro W1 hr1 B1 _)
    | (go_at_call 11; refine (CF.out _).mono ?_; rintro e w2 ⟨rfl, hs2⟩; have hr2 := hs2.cw hr1; have HB2 := hid_into (B1.trans (hs2.below _)); clear hr1 B1)
    | (go_at_call 15; refine (CG.out _ _).mono ?_; rintro e w3 ⟨rfl, hb3⟩; have hr3 := hr2.below hb3 hr2.lt; have HB3 := hid_into (HB2.out.trans (hb3.mono HB2.out.size)); clear hr2 hb3)
    | (refine wpList_store_rw rfl 35 (.tmp 2) (.tmp 14) rfl w.heap.size zeroS zeroS 35 rfl rfl ?_ ZS HL HO.out ?_; exact hr3; intro W4 hr4 O4))
  refine ret_row2 rfl rfl rfl hr4 Try.underlying35 rfl ZS ?_
  exact ⟨rfl, HB3.out.trans (O4.below (Nat.le_refl _))⟩
set_option maxHeartbeats 1000000 in
theorem newest_any {w : World} {rb pb n a : Nat} {L : List Sp} (h : Rg w rb pb n a L) : Calls Try.prog 13 #[.pointer (some ⟨rb, 0, none⟩)] w fun e w' => e = .returned (.tuple #[.agg (stV (gtS a L (gstF a L))).toArray, .bool (gtB a L (gstF a L))]) ∧ Below w.heap.size w w' := by
  have CF : Hid (∀ W, Below w.heap.size w W → Calls Try.prog 11 #[.pointer (some ⟨rb, 0, none⟩)] W fun e w' => e = .returned (.tuple #[.int .i64 (lstF a L), .int .i64 (gstF a L)]) ∧ Sm W w') := fun W hW => frames_any (h.below hW (Nat.le_refl _))
  have CG : Hid (∀ W, Below w.heap.size w W → Calls Try.prog 15 #[.pointer (some ⟨rb, 0, none⟩), .int .i64 (gstF a L)] W fun e w' => e = .returned (.tuple #[.agg (stV (gtS a L (gstF a L))).toArray, .bool (gtB a L (gstF a L))]) ∧ Below W.heap.size W w') := fun W hW => get_any (h.below hW (Nat.le_refl _)) _
  have hwf := gt_wf h.k (gstF a L)
  have HZ : Hid ((Try.prog.info? 35).bind (·.zero) = some (.agg zeroS.toArray)) := Try.zero35
  have ZS := zeroS_size
  have HN := st_size hwf
  have HL := st_len hwf
  have HO := st_one hwf
  generalize stV (gtS a L (gstF a L)) = cs at *
  generalize gtB a L (gstF a L) = q at *
  generalize gstF a L = y at *
  generalize lstF a L = x at *
  clear h hwf
  go_enter Try.func13, Try.ntmps13
  go_wp2_with (first
    | (refine wpList_alloc_row rfl 35 rfl zeroS HZ.out ?_; intro W1 hr1 B1 _)
    | (go_at_call 11; refine (CF.out _ B1).mono ?_; rintro e w2 ⟨rfl, hs2⟩; have hr2 := hs2.cw hr1; have HB2 := hid_into (B1.trans (hs2.below _)); clear hr1 B1)
    | (go_at_call 15; refine (CG.out _ HB2.out).mono ?_; rintro e w3 ⟨rfl, hb3⟩; have hr3 := hr2.below hb3 hr2.lt; have HB3 := hid_into (HB2.out.trans (hb3.mono HB2.out.size)); clear hr2 hb3)
    | (refine wpList_store_rw rfl 35 (.tmp 2) (.tmp 14) rfl w.heap.size zeroS cs 35 rfl rfl ?_ ZS HL HO.out ?_; exact hr3; intro W4 hr4 O4))
  refine ret_row2 rfl rfl rfl hr4 Try.underlying35 rfl HN ?_
  exact ⟨rfl, HB3.out.trans (O4.below (Nat.le_refl _))⟩
end Go.Proofs.Ytkchdkcdkeajkaa
