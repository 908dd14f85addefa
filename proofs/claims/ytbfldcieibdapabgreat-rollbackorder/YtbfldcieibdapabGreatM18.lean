/-
  Joined from: RgApi, RgGet, RgPut, RbMem.
-/
import Derived.Test.YtbfldcieibdapabGreatM17
import Derived.Test.YtbfldcieibdapabGreatM09
import Derived.Test.YtbfldcieibdapabGreatM10
section
/-
  takes, New, Frames, Get, Newest of a ring, by contracts.
-/
namespace Go.Proofs.YtbfldcieibdapabGreat.Rn
open Go.RowKit
theorem takes_nil (w : World) (x : Int) : Calls Tryz.prog 40 #[.pointer none, .int .i64 x] w fun e w' => e = .returned (.bool false) ∧ Sm w w' := by
  go_enter Tryz.func40, Tryz.ntmps40
  go_wp2_with fail
  go_ret
  exact ⟨rfl, ⟨rfl, rfl, rfl, rfl⟩⟩
def tkB (a : Nat) (L : List Sp) (x : Int) : Bool := decide (L = [] ∨ ((a : Int) ≤ x ∧ x ≤ ((a + L.length : Nat) : Int)))
set_option maxHeartbeats 1000000 in
theorem takes_any {w : World} {rb pb n a : Nat} {L : List Sp} (h : Rg w rb pb n a L) (x : Int) : Calls Tryz.prog 40 #[.pointer (some ⟨rb, 0, none⟩), .int .i64 x] w fun e w' => e = .returned (.bool (tkB a L x)) ∧ Sm w w' := by
  have c0 := h.r.cell 0
  simp only [List.getElem?_cons_zero] at c0
  have hn : (((n : Int)) == 0) = false := by rw [beq_eq_false_iff_ne]; have := h.n1; omega
  have hn' : ¬ n = 0 := by have := h.n1; omega
  have CE := hid_into (empty_any h)
  have HX : Hid (∀ w', Sm w w' → w'.cell? ⟨rb, 1, none⟩ = some (.int .i64 (a : Int)) ∧ w'.cell? ⟨rb, 2, none⟩ = some (.int .i64 ((a + L.length : Nat) : Int))) := fun w' hs => by
    have hr := hs.cw h.r
    exact ⟨hr.cell 1, hr.cell 2⟩
  by_cases hl : L = []
  · have e1 : tkB a L x = true := by unfold tkB; simp [hl]
    have e2 : decide (L = []) = true := by simp [hl]
    rw [e1]
    rw [e2] at CE
    clear h hl e1 e2 HX
    go_enter Tryz.func40, Tryz.ntmps40
    go_wp2_with (go_at_call 41; refine CE.out.mono ?_; rintro e w1 ⟨rfl, hs1⟩)
    go_ret
    exact ⟨rfl, hs1⟩
  · have e2 : decide (L = []) = false := by simp [hl]
    rw [e2] at CE
    by_cases h1 : x < (a : Int)
    · have e1 : tkB a L x = false := by unfold tkB; simp [hl]; omega
      rw [e1]
      have h1' : ¬ (a : Int) ≤ x := by omega
      clear h hl e1 e2
      generalize ((a + L.length : Nat) : Int) = y at *
      generalize (a : Int) = z at *
      go_enter Tryz.func40, Tryz.ntmps40
      go_wp2_with (go_at_call 41; refine CE.out.mono ?_; rintro e w1 ⟨rfl, hs1⟩; obtain ⟨c1, c2⟩ := HX.out _ hs1)
      go_ret
      exact ⟨rfl, hs1⟩
    · by_cases h2 : ((a + L.length : Nat) : Int) < x
      · have e1 : tkB a L x = false := by unfold tkB; simp [hl]; omega
        rw [e1]
        have h1' : (a : Int) ≤ x := by omega
        have h2' : ¬ x ≤ ((a + L.length : Nat) : Int) := by omega
        clear h hl e1 e2
        generalize ((a + L.length : Nat) : Int) = y at *
        generalize (a : Int) = z at *
        go_enter Tryz.func40, Tryz.ntmps40
        go_wp2_with (go_at_call 41; refine CE.out.mono ?_; rintro e w1 ⟨rfl, hs1⟩; obtain ⟨c1, c2⟩ := HX.out _ hs1)
        go_ret
        exact ⟨by simp [h2], hs1⟩
      · have e1 : tkB a L x = true := by unfold tkB; simp [hl]; omega
        rw [e1]
        have h1' : (a : Int) ≤ x := by omega
        have h2' : x ≤ ((a + L.length : Nat) : Int) := by omega
        clear h hl e1 e2
        generalize ((a + L.length : Nat) : Int) = y at *
        generalize (a : Int) = z at *
        go_enter Tryz.func40, Tryz.ntmps40
        go_wp2_with (go_at_call 41; refine CE.out.mono ?_; rintro e w1 ⟨rfl, hs1⟩; obtain ⟨c1, c2⟩ := HX.out _ hs1)
        go_ret
        exact ⟨rfl, hs1⟩
theorem frames_nil (w : World) : Calls Tryz.prog 49 #[.pointer none] w fun e w' => e = .returned (.tuple #[.int .i64 (-1), .int .i64 (-1)]) ∧ Sm w w' := by
  have CE := hid_into (empty_nil w)
  go_enter Tryz.func49, Tryz.ntmps49
  go_wp2_with (go_at_call 41; refine CE.out.mono ?_; rintro e w1 ⟨rfl, hs1⟩)
  go_ret2
  exact ⟨rfl, hs1⟩
set_option maxHeartbeats 1000000 in
theorem frames_any {w : World} {rb pb n a : Nat} {L : List Sp} (h : Rg w rb pb n a L) : Calls Tryz.prog 49 #[.pointer (some ⟨rb, 0, none⟩)] w fun e w' => e = .returned (.tuple #[.int .i64 (lstF a L), .int .i64 (gstF a L)]) ∧ Sm w w' := by
  have CE := hid_into (empty_any h)
  have HX : Hid (∀ w', Sm w w' → w'.cell? ⟨rb, 1, none⟩ = some (.int .i64 (a : Int)) ∧ w'.cell? ⟨rb, 2, none⟩ = some (.int .i64 ((a + L.length : Nat) : Int))) := fun w' hs => by
    have hr := hs.cw h.r
    exact ⟨hr.cell 1, hr.cell 2⟩
  by_cases hl : L = []
  · have e2 : decide (L = []) = true := by simp [hl]
    rw [e2] at CE
    rw [show lstF a L = -1 from if_pos hl, show gstF a L = -1 from if_pos hl]
    clear h hl e2 HX
    go_enter Tryz.func49, Tryz.ntmps49
    go_wp2_with (go_at_call 41; refine CE.out.mono ?_; rintro e w1 ⟨rfl, hs1⟩)
    go_ret2
    exact ⟨rfl, hs1⟩
  · have e2 : decide (L = []) = false := by simp [hl]
    rw [e2] at CE
    rw [show lstF a L = (a : Int) from if_neg hl, show gstF a L = ((a + L.length : Nat) : Int) - 1 from if_neg hl]
    have ht := h.k.top
    obtain ⟨y, hy⟩ : ∃ y : Int, y = ((a + L.length : Nat) : Int) := ⟨_, rfl⟩
    obtain ⟨z, hz⟩ : ∃ z : Int, z = y - 1 := ⟨_, rfl⟩
    have hw : IntKind.i64.wrap (y - 1) = z := by rw [hz]; simp [IntKind.wrap, IntKind.bits, IntKind.signed]; omega
    rw [← hy] at HX ⊢
    rw [← hz]
    clear h hl e2 hy ht hz
    generalize (a : Int) = x at *
    go_enter Tryz.func49, Tryz.ntmps49
    go_wp2_with (go_at_call 41; refine CE.out.mono ?_; rintro e w1 ⟨rfl, hs1⟩; obtain ⟨c1, c2⟩ := HX.out _ hs1)
    go_region
    go_wp2_with fail
    go_ret2
    exact ⟨by simp, ⟨hs1.os, hs1.tape, hs1.output, hs1.heap⟩⟩
theorem cellsS_rep (n : Nat) : madeCells zeroS.toArray (n * 20) = (cellsS (List.replicate n noS)).toArray := by
  have hl : (cellsS (List.replicate n noS)).length = n * 20 := by
    rw [cellsS_len (fun s hs => by rw [List.eq_of_mem_replicate hs]; exact noS_wf)]; simp
  have hz : zeroS.length = 20 := rfl
  apply Array.ext
  · simp [madeCells, hl]
  · intro i h1 h2
    have hi : i < n * 20 := by simpa [madeCells] using h1
    have hj : i % 20 < zeroS.length := by rw [hz]; omega
    have hc := cellsS_at (l := List.replicate n noS) (fun s hs => by rw [List.eq_of_mem_replicate hs]; exact noS_wf) (i / 20) noS (by rw [List.getElem?_replicate_of_lt (by omega)]) (i % 20) _ (List.getElem?_eq_getElem hj)
    rw [show i / 20 * 20 + i % 20 = i by omega] at hc
    have h3 := (List.getElem?_eq_some_iff.1 hc).2
    simp only [madeCells, Array.getElem_map, Array.getElem_range, List.getElem_toArray]
    rw [h3]
    simp only [List.size_toArray, hz, List.getElem!_toArray, List.getElem!_eq_getElem?_getD]
    rw [List.getElem?_eq_getElem hj]
    rfl
theorem made22 (n : Nat) (hn : n ≤ 256) (w : World) : (Instr.makeSlice 74 (.int .i64 (n : Int)) (.int .i64 (n : Int))).run Tryz.prog w = .ok (.slice (some ⟨w.heap.size, 0, none⟩) n n) (w.alloc (.cells (cellsS (List.replicate n noS)).toArray 44)) := by
  obtain ⟨i0, hi, hz0, hz1, hz2⟩ := info_parts Tryz.info44
  have h := run_make (P := Tryz.prog) w 74 44 i0 _ Tryz.underlying74 hi hz0 .i64 .i64 (n : Int) (n : Int) (by omega) (Int.le_refl _) (by rw [hz2]; omega) (by omega)
  rw [hz1] at h
  simp only [Int.toNat_natCast] at h
  rw [h, ← cellsS_rep]
  rfl
theorem new_no (w : World) (n : Int) (h : n < 1 ∨ 256 < n) : Calls Tryz.prog 20 #[.int .i64 n] w fun e w' => e = .returned (.tuple #[.pointer none, .int .i64 1]) ∧ w' = w := by
  by_cases h1 : n < 1
  · clear h
    go_enter Tryz.func20, Tryz.ntmps20
    go_wp2_with fail
    go_ret2
    exact ⟨rfl, rfl⟩
  · have h2 : 256 < n := by omega
    clear h
    go_enter Tryz.func20, Tryz.ntmps20
    go_wp2_with fail
    go_ret2
    exact ⟨rfl, rfl⟩
set_option maxHeartbeats 1000000 in
theorem new_any (w : World) (n : Nat) (h1 : 1 ≤ n) (h2 : n ≤ 256) : Calls Tryz.prog 20 #[.int .i64 (n : Int)] w fun e w' => e = .returned (.tuple #[.pointer (some ⟨w.heap.size + 1, 0, none⟩), .int .i64 0]) ∧ Rg w' (w.heap.size + 1) w.heap.size n 0 [] ∧ Below w.heap.size w w' ∧ w'.heap.size = w.heap.size + 2 := by
  have m := made22 n h2
  have hn1 : ¬ (n : Int) < 1 := by omega
  have hn2 : ¬ 256 < (n : Int) := by omega
  generalize HP : cellsS (List.replicate n noS) = ps at *
  go_enter Tryz.func20, Tryz.ntmps20
  go_wp2_with fail
  go_ret2
  have c1 : Cw (w.alloc (.cells ps.toArray 44)) w.heap.size ps 44 := Cw.new _ _ _
  have c2 := Cw.new (w.alloc (.cells ps.toArray 44)) [.slice (some ⟨w.heap.size, 0, none⟩) n n, .int .i64 0, .int .i64 0] 89
  rw [World.size_alloc] at c2
  refine ⟨rfl, ⟨c2, ⟨List.replicate n noS, by rw [HP]; exact c1.alloc _, Pl.nil n⟩, Rk.nil n, by omega, h1, h2⟩, ((Below.refl _ _).alloc (Nat.le_refl _) _).alloc (by rw [World.size_alloc]; omega) _, by rw [World.size_alloc, World.size_alloc]⟩
end Go.Proofs.YtbfldcieibdapabGreat.Rn
end

section
/-
  Get and Newest of a ring, by contracts.
-/
namespace Go.Proofs.YtbfldcieibdapabGreat.Rn
open Go.RowKit
/-- The state of a place. -/
theorem Rg.at {w : World} {rb pb n a : Nat} {L : List Sp} (h : Rg w rb pb n a L) {i : Nat} {s : Sp} (hi : L[i]? = some s) : w.rangeAt pb ((a + i) % n * 20) (stV s) := by
  obtain ⟨ps, hp, hl⟩ := h.p
  intro j u hu
  have := cellsS_at hl.fit _ s (hl.at' i s hi) j u hu
  rw [← hp.cell] at this
  exact this
theorem get_nil (w : World) (x : Int) : Calls Tryz.prog 34 #[.pointer none, .int .i64 x] w fun e w' => e = .returned (.tuple #[.agg zeroS.toArray, .bool false]) ∧ Below w.heap.size w w' := by
  have CE := hid_into empty_nil
  have HZ : Hid ((Tryz.prog.info? 44).bind (·.zero) = some (.agg zeroS.toArray)) := Tryz.zero44
  have ZS := zeroS_size
  have HBz : Hid (Tryz.prog.built 44 [] = some zeroS.toArray) := built28z
  have HL := st_len noS_wf
  have HO := st_one noS_wf
  go_enter Tryz.func34, Tryz.ntmps34
  go_wp2_with (first
    | (refine wpList_alloc_row rfl 44 rfl zeroS HZ.out ?_; intro W1 hr1 B1 _)
    | (go_at_call 41; refine (CE.out _).mono ?_; rintro e w2 ⟨rfl, hs2⟩; have hr2 := hs2.cw hr1; have HB2 := hid_into (B1.trans (hs2.below _)); clear hr1 B1)
    | (refine wpList_build_row rfl 44 #[] rfl zeroS [] rfl HBz.out ?_)
    | (refine wpList_store_rw rfl 44 (.tmp 4) (.tmp 24) rfl w.heap.size zeroS zeroS 44 rfl rfl ?_ ZS HL HO.out ?_; exact hr2; intro W3 hr3 O3))
  refine ret_row2 rfl rfl rfl hr3 Tryz.underlying44 rfl ZS ?_
  exact ⟨rfl, HB2.out.trans (O3.below (Nat.le_refl _))⟩
set_option maxRecDepth 20000 in
set_option maxHeartbeats 2000000 in
theorem get_any {w : World} {rb pb n a : Nat} {L : List Sp} (h : Rg w rb pb n a L) (x : Int) : Calls Tryz.prog 34 #[.pointer (some ⟨rb, 0, none⟩), .int .i64 x] w fun e w' => e = .returned (.tuple #[.agg (stV (gtS a L x)).toArray, .bool (gtB a L x)]) ∧ Below w.heap.size w w' := by
  have CE : Hid (∀ W, Below w.heap.size w W → Calls Tryz.prog 41 #[.pointer (some ⟨rb, 0, none⟩)] W fun e w' => e = .returned (.bool (decide (L = []))) ∧ Sm W w') := fun W hW => empty_any (h.below hW (Nat.le_refl _))
  have HX : Hid (∀ W, Below w.heap.size w W → W.cell? ⟨rb, 1, none⟩ = some (.int .i64 (a : Int)) ∧ W.cell? ⟨rb, 2, none⟩ = some (.int .i64 ((a + L.length : Nat) : Int))) := fun W hW => by
    have hr := (h.below hW (Nat.le_refl _)).r
    exact ⟨hr.cell 1, hr.cell 2⟩
  have HZ : Hid ((Tryz.prog.info? 44).bind (·.zero) = some (.agg zeroS.toArray)) := Tryz.zero44
  have ZS := zeroS_size
  have HBz : Hid (Tryz.prog.built 44 [] = some zeroS.toArray) := built28z
  have HL := st_len noS_wf
  have HO := st_one noS_wf
  cases hg : gtB a L x with
  | false =>
    have hv : stV (gtS a L x) = zeroS := by rw [gt_no hg]; rfl
    rw [hv]
    simp only [gtB, decide_eq_false_iff_not] at hg
    by_cases hl : L = []
    · have e2 : decide (L = []) = true := by simp [hl]
      rw [e2] at CE
      clear h hl e2 HX hg hv
      go_enter Tryz.func34, Tryz.ntmps34
      go_wp2_with (first
        | (refine wpList_alloc_row rfl 44 rfl zeroS HZ.out ?_; intro W1 hr1 B1 _)
        | (go_at_call 41; refine (CE.out _ B1).mono ?_; rintro e w2 ⟨rfl, hs2⟩; have hr2 := hs2.cw hr1; have HB2 := hid_into (B1.trans (hs2.below _)); clear hr1 B1)
        | (refine wpList_build_row rfl 44 #[] rfl zeroS [] rfl HBz.out ?_)
        | (refine wpList_store_rw rfl 44 (.tmp 4) (.tmp 24) rfl w.heap.size zeroS zeroS 44 rfl rfl ?_ ZS HL HO.out ?_; exact hr2; intro W3 hr3 O3))
      refine ret_row2 rfl rfl rfl hr3 Tryz.underlying44 rfl ZS ?_
      exact ⟨rfl, HB2.out.trans (O3.below (Nat.le_refl _))⟩
    · have e2 : decide (L = []) = false := by simp [hl]
      rw [e2] at CE
      by_cases h1 : x < (a : Int)
      · clear h hl e2 hg hv
        generalize ((a + L.length : Nat) : Int) = y at *
        generalize (a : Int) = z at *
        go_enter Tryz.func34, Tryz.ntmps34
        go_wp2_with (first
          | (refine wpList_alloc_row rfl 44 rfl zeroS HZ.out ?_; intro W1 hr1 B1 _)
          | (go_at_call 41; refine (CE.out _ B1).mono ?_; rintro e w2 ⟨rfl, hs2⟩; have hr2 := hs2.cw hr1; have HB2 := hid_into (B1.trans (hs2.below _)); obtain ⟨c1, c2⟩ := HX.out _ HB2.out; clear hr1 B1)
          | (refine wpList_build_row rfl 44 #[] rfl zeroS [] rfl HBz.out ?_)
          | (refine wpList_store_rw rfl 44 (.tmp 4) (.tmp 24) rfl w.heap.size zeroS zeroS 44 rfl rfl ?_ ZS HL HO.out ?_; exact hr2; intro W3 hr3 O3))
        refine ret_row2 rfl rfl rfl hr3 Tryz.underlying44 rfl ZS ?_
        exact ⟨rfl, HB2.out.trans (O3.below (Nat.le_refl _))⟩
      · have h2 : ((a + L.length : Nat) : Int) ≤ x := by omega
        clear h hl e2 hg hv
        generalize ((a + L.length : Nat) : Int) = y at *
        generalize (a : Int) = z at *
        go_enter Tryz.func34, Tryz.ntmps34
        go_wp2_with (first
          | (refine wpList_alloc_row rfl 44 rfl zeroS HZ.out ?_; intro W1 hr1 B1 _)
          | (go_at_call 41; refine (CE.out _ B1).mono ?_; rintro e w2 ⟨rfl, hs2⟩; have hr2 := hs2.cw hr1; have HB2 := hid_into (B1.trans (hs2.below _)); obtain ⟨c1, c2⟩ := HX.out _ HB2.out; clear hr1 B1)
          | (refine wpList_build_row rfl 44 #[] rfl zeroS [] rfl HBz.out ?_)
          | (refine wpList_store_rw rfl 44 (.tmp 4) (.tmp 24) rfl w.heap.size zeroS zeroS 44 rfl rfl ?_ ZS HL HO.out ?_; exact hr2; intro W3 hr3 O3))
        refine ret_row2 rfl rfl rfl hr3 Tryz.underlying44 rfl ZS ?_
        exact ⟨rfl, HB2.out.trans (O3.below (Nat.le_refl _))⟩
  | true =>
    obtain ⟨i, s, hi, hx, hs⟩ := gt_yes hg
    have hl : L ≠ [] := fun e => by rw [e] at hi; simp at hi
    have hil : i < L.length := (List.getElem?_eq_some_iff.1 hi).1
    have e2 : decide (L = []) = false := by simp [hl]
    rw [e2] at CE
    rw [hs]
    have hwf := h.k.fit s (List.mem_of_getElem? hi)
    have HN := st_size hwf
    have HL2 := st_len hwf
    have HO2 := st_one hwf
    have CP : Hid (∀ W, Below w.heap.size w W → Calls Tryz.prog 42 #[.pointer (some ⟨rb, 0, none⟩), .int .i64 x] W fun e w' => e = .returned (.pointer (some ⟨pb, (a + i) % n * 20, none⟩)) ∧ Sm W w') := fun W hW => by rw [hx]; exact place_any (h.below hW (Nat.le_refl _)) (a + i)
    have HR : Hid (∀ W, Below w.heap.size w W → W.rangeAt pb ((a + i) % n * 20) (stV s)) := fun W hW => (h.below hW (Nat.le_refl _)).at hi
    have h1 : (a : Int) ≤ x := by omega
    have h2 : x < ((a + L.length : Nat) : Int) := by omega
    have h1' : ¬ x < (a : Int) := by omega
    have h2' : ¬ ((a + L.length : Nat) : Int) ≤ x := by omega
    clear h hl e2 hg hs hi hx hil hwf h1 h2
    generalize ((a + L.length : Nat) : Int) = y at *
    generalize (a + i) % n * 20 = o at *
    generalize (a : Int) = z at *
    generalize stV s = cs at *
    go_enter Tryz.func34, Tryz.ntmps34
    go_wp2_with (first
      | (refine wpList_alloc_row rfl 44 rfl zeroS HZ.out ?_; intro W1 hr1 B1 _)
      | (go_at_call 41; refine (CE.out _ B1).mono ?_; rintro e w2 ⟨rfl, hs2⟩; have hr2 := hs2.cw hr1; have HB2 := hid_into (B1.trans (hs2.below _)); obtain ⟨c1, c2⟩ := HX.out _ HB2.out; clear hr1 B1)
      | (go_at_call 42; refine (CP.out _ HB2.out).mono ?_; rintro e w3 ⟨rfl, hs3⟩; have hr3 := hs3.cw hr2; have HB3 := hid_into (HB2.out.trans (hs3.below _)); have hg3 := HR.out _ HB3.out; clear hr2)
      | (refine wpList_plain rfl fun _ hK => ?_; refine wp_load_mid 44 (.tmp 28) rfl pb o rfl cs _ ?_ Tryz.underlying44 rfl HN.out ?_; exact hg3; refine hK _ _ ?_)
      | (refine wpList_store_rw rfl 44 (.tmp 4) (.tmp 29) rfl w.heap.size zeroS cs 44 rfl rfl ?_ ZS HL2 HO2.out ?_; exact hr3; intro W4 hr4 O4))
    refine ret_row2 rfl rfl rfl hr4 Tryz.underlying44 rfl HN ?_
    exact ⟨rfl, HB3.out.trans (O4.below (Nat.le_refl _))⟩
theorem newest_nil (w : World) : Calls Tryz.prog 33 #[.pointer none] w fun e w' => e = .returned (.tuple #[.agg zeroS.toArray, .bool false]) ∧ Below w.heap.size w w' := by
  have CF := hid_into frames_nil
  have CG := hid_into get_nil
  have HZ : Hid ((Tryz.prog.info? 44).bind (·.zero) = some (.agg zeroS.toArray)) := Tryz.zero44
  have ZS := zeroS_size
  have HL := st_len noS_wf
  have HO := st_one noS_wf
  go_enter Tryz.func33, Tryz.ntmps33
  go_wp2_with (first
    | (refine wpList_alloc_row rfl 44 rfl zeroS HZ.out ?_; intro W1 hr1 B1 _)
    | (go_at_call 49; refine (CF.out _).mono ?_; rintro e w2 ⟨rfl, hs2⟩; have hr2 := hs2.cw hr1; have HB2 := hid_into (B1.trans (hs2.below _)); clear hr1 B1)
    | (go_at_call 34; refine (CG.out _ _).mono ?_; rintro e w3 ⟨rfl, hb3⟩; have hr3 := hr2.below hb3 hr2.lt; have HB3 := hid_into (HB2.out.trans (hb3.mono HB2.out.size)); clear hr2 hb3)
    | (refine wpList_store_rw rfl 44 (.tmp 2) (.tmp 14) rfl w.heap.size zeroS zeroS 44 rfl rfl ?_ ZS HL HO.out ?_; exact hr3; intro W4 hr4 O4))
  refine ret_row2 rfl rfl rfl hr4 Tryz.underlying44 rfl ZS ?_
  exact ⟨rfl, HB3.out.trans (O4.below (Nat.le_refl _))⟩
set_option maxRecDepth 20000 in
set_option maxHeartbeats 1000000 in
theorem newest_any {w : World} {rb pb n a : Nat} {L : List Sp} (h : Rg w rb pb n a L) : Calls Tryz.prog 33 #[.pointer (some ⟨rb, 0, none⟩)] w fun e w' => e = .returned (.tuple #[.agg (stV (gtS a L (gstF a L))).toArray, .bool (gtB a L (gstF a L))]) ∧ Below w.heap.size w w' := by
  have CF : Hid (∀ W, Below w.heap.size w W → Calls Tryz.prog 49 #[.pointer (some ⟨rb, 0, none⟩)] W fun e w' => e = .returned (.tuple #[.int .i64 (lstF a L), .int .i64 (gstF a L)]) ∧ Sm W w') := fun W hW => frames_any (h.below hW (Nat.le_refl _))
  have CG : Hid (∀ W, Below w.heap.size w W → Calls Tryz.prog 34 #[.pointer (some ⟨rb, 0, none⟩), .int .i64 (gstF a L)] W fun e w' => e = .returned (.tuple #[.agg (stV (gtS a L (gstF a L))).toArray, .bool (gtB a L (gstF a L))]) ∧ Below W.heap.size W w') := fun W hW => get_any (h.below hW (Nat.le_refl _)) _
  have hwf := gt_wf h.k (gstF a L)
  have HZ : Hid ((Tryz.prog.info? 44).bind (·.zero) = some (.agg zeroS.toArray)) := Tryz.zero44
  have ZS := zeroS_size
  have HN := st_size hwf
  have HL := st_len hwf
  have HO := st_one hwf
  generalize stV (gtS a L (gstF a L)) = cs at *
  generalize gtB a L (gstF a L) = q at *
  generalize gstF a L = y at *
  generalize lstF a L = x at *
  clear h hwf
  go_enter Tryz.func33, Tryz.ntmps33
  go_wp2_with (first
    | (refine wpList_alloc_row rfl 44 rfl zeroS HZ.out ?_; intro W1 hr1 B1 _)
    | (go_at_call 49; refine (CF.out _ B1).mono ?_; rintro e w2 ⟨rfl, hs2⟩; have hr2 := hs2.cw hr1; have HB2 := hid_into (B1.trans (hs2.below _)); clear hr1 B1)
    | (go_at_call 34; refine (CG.out _ HB2.out).mono ?_; rintro e w3 ⟨rfl, hb3⟩; have hr3 := hr2.below hb3 hr2.lt; have HB3 := hid_into (HB2.out.trans (hb3.mono HB2.out.size)); clear hr2 hb3)
    | (refine wpList_store_rw rfl 44 (.tmp 2) (.tmp 14) rfl w.heap.size zeroS cs 44 rfl rfl ?_ ZS HL HO.out ?_; exact hr3; intro W4 hr4 O4))
  refine ret_row2 rfl rfl rfl hr4 Tryz.underlying44 rfl HN ?_
  exact ⟨rfl, HB3.out.trans (O4.below (Nat.le_refl _))⟩
end Go.Proofs.YtbfldcieibdapabGreat.Rn
end

section
/-
  Put of a ring, by a contract.
-/
namespace Go.Proofs.YtbfldcieibdapabGreat.Rn
open Go.RowKit
theorem setCells_mid (b : Nat) (t : TypeId) (post : List Value) : ∀ (vs pre old : List Value) (w : World), Cw w b (pre ++ old ++ post) t → old.length = vs.length → Cw (w.setCells b pre.length vs) b (pre ++ vs ++ post) t
  | [], pre, old, w, h, hl => by
    have : old = [] := List.eq_nil_of_length_eq_zero hl
    subst this
    exact h
  | v :: vs, pre, [], w, h, hl => by simp at hl
  | v :: vs, pre, u :: old, w, h, hl => by
    have h1 : Cw (w.setCell ⟨b, pre.length, none⟩ v) b ((pre ++ [v]) ++ old ++ post) t := by
      have := h.set pre.length v
      simpa using this
    have h2 := setCells_mid b t post vs (pre ++ [v]) old _ h1 (by simpa using hl)
    show Cw ((w.setCell ⟨b, pre.length, none⟩ v).setCells b (pre.length + 1) vs) b _ t
    simpa using h2
/-- A state laid at a place of a row of states. -/
theorem cellsS_put {w : World} {b : Nat} {ps : List Sp} {s : Sp} (h : Cw w b (cellsS ps) 44) (hf : Fit ps) (hs : s.Wf) (i : Nat) (hi : i < ps.length) : Cw (w.setCells b (i * 20) (stV s)) b (cellsS (ps.set i s)) 44 := by
  have e1 : ps = ps.take i ++ ([ps[i]] ++ ps.drop (i + 1)) := by simp
  have e2 : ps.set i s = ps.take i ++ ([s] ++ ps.drop (i + 1)) := by rw [List.set_eq_take_append_cons_drop, if_pos hi]; rfl
  have e3 : (cellsS (ps.take i)).length = i * 20 := by
    rw [cellsS_len fun t ht => hf t (List.mem_of_mem_take ht), List.length_take]
    congr 1
    omega
  rw [e1, cellsS_append, cellsS_append, ← List.append_assoc] at h
  rw [e2, cellsS_append, cellsS_append, ← List.append_assoc]
  have h1 : cellsS [ps[i]] = stV ps[i] := by simp [cellsS]
  have h2 : cellsS [s] = stV s := by simp [cellsS]
  rw [h1] at h
  rw [h2]
  have := setCells_mid b 44 _ (stV s) (cellsS (ps.take i)) (stV ps[i]) w h (by rw [(stV_c hs).len, (stV_c (hf _ (List.getElem_mem hi))).len])
  rwa [e3] at this
theorem there_put {w : World} {b : Nat} {ps : List Sp} (h : Cw w b (cellsS ps) 44) (hf : Fit ps) (i : Nat) (hi : i < ps.length) : w.there b (i * 20) 20 := by
  intro j hj
  have := h.there (i * 20 + j) (by rw [cellsS_len hf]; omega)
  rwa [Nat.zero_add] at this
theorem place_c {w : World} {rb pb n : Nat} (c0 : w.cell? ⟨rb, 0, none⟩ = some (.slice (some ⟨pb, 0, none⟩) n n)) (hn1 : 1 ≤ n) (hn2 : n ≤ 256) (f : Nat) : Calls Tryz.prog 42 #[.pointer (some ⟨rb, 0, none⟩), .int .i64 (f : Int)] w fun e w' => e = .returned (.pointer (some ⟨pb, f % n * 20, none⟩)) ∧ Sm w w' := by
  obtain ⟨m, hm⟩ : ∃ m, m = f % n := ⟨_, rfl⟩
  have hmn : m < n := by rw [hm]; exact Nat.mod_lt _ hn1
  have e1 : ((f : Int)).tmod (n : Int) = (m : Int) := by rw [hm]; rfl
  have e2 : IntKind.i64.wrap (m : Int) = (m : Int) := by simp [IntKind.wrap, IntKind.bits, IntKind.signed]; omega
  have e3 : ¬ (n : Int) = 0 := by omega
  have e4 : ¬ n = 0 := by omega
  have e5 : (m : Int) < (n : Int) := by omega
  have e6 : (0 : Int) ≤ (m : Int) := by omega
  rw [← hm]
  clear hm
  go_enter Tryz.func42, Tryz.ntmps42
  go_wp2_with fail
  go_region
  go_wp2_with fail
  go_ret
  exact ⟨by simp, ⟨rfl, rfl, rfl, rfl⟩⟩
/-- A state stored at a place of a row of states. -/
theorem step_store_pl {ops : Array Oper} {o : Oper} {a : Act} {w : World} {K : Act → World → Prop} {Q : Exit → Act → World → Prop} {E : Prop} (hgd : o.guard = none) (x y : Operand) (ho : o.op = .store 44 x y) (g i : Nat) (ps : List Sp) (s : Sp) (hx : a.eval x = .pointer (some ⟨g, i * 20, none⟩)) (hy : a.eval y = .agg (stV s).toArray)
    (hc : Cw w g (cellsS ps) 44) (hf : Hid (Fit ps)) (hs : Hid s.Wf) (hi : Hid (i < ps.length))
    (h : ∀ W, Cw W g (cellsS (ps.set i s)) 44 → Only g w W → K (a.put o.dst undef) W) : if Region.wanted o (yielded ops a.tmps) = true then Oper.wp Tryz.prog o a w K Q else E := by
  have hw : Region.wanted o (yielded ops a.tmps) = true := by simp [Region.wanted, hgd]
  rw [if_pos hw]
  have hl := (stV_c hs.out).len
  refine wp_store_mid 44 x y ho g (i * 20) (stV s).toArray hx hy (by rw [List.size_toArray, hl]; exact there_put hc hf.out i hi.out) (by rw [List.size_toArray, hl]; exact Tryz.size44) (all_oneCell_toArray (stV_c hs.out).one) ?_
  exact h _ (cellsS_put hc hf.out hs.out i hi.out) (Only.sets g (i * 20) w (stV s))
theorem put_nil (s : Sp) (hs : Gs s) (w : World) : Calls Tryz.prog 21 #[.pointer none, .agg (stV s).toArray] w fun e w' => e = .returned (.int .i64 1) ∧ Below w.heap.size w w' := by
  have CI := hid_into (isState_any s hs)
  have CT := hid_into takes_nil
  have HN := st_size hs.1
  have HX := hid_into (stV_c hs.1).frame
  generalize stV s = cs at *
  generalize s.frame = x at *
  cases hq : isS s with
  | false =>
    rw [hq] at CI
    go_enter Tryz.func21, Tryz.ntmps21
    go_wp2_with (first
      | (refine wpList_box_row rfl 44 (.tmp 1) rfl cs rfl ?_; intro W1 hc1 B1 HS1)
      | (refine wpList_load_rw rfl 44 (.tmp 3) rfl w.heap.size cs 44 _ rfl ?_ Tryz.underlying44 rfl HN ?_; exact hc1)
      | (go_at_call 39; refine (CI.out _).mono ?_; rintro e w2 ⟨rfl, B2⟩))
    go_ret
    exact ⟨rfl, B1.trans (B2.mono B1.size)⟩
  | true =>
    rw [hq] at CI
    go_enter Tryz.func21, Tryz.ntmps21
    go_wp2_with (first
      | (refine wpList_box_row rfl 44 (.tmp 1) rfl cs rfl ?_; intro W1 hc1 B1 HS1)
      | (refine wpList_load_rw rfl 44 (.tmp 3) rfl w.heap.size cs 44 _ rfl ?_ Tryz.underlying44 rfl HN ?_; exact hc1)
      | (go_at_call 39; refine (CI.out _).mono ?_; rintro e w2 ⟨rfl, B2⟩; have c3 := ((hc1.below B2 hc1.lt).cell 0).trans HX.out)
      | (go_at_call 40; refine (CT.out _ _).mono ?_; rintro e w3 ⟨rfl, hs3⟩))
    go_ret
    exact ⟨rfl, (B1.trans (B2.mono B1.size)).trans (hs3.below _)⟩
theorem Grows.of_only {F : Nat → Prop} {g : Nat} {w w' : World} (h : Only g w w') (hg : F g) : Grows F w w' := ⟨h.os, h.tape, h.output, by rw [h.size]; exact Nat.le_refl _, fun k _ hk => h.block k fun e => hk (e ▸ hg)⟩
theorem _root_.Go.Proofs.YtbfldcieibdapabGreat.Sm.only {g : Nat} {w w' w'' : World} (h : Sm w w') (k : Only g w' w'') : Only g w w'' := ⟨k.os.trans h.os, k.tape.trans h.tape, k.output.trans h.output, k.size.trans h.size, fun i hi => (k.block i hi).trans (by rw [h.heap])⟩
/-- What Put leaves. -/
def PutP (w w' : World) (rb pb n a : Nat) (L : List Sp) (s : Sp) : Prop := Rg w' rb pb n (putA n a L s) (putL n a L s) ∧ Grows (fun k => k = rb ∨ k = pb) w w'
set_option maxRecDepth 20000 in
set_option maxHeartbeats 4000000 in
theorem put_go {w : World} {rb pb n a : Nat} {L : List Sp} (h : Rg w rb pb n a L) (s : Sp) (hs : Gs s) (he : putE a L s = 0) : Calls Tryz.prog 21 #[.pointer (some ⟨rb, 0, none⟩), .agg (stV s).toArray] w fun e w' => e = .returned (.int .i64 0) ∧ PutP w w' rb pb n a L s := by
  obtain ⟨ps, hp, hl⟩ := h.p
  obtain ⟨hi, ho⟩ := putE_ok he
  obtain ⟨f, hf⟩ : ∃ f : Nat, s.frame = (f : Int) := ⟨s.frame.toNat, by have := isS_frame hi; omega⟩
  have hf6 : f ≤ 600 := by have := isS_frame hi; omega
  have hfn : f % n < ps.length := by rw [hl.len]; exact Nat.mod_lt _ h.n1
  obtain ⟨hP, hlen, hA⟩ := hl.put h.k h.n1 hs he hf
  have hk := h.k.put h.n1 hs
  have hT : tkB a L (f : Int) = true := by
    unfold tkB
    rw [decide_eq_true_eq]
    by_cases e : L = []
    · exact Or.inl e
    · have := ho e; exact Or.inr (by omega)
  have CI : Hid (∀ W, Calls Tryz.prog 39 #[.agg (stV s).toArray] W fun e w' => e = .returned (.bool true) ∧ Below W.heap.size W w') := fun W => by rw [← hi]; exact isState_any s hs W
  have CT : Hid (∀ W, Below w.heap.size w W → Calls Tryz.prog 40 #[.pointer (some ⟨rb, 0, none⟩), .int .i64 (f : Int)] W fun e w' => e = .returned (.bool true) ∧ Sm W w') := fun W hW => by rw [← hT]; exact takes_any (h.below hW (Nat.le_refl _)) _
  have CE : Hid (∀ W, Below w.heap.size w W → Calls Tryz.prog 41 #[.pointer (some ⟨rb, 0, none⟩)] W fun e w' => e = .returned (.bool (decide (L = []))) ∧ Sm W w') := fun W hW => empty_any (h.below hW (Nat.le_refl _))
  have HR : Hid (∀ W, Below w.heap.size w W → Cw W rb [.slice (some ⟨pb, 0, none⟩) n n, .int .i64 (a : Int), .int .i64 ((a + L.length : Nat) : Int)] 89 ∧ Cw W pb (cellsS ps) 44 ∧ rb < w.heap.size) := fun W hW => ⟨h.r.below hW h.r.lt, hp.below hW hp.lt, h.r.lt⟩
  have HN := st_size hs.1
  have HX := hid_into (stV_c hs.1).frame
  rw [hf] at HX
  have HNN : Hid (1 ≤ n ∧ n ≤ 256) := ⟨h.n1, h.n2⟩
  have HFit : Hid (Fit ps) := hl.fit
  have HWf : Hid s.Wf := hs.1
  have HFn : Hid (f % n < ps.length) := hfn
  have HNe : Hid (rb ≠ pb ∧ w.heap.size ≠ pb ∧ w.heap.size ≠ rb) := ⟨h.ne, by have := h.lt; omega, by have := h.lt; omega⟩
  obtain ⟨cs, hcs⟩ : ∃ cs, stV s = cs := ⟨_, rfl⟩
  have HCS := hid_into hcs
  rw [hcs] at CI HN HX ⊢
  clear hcs
  by_cases hl0 : L = []
  · have e2 : decide (L = []) = true := by simp [hl0]
    have HA0 : Hid ((a0 a L s : Int) = (f : Int)) := by show (a0 a L s : Int) = (f : Int); unfold a0; rw [if_pos hl0]; omega
    rw [e2] at CE
    clear h hs he hp hl hi ho hf hfn hT hl0 e2
    go_enter Tryz.func21, Tryz.ntmps21
    go_upto_region 5 with (go_big_may; first
      | (refine wpList_box_row rfl 44 (.tmp 1) rfl cs rfl ?_; intro W1 hc1 B1 HS1)
      | (refine wpList_load_rw rfl 44 (.tmp 3) rfl w.heap.size cs 44 _ rfl ?_ Tryz.underlying44 rfl HN ?_; exact hc1)
      | (go_at_call 39; refine (CI.out _).mono ?_; rintro e w2 ⟨rfl, B2⟩; have hc2 := hc1.below B2 hc1.lt; have HB2 := hid_into (B1.trans (B2.mono B1.size)); have c3 := (hc2.cell 0).trans HX.out; clear hc1 B1 B2)
      | (go_at_call 40; refine (CT.out _ HB2.out).mono ?_; rintro e w3 ⟨rfl, hs3⟩; have hc3 := hs3.cw hc2; have HB3 := hid_into (HB2.out.trans (hs3.below _)); clear hc2 HB2 c3)
      | (go_at_call 41; refine (CE.out _ HB3.out).mono ?_; rintro e w4 ⟨rfl, hs4⟩; have hc4 := hs4.cw hc3; have HB4 := hid_into (HB3.out.trans (hs4.below _)); have c4 := (hc4.cell 0).trans HX.out; obtain ⟨hr4, hp4, hlt4⟩ := HR.out _ HB4.out; have z4 := hr4.frozen 1; have d4 := (hr4.cell 1).trans rfl; clear hc3 HB3))
    have hr5 := hr4.set 1 (.int .i64 (f : Int))
    have O5 := Only.set rb 1 w4 (.int .i64 (f : Int))
    have hp5 := O5.cw hp4 (Ne.symm HNe.out.1)
    have hc5 := O5.cw hc4 HNe.out.2.2
    have HG5 := hid_into ((Grows.of_below HB4.out (fun k => k = rb ∨ k = pb) (fun k hk hb => by omega)).trans (Grows.of_only O5 (F := fun k => k = rb ∨ k = pb) (Or.inl rfl)) (fun k hk => Or.inl hk))
    generalize w4.setCell ⟨rb, 1, none⟩ (.int .i64 (f : Int)) = W5 at *
    simp only [List.set_cons_succ, List.set_cons_zero] at hr5
    clear O5 hr4 hp4 hc4 HB4 z4 d4 c4 hs3 hs4 hlt4
    have HS5 : Hid (∀ V, Sm W5 V → V.rangeAt w.heap.size 0 cs) := fun V hV => (hV.cw hc5).range
    have CP : Hid (∀ V, Sm W5 V → Calls Tryz.prog 42 #[.pointer (some ⟨rb, 0, none⟩), .int .i64 (f : Int)] V fun e w' => e = .returned (.pointer (some ⟨pb, f % n * 20, none⟩)) ∧ Sm V w') := fun V hV => place_c ((hV.cw hr5).cell 0) HNN.out.1 HNN.out.2 f
    have S1 := HS5.out W5.drew ⟨rfl, rfl, rfl, rfl⟩
    refine wp_region_held (S := fun V => V.rangeAt w.heap.size 0 cs) (by kernel_rfl) ?_
    change wpAnyH _ _ _ _ _ _ _ _ (World.drew _)
    refine wpAnyH_take (i := 0) (v := .pointer (some ⟨rb, 0, none⟩)) rfl (by kernel_rfl) (by kernel_rfl) (by kernel_rfl) (fun _ _ _ h => h) (Or.inl ⟨by kernel_rfl, by intro V _; go_simp⟩) S1 ?_
    refine wpAnyH_take (i := 1) (v := .pointer (some ⟨w.heap.size, 0, none⟩)) rfl (by kernel_rfl) (by kernel_rfl) (by kernel_rfl) (fun _ _ _ h => h) (Or.inl ⟨by kernel_rfl, by intro V _; go_simp⟩) S1 ?_
    refine wpAnyH_take (i := 2) (v := .int .i64 (f : Int)) rfl (by kernel_rfl) (by kernel_rfl) (by kernel_rfl) (fun _ _ _ h => h) (Or.inl ⟨by kernel_rfl, by intro V hV; have q : V.cell? ⟨w.heap.size, 0, none⟩ = some (.int .i64 (f : Int)) := hV 0 _ HX.out; go_simp⟩) S1 ?_
    refine wpAnyH_take (i := 4) (v := .agg cs.toArray) rfl (by kernel_rfl) (by kernel_rfl) (by kernel_rfl) (fun _ _ _ h => h) (yieldsIf_load_mid (by kernel_rfl) 44 (.tmp 3) rfl w.heap.size 0 rfl cs _ (fun V h => h) Tryz.underlying44 rfl HN.out) S1 ?_
    refine wpAnyH_ready (rs := [3]) (by kernel_rfl) (by simp) ?_
    refine AllReadyH.cons rfl (fun KK hK => ?_) AllReadyH.nil
    go_simp
    refine (CP.out W5.drew ⟨rfl, rfl, rfl, rfl⟩).mono ?_
    rintro e w6 ⟨rfl, hs6'⟩
    have hs6 : Sm W5 w6 := ⟨hs6'.os, hs6'.tape, hs6'.output, hs6'.heap⟩
    have S6 := HS5.out w6 hs6
    dsimp only
    refine hK.out _ _ (by exact S6) (fun _ => ?_)
    clear hK KK
    refine wpAnyH_take (i := 5) (v := .pointer (some ⟨pb, f % n * 20, none⟩)) rfl (by kernel_rfl) (by kernel_rfl) (by kernel_rfl) (fun _ _ _ h => h) (Or.inl ⟨by kernel_rfl, by intro V _; go_simp⟩) S6 ?_
    refine wpAnyH_ready (rs := [6]) (by kernel_rfl) (by simp) ?_
    refine AllReadyH.cons rfl (fun KK hK => ?_) AllReadyH.nil
    refine step_store_pl rfl (.tmp 27) (.tmp 26) rfl pb (f % n) ps s (by kernel_rfl) (by rw [HCS.out]; kernel_rfl) (hs6.cw hp5) HFit HWf HFn ?_
    intro W7 hp7 O7
    have hr7 := O7.cw (hs6.cw hr5) HNe.out.1
    have hc7 := O7.cw (hs6.cw hc5) HNe.out.2.1
    have HG7 := hid_into (HG5.out.trans (Grows.of_only (hs6.only O7) (F := fun k => k = rb ∨ k = pb) (Or.inr rfl)) (fun k hk => Or.inl hk))
    refine hK.out _ _ (by exact hc7.range) (fun _ => ?_)
    clear hK KK
    simp only [List.getElem_toArray, List.getElem_cons_zero, List.getElem_cons_succ, Act.put, List.setIfInBounds_toArray, List.set_cons_zero, List.set_cons_succ]
    refine wpAnyH_done (by kernel_rfl) ?_ _
    have c7 := (hc7.cell 0).trans HX.out
    have z7 := hr7.frozen 2
    have d7 := hr7.cell 2
    simp only [List.getElem?_cons_zero, List.getElem?_cons_succ] at d7
    clear hs6 hs6' S6 S1 O7 HS5 CP
    have HC7 := hid_into hr7
    have HP7 := hid_into hp7
    clear hr7 hp7 hc7 hr5 hp5 hc5
    go_upto_region 7 with fail
    have hr8 := HC7.out.set 2 (.int .i64 ((f : Int) + 1))
    have O8 := Only.set rb 2 W7 (.int .i64 ((f : Int) + 1))
    have hp8 := hid_into (O8.cw HP7.out (Ne.symm HNe.out.1))
    have HG8 := hid_into (HG7.out.trans (Grows.of_only O8 (F := fun k => k = rb ∨ k = pb) (Or.inl rfl)) (fun k hk => Or.inl hk))
    generalize W7.setCell ⟨rb, 2, none⟩ (.int .i64 ((f : Int) + 1)) = W8 at *
    simp only [List.set_cons_succ, List.set_cons_zero] at hr8
    have d0 := hr8.cell 0
    have d1 := hr8.cell 1
    have d2 := hr8.cell 2
    have z8 := hr8.frozen 1
    simp only [List.getElem?_cons_zero, List.getElem?_cons_succ] at d0 d1 d2
    have HC8 := hid_into hr8
    clear hr8 O8 HC7 HP7 c7 z7 d7 HG7
    obtain ⟨d, hd⟩ : ∃ d : Int, d = (f : Int) + 1 - (n : Int) := ⟨_, rfl⟩
    have hwd : IntKind.i64.wrap ((f : Int) + 1 - (n : Int)) = d := by rw [hd]; have := HNN.out; simp [IntKind.wrap, IntKind.bits, IntKind.signed]; omega
    have HD := hid_into hd
    clear hd
    by_cases hlt : (f : Int) < d
    · go_region
      go_wp2_with fail
      go_ret
      have hX : d = (putA n a L s : Int) := by
        have hlt' := hlt; rw [HD.out] at hlt'; rw [hA, HD.out, HA0.out]
        omega
      have O9 := Only.set rb 1 W8 (.int .i64 d)
      have hr9 := HC8.out.set 1 (.int .i64 d)
      have hp9 := O9.cw hp8.out (Ne.symm HNe.out.1)
      simp only [List.set_cons_succ, List.set_cons_zero] at hr9
      have HG9 := HG8.out.trans (Grows.of_only O9.drew (F := fun k => k = rb ∨ k = pb) (Or.inl rfl)) (fun k hk => Or.inl hk)
      refine ⟨rfl, ⟨?_, ⟨_, hp9.keep rfl, hP⟩, hk, HNe.out.1, HNN.out.1, HNN.out.2⟩, HG9⟩
      rw [hlen, show ((f + 1 : Nat) : Int) = (f : Int) + 1 from rfl, ← hX]
      exact hr9.keep rfl
    · go_region
      go_wp2_with fail
      go_ret
      have hX : (f : Int) = (putA n a L s : Int) := by
        have hlt' := hlt; rw [HD.out] at hlt'; rw [hA, HA0.out]
        omega
      have O9 := Only.set rb 1 W8 (.int .i64 (f : Int))
      have hr9 := HC8.out.set 1 (.int .i64 (f : Int))
      have hp9 := O9.cw hp8.out (Ne.symm HNe.out.1)
      simp only [List.set_cons_succ, List.set_cons_zero] at hr9
      have HG9 := HG8.out.trans (Grows.of_only O9.drew (F := fun k => k = rb ∨ k = pb) (Or.inl rfl)) (fun k hk => Or.inl hk)
      refine ⟨rfl, ⟨?_, ⟨_, hp9.keep rfl, hP⟩, hk, HNe.out.1, HNN.out.1, HNN.out.2⟩, HG9⟩
      rw [hlen, show ((f + 1 : Nat) : Int) = (f : Int) + 1 from rfl, ← hX]
      exact hr9.keep rfl
  · have e2 : decide (L = []) = false := by simp [hl0]
    have HA0 : Hid ((a0 a L s : Int) = (a : Int)) := by show (a0 a L s : Int) = (a : Int); unfold a0; rw [if_neg hl0]
    rw [e2] at CE
    clear h hs he hp hl hi ho hf hfn hT hl0 e2
    go_enter Tryz.func21, Tryz.ntmps21
    go_upto_region 5 with (go_big_may; first
      | (refine wpList_box_row rfl 44 (.tmp 1) rfl cs rfl ?_; intro W1 hc1 B1 HS1)
      | (refine wpList_load_rw rfl 44 (.tmp 3) rfl w.heap.size cs 44 _ rfl ?_ Tryz.underlying44 rfl HN ?_; exact hc1)
      | (go_at_call 39; refine (CI.out _).mono ?_; rintro e w2 ⟨rfl, B2⟩; have hc2 := hc1.below B2 hc1.lt; have HB2 := hid_into (B1.trans (B2.mono B1.size)); have c3 := (hc2.cell 0).trans HX.out; clear hc1 B1 B2)
      | (go_at_call 40; refine (CT.out _ HB2.out).mono ?_; rintro e w3 ⟨rfl, hs3⟩; have hc3 := hs3.cw hc2; have HB3 := hid_into (HB2.out.trans (hs3.below _)); clear hc2 HB2 c3)
      | (go_at_call 41; refine (CE.out _ HB3.out).mono ?_; rintro e w4 ⟨rfl, hs4⟩; have hc4 := hs4.cw hc3; have HB4 := hid_into (HB3.out.trans (hs4.below _)); have c4 := (hc4.cell 0).trans HX.out; obtain ⟨hr4, hp4, hlt4⟩ := HR.out _ HB4.out; have z4 := hr4.frozen 1; have d4 := (hr4.cell 1).trans rfl; clear hc3 HB3))
    have HG5 := hid_into (Grows.of_below HB4.out (fun k => k = rb ∨ k = pb) (fun k hk hb => by omega))
    have hr5 := hr4
    have hp5 := hp4
    have hc5 := hc4
    generalize w4 = W5 at *
    clear hr4 hp4 hc4 HB4 z4 d4 c4 hs3 hs4 hlt4
    have HS5 : Hid (∀ V, Sm W5 V → V.rangeAt w.heap.size 0 cs) := fun V hV => (hV.cw hc5).range
    have CP : Hid (∀ V, Sm W5 V → Calls Tryz.prog 42 #[.pointer (some ⟨rb, 0, none⟩), .int .i64 (f : Int)] V fun e w' => e = .returned (.pointer (some ⟨pb, f % n * 20, none⟩)) ∧ Sm V w') := fun V hV => place_c ((hV.cw hr5).cell 0) HNN.out.1 HNN.out.2 f
    have S1 := HS5.out W5.drew ⟨rfl, rfl, rfl, rfl⟩
    refine wp_region_held (S := fun V => V.rangeAt w.heap.size 0 cs) (by kernel_rfl) ?_
    change wpAnyH _ _ _ _ _ _ _ _ (World.drew _)
    refine wpAnyH_take (i := 0) (v := .pointer (some ⟨rb, 0, none⟩)) rfl (by kernel_rfl) (by kernel_rfl) (by kernel_rfl) (fun _ _ _ h => h) (Or.inl ⟨by kernel_rfl, by intro V _; go_simp⟩) S1 ?_
    refine wpAnyH_take (i := 1) (v := .pointer (some ⟨w.heap.size, 0, none⟩)) rfl (by kernel_rfl) (by kernel_rfl) (by kernel_rfl) (fun _ _ _ h => h) (Or.inl ⟨by kernel_rfl, by intro V _; go_simp⟩) S1 ?_
    refine wpAnyH_take (i := 2) (v := .int .i64 (f : Int)) rfl (by kernel_rfl) (by kernel_rfl) (by kernel_rfl) (fun _ _ _ h => h) (Or.inl ⟨by kernel_rfl, by intro V hV; have q : V.cell? ⟨w.heap.size, 0, none⟩ = some (.int .i64 (f : Int)) := hV 0 _ HX.out; go_simp⟩) S1 ?_
    refine wpAnyH_take (i := 4) (v := .agg cs.toArray) rfl (by kernel_rfl) (by kernel_rfl) (by kernel_rfl) (fun _ _ _ h => h) (yieldsIf_load_mid (by kernel_rfl) 44 (.tmp 3) rfl w.heap.size 0 rfl cs _ (fun V h => h) Tryz.underlying44 rfl HN.out) S1 ?_
    refine wpAnyH_ready (rs := [3]) (by kernel_rfl) (by simp) ?_
    refine AllReadyH.cons rfl (fun KK hK => ?_) AllReadyH.nil
    go_simp
    refine (CP.out W5.drew ⟨rfl, rfl, rfl, rfl⟩).mono ?_
    rintro e w6 ⟨rfl, hs6'⟩
    have hs6 : Sm W5 w6 := ⟨hs6'.os, hs6'.tape, hs6'.output, hs6'.heap⟩
    have S6 := HS5.out w6 hs6
    dsimp only
    refine hK.out _ _ (by exact S6) (fun _ => ?_)
    clear hK KK
    refine wpAnyH_take (i := 5) (v := .pointer (some ⟨pb, f % n * 20, none⟩)) rfl (by kernel_rfl) (by kernel_rfl) (by kernel_rfl) (fun _ _ _ h => h) (Or.inl ⟨by kernel_rfl, by intro V _; go_simp⟩) S6 ?_
    refine wpAnyH_ready (rs := [6]) (by kernel_rfl) (by simp) ?_
    refine AllReadyH.cons rfl (fun KK hK => ?_) AllReadyH.nil
    refine step_store_pl rfl (.tmp 27) (.tmp 26) rfl pb (f % n) ps s (by kernel_rfl) (by rw [HCS.out]; kernel_rfl) (hs6.cw hp5) HFit HWf HFn ?_
    intro W7 hp7 O7
    have hr7 := O7.cw (hs6.cw hr5) HNe.out.1
    have hc7 := O7.cw (hs6.cw hc5) HNe.out.2.1
    have HG7 := hid_into (HG5.out.trans (Grows.of_only (hs6.only O7) (F := fun k => k = rb ∨ k = pb) (Or.inr rfl)) (fun k hk => Or.inl hk))
    refine hK.out _ _ (by exact hc7.range) (fun _ => ?_)
    clear hK KK
    simp only [List.getElem_toArray, List.getElem_cons_zero, List.getElem_cons_succ, Act.put, List.setIfInBounds_toArray, List.set_cons_zero, List.set_cons_succ]
    refine wpAnyH_done (by kernel_rfl) ?_ _
    have c7 := (hc7.cell 0).trans HX.out
    have z7 := hr7.frozen 2
    have d7 := hr7.cell 2
    simp only [List.getElem?_cons_zero, List.getElem?_cons_succ] at d7
    clear hs6 hs6' S6 S1 O7 HS5 CP
    have HC7 := hid_into hr7
    have HP7 := hid_into hp7
    clear hr7 hp7 hc7 hr5 hp5 hc5
    go_upto_region 7 with fail
    have hr8 := HC7.out.set 2 (.int .i64 ((f : Int) + 1))
    have O8 := Only.set rb 2 W7 (.int .i64 ((f : Int) + 1))
    have hp8 := hid_into (O8.cw HP7.out (Ne.symm HNe.out.1))
    have HG8 := hid_into (HG7.out.trans (Grows.of_only O8 (F := fun k => k = rb ∨ k = pb) (Or.inl rfl)) (fun k hk => Or.inl hk))
    generalize W7.setCell ⟨rb, 2, none⟩ (.int .i64 ((f : Int) + 1)) = W8 at *
    simp only [List.set_cons_succ, List.set_cons_zero] at hr8
    have d0 := hr8.cell 0
    have d1 := hr8.cell 1
    have d2 := hr8.cell 2
    have z8 := hr8.frozen 1
    simp only [List.getElem?_cons_zero, List.getElem?_cons_succ] at d0 d1 d2
    have HC8 := hid_into hr8
    clear hr8 O8 HC7 HP7 c7 z7 d7 HG7
    obtain ⟨d, hd⟩ : ∃ d : Int, d = (f : Int) + 1 - (n : Int) := ⟨_, rfl⟩
    have hwd : IntKind.i64.wrap ((f : Int) + 1 - (n : Int)) = d := by rw [hd]; have := HNN.out; simp [IntKind.wrap, IntKind.bits, IntKind.signed]; omega
    have HD := hid_into hd
    clear hd
    by_cases hlt : (a : Int) < d
    · go_region
      go_wp2_with fail
      go_ret
      have hX : d = (putA n a L s : Int) := by
        have hlt' := hlt; rw [HD.out] at hlt'; rw [hA, HD.out, HA0.out]
        omega
      have O9 := Only.set rb 1 W8 (.int .i64 d)
      have hr9 := HC8.out.set 1 (.int .i64 d)
      have hp9 := O9.cw hp8.out (Ne.symm HNe.out.1)
      simp only [List.set_cons_succ, List.set_cons_zero] at hr9
      have HG9 := HG8.out.trans (Grows.of_only O9.drew (F := fun k => k = rb ∨ k = pb) (Or.inl rfl)) (fun k hk => Or.inl hk)
      refine ⟨rfl, ⟨?_, ⟨_, hp9.keep rfl, hP⟩, hk, HNe.out.1, HNN.out.1, HNN.out.2⟩, HG9⟩
      rw [hlen, show ((f + 1 : Nat) : Int) = (f : Int) + 1 from rfl, ← hX]
      exact hr9.keep rfl
    · go_region
      go_wp2_with fail
      go_ret
      have hX : (a : Int) = (putA n a L s : Int) := by
        have hlt' := hlt; rw [HD.out] at hlt'; rw [hA, HA0.out]
        omega
      have O9 := Only.set rb 1 W8 (.int .i64 (a : Int))
      have hr9 := HC8.out.set 1 (.int .i64 (a : Int))
      have hp9 := O9.cw hp8.out (Ne.symm HNe.out.1)
      simp only [List.set_cons_succ, List.set_cons_zero] at hr9
      have HG9 := HG8.out.trans (Grows.of_only O9.drew (F := fun k => k = rb ∨ k = pb) (Or.inl rfl)) (fun k hk => Or.inl hk)
      refine ⟨rfl, ⟨?_, ⟨_, hp9.keep rfl, hP⟩, hk, HNe.out.1, HNN.out.1, HNN.out.2⟩, HG9⟩
      rw [hlen, show ((f + 1 : Nat) : Int) = (f : Int) + 1 from rfl, ← hX]
      exact hr9.keep rfl
set_option maxRecDepth 20000 in
set_option maxHeartbeats 2000000 in
theorem put_no {w : World} {rb pb n a : Nat} {L : List Sp} (h : Rg w rb pb n a L) (s : Sp) (hs : Gs s) (he : putE a L s ≠ 0) : Calls Tryz.prog 21 #[.pointer (some ⟨rb, 0, none⟩), .agg (stV s).toArray] w fun e w' => e = .returned (.int .i64 1) ∧ Below w.heap.size w w' := by
  have CI := hid_into (isState_any s hs)
  have CT : Hid (∀ W, Below w.heap.size w W → Calls Tryz.prog 40 #[.pointer (some ⟨rb, 0, none⟩), .int .i64 s.frame] W fun e w' => e = .returned (.bool (tkB a L s.frame)) ∧ Sm W w') := fun W hW => takes_any (h.below hW (Nat.le_refl _)) _
  have HN := st_size hs.1
  have HX := hid_into (stV_c hs.1).frame
  cases hq : isS s with
  | false =>
    rw [hq] at CI
    generalize stV s = cs at *
    generalize s.frame = x at *
    clear h hs he CT
    go_enter Tryz.func21, Tryz.ntmps21
    go_wp2_with (first
      | (refine wpList_box_row rfl 44 (.tmp 1) rfl cs rfl ?_; intro W1 hc1 B1 HS1)
      | (refine wpList_load_rw rfl 44 (.tmp 3) rfl w.heap.size cs 44 _ rfl ?_ Tryz.underlying44 rfl HN ?_; exact hc1)
      | (go_at_call 39; refine (CI.out _).mono ?_; rintro e w2 ⟨rfl, B2⟩))
    go_ret
    exact ⟨rfl, B1.trans (B2.mono B1.size)⟩
  | true =>
    rw [hq] at CI
    have hT : tkB a L s.frame = false := by
      unfold putE at he
      unfold tkB
      rw [hq] at he
      rw [decide_eq_false_iff_not]
      intro c
      apply he
      rw [if_neg]
      rintro (c1 | ⟨c1, c2⟩)
      · cases c1
      · rcases c with c | c
        · exact c1 c
        · omega
    rw [hT] at CT
    generalize stV s = cs at *
    generalize s.frame = x at *
    clear h hs he hT
    go_enter Tryz.func21, Tryz.ntmps21
    go_wp2_with (first
      | (refine wpList_box_row rfl 44 (.tmp 1) rfl cs rfl ?_; intro W1 hc1 B1 HS1)
      | (refine wpList_load_rw rfl 44 (.tmp 3) rfl w.heap.size cs 44 _ rfl ?_ Tryz.underlying44 rfl HN ?_; exact hc1)
      | (go_at_call 39; refine (CI.out _).mono ?_; rintro e w2 ⟨rfl, B2⟩; have c3 := ((hc1.below B2 hc1.lt).cell 0).trans HX.out; have HB2 := hid_into (B1.trans (B2.mono B1.size)))
      | (go_at_call 40; refine (CT.out _ HB2.out).mono ?_; rintro e w3 ⟨rfl, hs3⟩))
    go_ret
    exact ⟨rfl, HB2.out.trans (hs3.below _)⟩
/-- Put whole. -/
theorem put_any {w : World} {rb pb n a : Nat} {L : List Sp} (h : Rg w rb pb n a L) (s : Sp) (hs : Gs s) : Calls Tryz.prog 21 #[.pointer (some ⟨rb, 0, none⟩), .agg (stV s).toArray] w fun e w' => e = .returned (.int .i64 (putE a L s)) ∧ PutP w w' rb pb n a L s := by
  by_cases he : putE a L s = 0
  · rw [he]
    exact put_go h s hs he
  · have e1 : putE a L s = 1 := by rcases putE_cases a L s with e | e; exact absurd e he; exact e
    rw [e1]
    refine (put_no h s hs he).mono ?_
    rintro e w' ⟨rfl, hb⟩
    refine ⟨rfl, ?_, Grows.of_below hb _ (fun k hk hb => by omega)⟩
    rw [show putA n a L s = a from if_neg he, show putL n a L s = L from if_neg he]
    exact h.below hb (Nat.le_refl _)
end Go.Proofs.YtbfldcieibdapabGreat.Rn
end

section
/-
  A session in memory (Sn); empty, other, played, Work, Needs, by contracts.
-/
namespace Go.Proofs.YtbfldcieibdapabGreat
open Go.RowKit
/-- Where a session's parts lie. -/
structure Sx where
  sb : Nat
  qb : Nat
  qlo : Nat
  qhi : Nat
  g0 : Nat
  g1 : Nat
  rb : Nat
  pb : Nat
  cv : Value
structure Sx.Ok (X : Sx) (lo hi : Nat) : Prop where
  s : lo ≤ X.sb ∧ X.sb < hi
  q : lo ≤ X.qlo ∧ X.qhi ≤ hi
  r : lo ≤ X.rb ∧ X.rb < hi
  p : lo ≤ X.pb ∧ X.pb < hi
  c : ∀ k, X.cv.ownBlock = some k → lo ≤ k ∧ k < hi
  sq : X.sb < X.qlo ∨ X.qhi ≤ X.sb
  rq : X.rb < X.qlo ∨ X.qhi ≤ X.rb
  pq : X.pb < X.qlo ∨ X.qhi ≤ X.pb
  sr : X.sb ≠ X.rb
  sp : X.sb ≠ X.pb
  cs : ∀ k, X.cv.ownBlock = some k → k ≠ X.sb ∧ k ≠ X.rb ∧ k ≠ X.pb ∧ (k < X.qlo ∨ X.qhi ≤ k)
def Sx.cells (X : Sx) (G : Gm) (s : Sa) : List Value := [X.cv, .int .i64 G.cap, .int .i64 G.fuel, .int .i64 s.me, .pointer (some ⟨X.qb, 0, none⟩), .pointer (some ⟨X.rb, 0, none⟩), .int .i64 s.st, .int .i64 s.wr]
/-- A session whose blocks lie in lo .. hi. -/
structure Sn (w : World) (lo hi : Nat) (X : Sx) (G : Gm) (s : Sa) (a : Nat) (L : List Sp) : Prop where
  c : Cw w X.sb (X.cells G s) 68
  q : In.Qp w X.qlo X.qhi X.qb X.g0 X.g1 s.r0 s.r1
  r : Rn.Rg w X.rb X.pb 16 a L
  l : Ls w X.cv G.l
  x : X.Ok lo hi
  z : hi ≤ w.heap.size
section
variable {w w' : World} {lo hi : Nat} {X : Sx} {G : Gm} {s t : Sa} {a : Nat} {L : List Sp}
theorem Sn.keep (h : Sn w lo hi X G s a L) (hk : ∀ k, lo ≤ k → k < hi → w'.heap[k]? = w.heap[k]?) (hz : hi ≤ w'.heap.size) : Sn w' lo hi X G s a L :=
  ⟨h.c.keep (hk _ h.x.s.1 h.x.s.2), h.q.keep (fun k h1 h2 => hk k (by have := h.x.q; omega) (by have := h.x.q; omega)), h.r.keep (hk _ h.x.r.1 h.x.r.2) (hk _ h.x.p.1 h.x.p.2), h.l.keep (fun k h1 _ => hk k (h.x.c k h1).1 (h.x.c k h1).2), h.x, hz⟩
theorem Sn.below (h : Sn w lo hi X G s a L) (hb : Below w.heap.size w w') : Sn w' lo hi X G s a L := h.keep (fun k _ hk => hb.block k (by have := h.z; omega)) (Nat.le_trans h.z hb.size)
theorem Sn.sm (h : Sn w lo hi X G s a L) (hb : Sm w w') : Sn w' lo hi X G s a L := h.keep (fun k _ _ => by rw [hb.heap]) (by rw [hb.heap]; exact h.z)
/-- What else grows beside. -/
theorem Sn.grows (h : Sn w lo hi X G s a L) {F : Nat → Prop} (hb : Grows F w w') (hF : ∀ k, F k → k < lo ∨ hi ≤ k) : Sn w' lo hi X G s a L :=
  h.keep (fun k h1 h2 => hb.block k (by have := h.z; omega) (fun hf => by have := hF k hf; omega)) (Nat.le_trans h.z hb.size)
/-- The rows of a Queue, Put. -/
theorem Sn.putQ (h : Sn w lo hi X G s a L) (hq : In.Qp w' X.qlo X.qhi X.qb X.g0 X.g1 t.r0 t.r1) (ho : In.Og (fun k => X.qlo ≤ k ∧ k < X.qhi) w w') (h1 : t.me = s.me) (h2 : t.st = s.st) (h3 : t.wr = s.wr) : Sn w' lo hi X G t a L := by
  have hc : Cw w' X.sb (X.cells G s) 68 := ho.cw h.c (by have := h.x.sq; omega)
  refine ⟨?_, hq, h.r.keep (ho.block _ (by have := h.x.rq; omega)) (ho.block _ (by have := h.x.pq; omega)), h.l.keep (fun k hk _ => ho.block _ (by have := (h.x.cs k hk).2.2.2; omega)), h.x, by rw [ho.size]; exact h.z⟩
  unfold Sx.cells at hc ⊢
  rw [h1, h2, h3]
  exact hc
theorem Sn.putR (h : Sn w lo hi X G s a L) {a' : Nat} {L' : List Sp} (hr : Rn.Rg w' X.rb X.pb 16 a' L') (hg : Grows (fun k => k = X.rb ∨ k = X.pb) w w') : Sn w' lo hi X G s a' L' := by
  have lt : ∀ k, lo ≤ k → k < hi → k < w.heap.size := fun k _ hk => by have := h.z; omega
  refine ⟨h.c.keep (hg.block _ h.c.lt (by rintro (e | e); exact h.x.sr e; exact h.x.sp e)), h.q.keep (fun k h1 h2 => hg.block k (lt k (by have := h.x.q; omega) (by have := h.x.q; omega)) (by have := h.x.rq; have := h.x.pq; omega)), hr, h.l.keep (fun k hk hl => hg.block k hl (by have := h.x.cs k hk; omega)), h.x, Nat.le_trans h.z hg.size⟩
theorem Sn.putC (h : Sn w lo hi X G s a L) (hc : Cw w' X.sb (X.cells G t) 68) (hg : Only X.sb w w') (h0 : t.r0 = s.r0) (h1 : t.r1 = s.r1) : Sn w' lo hi X G t a L := by
  refine ⟨hc, by rw [h0, h1]; exact h.q.keep (fun k h1 h2 => hg.block k (by have := h.x.sq; omega)), h.r.keep (hg.block _ (Ne.symm h.x.sr)) (hg.block _ (Ne.symm h.x.sp)), h.l.keep (fun k hk _ => hg.block k (h.x.cs k hk).1), h.x, by rw [hg.size]; exact h.z⟩
/-- All of it lies there. -/
def In2 (lo hi : Nat) : Nat → Prop := fun k => lo ≤ k ∧ k < hi
theorem Sn.gq (h : Sn w lo hi X G s a L) (ho : In.Og (fun k => X.qlo ≤ k ∧ k < X.qhi) w w') : Grows (In2 lo hi) w w' := ⟨ho.os, ho.tape, ho.output, by rw [ho.size]; exact Nat.le_refl _, fun k _ hk => ho.block k (fun e => hk ⟨by have := h.x.q; omega, by have := h.x.q; omega⟩)⟩
theorem Sn.gr (h : Sn w lo hi X G s a L) (hg : Grows (fun k => k = X.rb ∨ k = X.pb) w w') : Grows (In2 lo hi) w w' := hg.mono (fun k hk => by rcases hk with rfl | rfl; exact h.x.r; exact h.x.p)
theorem Sn.gc (h : Sn w lo hi X G s a L) (hg : Only X.sb w w') : Grows (In2 lo hi) w w' := ⟨hg.os, hg.tape, hg.output, by rw [hg.size]; exact Nat.le_refl _, fun k _ hk => hg.block k (fun e => hk (e ▸ h.x.s))⟩
theorem gb (hb : Below w.heap.size w w') : Grows (In2 lo hi) w w' := Grows.of_below hb _ (fun k hk hb => by omega)
theorem gtrans {a b c : World} (h : Grows (In2 lo hi) a b) (k : Grows (In2 lo hi) b c) : Grows (In2 lo hi) a c := h.trans k (fun _ hk => Or.inl hk)
/-- The cells that are read. -/
structure Cl (w : World) (X : Sx) (G : Gm) (s : Sa) : Prop where
  c0 : w.cell? ⟨X.sb, 0, none⟩ = some X.cv
  c1 : w.cell? ⟨X.sb, 1, none⟩ = some (.int .i64 G.cap)
  c2 : w.cell? ⟨X.sb, 2, none⟩ = some (.int .i64 G.fuel)
  c3 : w.cell? ⟨X.sb, 3, none⟩ = some (.int .i64 s.me)
  c4 : w.cell? ⟨X.sb, 4, none⟩ = some (.pointer (some ⟨X.qb, 0, none⟩))
  c5 : w.cell? ⟨X.sb, 5, none⟩ = some (.pointer (some ⟨X.rb, 0, none⟩))
  c6 : w.cell? ⟨X.sb, 6, none⟩ = some (.int .i64 s.st)
  c7 : w.cell? ⟨X.sb, 7, none⟩ = some (.int .i64 s.wr)
theorem Sn.cl (h : Sn w lo hi X G s a L) : Cl w X G s := ⟨(h.c.cell 0).trans rfl, (h.c.cell 1).trans rfl, (h.c.cell 2).trans rfl, (h.c.cell 3).trans rfl, (h.c.cell 4).trans rfl, (h.c.cell 5).trans rfl, (h.c.cell 6).trans rfl, (h.c.cell 7).trans rfl⟩
theorem sempty_nil (w : World) : Calls Tryz.prog 24 #[.pointer none] w fun e w' => e = .returned (.bool true) ∧ w' = w := by
  go_enter Tryz.func24, Tryz.ntmps24
  go_wp2_with fail
  go_ret
  exact ⟨rfl, rfl⟩
theorem sempty_any (h : Sn w lo hi X G s a L) : Calls Tryz.prog 24 #[.pointer (some ⟨X.sb, 0, none⟩)] w fun e w' => e = .returned (.bool false) ∧ w' = w := by
  have c4 := h.cl.c4
  clear h
  go_enter Tryz.func24, Tryz.ntmps24
  go_wp2_with fail
  go_ret
  exact ⟨rfl, rfl⟩
theorem other_any (h : Sn w lo hi X G s a L) (hm : s.me = 0 ∨ s.me = 1) : Calls Tryz.prog 31 #[.pointer (some ⟨X.sb, 0, none⟩)] w fun e w' => e = .returned (.int .i64 (1 - s.me)) ∧ w' = w := by
  have c3 := h.cl.c3
  generalize s.me = me at *
  have h1 : 0 ≤ me := by omega
  have h2 : me ≤ 1 := by omega
  clear h hm
  go_enter Tryz.func31, Tryz.ntmps31
  go_wp2_with fail
  go_ret
  exact ⟨rfl, rfl⟩
theorem sel_me (hm : s.me = 0 ∨ s.me = 1) : In.sel s.me s.r0 s.r1 = s.m ∧ In.sel (1 - s.me) s.r0 s.r1 = s.h := by
  rcases hm with e | e <;> rw [Sa.r0, Sa.r1, e] <;> exact ⟨rfl, rfl⟩
theorem played_any (h : Sn w lo hi X G s a L) (hm : s.me = 0 ∨ s.me = 1) : Calls Tryz.prog 25 #[.pointer (some ⟨X.sb, 0, none⟩)] w fun e w' => e = .returned (.int .i64 (s.P : Int)) ∧ Sm w w' := by
  have c3 := h.cl.c3
  have c4 := h.cl.c4
  have CK : Hid (∀ W, Sm w W → Calls Tryz.prog 36 #[.pointer (some ⟨X.qb, 0, none⟩), .int .i64 s.me] W fun e w' => e = .returned (.int .i64 (s.P : Int)) ∧ w' = W) := fun W hW => by
    have := In.known_any' (h.sm hW).q s.me
    rw [(sel_me hm).1] at this
    exact this
  generalize s.me = me at *
  generalize (s.P : Int) = p at *
  have CKd := hid_into (CK.out w.drew ⟨rfl, rfl, rfl, rfl⟩)
  clear h hm CK
  go_enter Tryz.func25, Tryz.ntmps25
  go_wp2_with fail
  go_region_held3 (fun V => V.cell? ⟨X.sb, 3, none⟩ = some (.int .i64 me) ∧ V.cell? ⟨X.sb, 4, none⟩ = some (.pointer (some ⟨X.qb, 0, none⟩))) (exact ⟨c3, c4⟩) (first
    | (go_at_call 36; refine CKd.out.mono ?_; rintro e w1 ⟨rfl, rfl⟩))
  go_wp2_with fail
  go_ret
  exact ⟨rfl, ⟨rfl, rfl, rfl, rfl⟩⟩
theorem work_nil (w : World) : Calls Tryz.prog 17 #[.pointer none] w fun e w' => e = .returned (.tuple #[.int .i64 0, .int .i64 0]) ∧ w' = w := by
  go_enter Tryz.func17, Tryz.ntmps17
  go_wp2_with (go_at_call 24; refine (sempty_nil _).mono ?_; rintro e w1 ⟨rfl, rfl⟩)
  go_ret2
  exact ⟨rfl, rfl⟩
theorem work_any (h : Sn w lo hi X G s a L) : Calls Tryz.prog 17 #[.pointer (some ⟨X.sb, 0, none⟩)] w fun e w' => e = .returned (.tuple #[.int .i64 s.st, .int .i64 s.wr]) ∧ Sm w w' := by
  have c6 := h.cl.c6
  have c7 := h.cl.c7
  have CE := hid_into (sempty_any h)
  generalize s.st = x at *
  generalize s.wr = y at *
  clear h
  go_enter Tryz.func17, Tryz.ntmps17
  go_wp2_with (go_at_call 24; refine CE.out.mono ?_; rintro e w1 ⟨rfl, h1⟩; replace h1 := h1.symm; subst h1)
  go_region
  go_wp2_with fail
  go_ret2
  exact ⟨rfl, ⟨rfl, rfl, rfl, rfl⟩⟩
theorem needs_nil (w : World) : Calls Tryz.prog 14 #[.pointer none] w fun e w' => e = .returned (.int .i64 0) ∧ w' = w := by
  go_enter Tryz.func14, Tryz.ntmps14
  go_wp2_with (go_at_call 24; refine (sempty_nil _).mono ?_; rintro e w1 ⟨rfl, rfl⟩)
  go_ret
  exact ⟨rfl, rfl⟩
theorem needs_any (h : Sn w lo hi X G s a L) (hm : s.me = 0 ∨ s.me = 1) : Calls Tryz.prog 14 #[.pointer (some ⟨X.sb, 0, none⟩)] w fun e w' => e = .returned (.int .i64 (In.kn s.h : Int)) ∧ Sm w w' := by
  have c4 := h.cl.c4
  have CE := hid_into (sempty_any h)
  have CO : Hid (∀ W, Sm w W → Calls Tryz.prog 31 #[.pointer (some ⟨X.sb, 0, none⟩)] W fun e w' => e = .returned (.int .i64 (1 - s.me)) ∧ w' = W) := fun W hW => other_any (h.sm hW) hm
  have CK : Hid (∀ W, Sm w W → Calls Tryz.prog 36 #[.pointer (some ⟨X.qb, 0, none⟩), .int .i64 (1 - s.me)] W fun e w' => e = .returned (.int .i64 (In.kn s.h : Int)) ∧ w' = W) := fun W hW => by
    have := In.known_any' (h.sm hW).q (1 - s.me)
    rw [(sel_me hm).2] at this
    exact this
  generalize 1 - s.me = me at *
  generalize (In.kn s.h : Int) = p at *
  have CKd := hid_into (CK.out w.drew ⟨rfl, rfl, rfl, rfl⟩)
  have COd := hid_into (CO.out w.drew ⟨rfl, rfl, rfl, rfl⟩)
  clear h hm CK CO
  go_enter Tryz.func14, Tryz.ntmps14
  go_wp2_with (go_at_call 24; refine CE.out.mono ?_; rintro e w1 ⟨rfl, h1⟩; replace h1 := h1.symm; subst h1)
  go_region_held3 (fun V => V.cell? ⟨X.sb, 4, none⟩ = some (.pointer (some ⟨X.qb, 0, none⟩))) (exact c4) (first
    | (go_at_call 31; refine COd.out.mono ?_; rintro e w1 ⟨rfl, rfl⟩)
    | (go_at_call 36; refine CKd.out.mono ?_; rintro e w1 ⟨rfl, rfl⟩))
  go_wp2_with fail
  go_ret
  exact ⟨rfl, ⟨rfl, rfl, rfl, rfl⟩⟩
end
end Go.Proofs.YtbfldcieibdapabGreat
end
