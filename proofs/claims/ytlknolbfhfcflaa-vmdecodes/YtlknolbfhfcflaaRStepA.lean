/-
  The document's Step: what it refuses.
-/
import Derived.Test.YtlknolbfhfcflaaRSt
import Derived.Deep.CutBlock
namespace Go.Proofs.Ytlknolbfhfcflaa
open Go.RowKit
theorem built66 {s : Sp} (h : s.Wf) (i0 i1 : Int) : Try.prog.built 66 [(0, .agg (stV s).toArray), (1, .agg #[.int .u16 i0, .int .u16 i1]), (4, .int .i64 (-1))] = some ((stV s) ++ [.int .u16 i0, .int .u16 i1, .slice none 0 0, .int .i64 0, .int .i64 (-1), .bool false] : List Value).toArray := by
  obtain ⟨fr, cells, seed, over, win⟩ := s
  obtain ⟨c0, c1, c2, c3, c4, c5, c6, c7, c8, c9, c10, c11, c12, c13, c14, c15, e⟩ := sixteen h.cells
  simp only at e
  subst e
  kernel_rfl
set_option maxRecDepth 20000 in
set_option maxHeartbeats 2000000 in
theorem rStep_chk (cv : Value) (l : List Ii) (cap fuel : Int) (s : Sp) (i0 i1 : Int) (w : World) (hl : Ls w cv l) (hs : s.Wf) (hE : chkG l cap fuel ≠ 0) :
    Calls Try.prog 9 #[gameV cv cap fuel, .agg (stV s).toArray, .agg #[.int .u16 i0, .int .u16 i1]] w fun e w' => e = .returned (.tuple #[.agg zeroS.toArray, .int .i64 (chkG l cap fuel)]) ∧ Below w.heap.size w w' := by
  have hC := stV_c hs
  obtain ⟨ao, cp, rfl, hm⟩ := hl.len
  obtain ⟨os, hos⟩ : ∃ os, os = zeroS := ⟨_, rfl⟩
  have HZ : Hid ((Try.prog.info? 28).bind (·.zero) = some (.agg os.toArray)) := by rw [hos]; exact Try.zero28
  have HBz : Hid (Try.prog.built 28 [] = some os.toArray) := by rw [hos]; exact built28z
  have hol : os.length = 20 := by rw [hos]; rfl
  have HSo : Hid ((Try.prog.info? 28).map (·.size) = some os.length) := by rw [hol]; exact Try.size28
  have HOo : Hid (∀ v ∈ os, v.oneCell' = true) := by rw [hos]; exact hid_into (by decide)
  have HSz : Hid ((Try.prog.info? 28).map (·.size) = some (stV s).length) := by rw [hC.len]; exact Try.size28
  have CC : Hid (∀ W, Below w.heap.size w W → Calls Try.prog 11 #[.agg #[.slice ao l.length cp, .int .i64 cap, .int .i64 fuel]] W fun e w' => e = .returned (.int .i64 (chkG l cap fuel)) ∧ Below W.heap.size W w') := fun W hW => rChk_any _ l cap fuel W (hl.below hW)
  have CI : Hid (∀ W, Calls Try.prog 28 #[.agg (stV s).toArray] W fun e w' => e = .returned (.bool (isS s)) ∧ Below W.heap.size W w') := fun W => rIs_c (stV s) s hC W
  have HK : Hid ((stV s)[0]? = some (.int .i64 s.frame) ∧ (stV s)[17]? = some (.int .u32 s.seed) ∧ (stV s)[18]? = some (.bool s.over)) := ⟨hC.frame, hC.seed, hC.over⟩
  unfold gameV
  rw [← hos]
  generalize chkG l cap fuel = E at CC hE ⊢
  have hE' : (E != 0) = true := by simp [hE]
  clear hos hol hC hl hs hm
  generalize stV s = cs at HSz CI HK ⊢
  · skip
    go_enter Try.func9, Try.ntmps9
    go_wp2_with (first
      | (refine wpList_box_row rfl 28 (.tmp 1) rfl cs rfl ?_; intro W1 hc1 B1 HS1)
      | (refine wpList_alloc_row rfl 28 rfl os HZ.out ?_; intro W2 hr2 B2 HS2; have H4 := hid_into (St4.make hc1 B1 HS1.out hr2 B2); have g0 := H4.out.g.cell 0; have g1 := H4.out.g.cell 1; have g2 := H4.out.g.cell 2; simp only [List.getElem?_cons_zero, List.getElem?_cons_succ] at g0 g1 g2; clear hc1 B1 HS1 hr2 B2 HS2)
      | (go_at_call 11; refine (CC.out _ H4.out.below).mono ?_; rintro e w3 ⟨rfl, B3⟩; have H5 := hid_into (H4.out.next B3); clear H4 B3 g0 g1 g2)
      | (refine wpList_build_row rfl 28 #[] rfl os [] rfl HBz.out ?_)
      | (refine wpList_store_rw rfl 28 (.tmp 6) (.tmp 15) rfl (W1.heap.size + 1) os os 28 rfl rfl ?_ HSo (hid_into rfl) HOo.out ?_; exact H5.out.r; intro W9 hr9 O9))
    exact ret_row2 rfl rfl rfl hr9 Try.underlying28 rfl HSo ⟨rfl, H5.out.below.trans (O9.below (by have := H5.out.hb; omega))⟩
set_option maxRecDepth 20000 in
set_option maxHeartbeats 2000000 in
theorem rStep_is (cv : Value) (l : List Ii) (cap fuel : Int) (s : Sp) (i0 i1 : Int) (w : World) (hl : Ls w cv l) (hs : s.Wf) (hc : chkG l cap fuel = 0) (h1 : isS s = false) :
    Calls Try.prog 9 #[gameV cv cap fuel, .agg (stV s).toArray, .agg #[.int .u16 i0, .int .u16 i1]] w fun e w' => e = .returned (.tuple #[.agg zeroS.toArray, .int .i64 1]) ∧ Below w.heap.size w w' := by
  have hC := stV_c hs
  obtain ⟨ao, cp, rfl, hm⟩ := hl.len
  obtain ⟨os, hos⟩ : ∃ os, os = zeroS := ⟨_, rfl⟩
  have HZ : Hid ((Try.prog.info? 28).bind (·.zero) = some (.agg os.toArray)) := by rw [hos]; exact Try.zero28
  have HBz : Hid (Try.prog.built 28 [] = some os.toArray) := by rw [hos]; exact built28z
  have hol : os.length = 20 := by rw [hos]; rfl
  have HSo : Hid ((Try.prog.info? 28).map (·.size) = some os.length) := by rw [hol]; exact Try.size28
  have HOo : Hid (∀ v ∈ os, v.oneCell' = true) := by rw [hos]; exact hid_into (by decide)
  have HSz : Hid ((Try.prog.info? 28).map (·.size) = some (stV s).length) := by rw [hC.len]; exact Try.size28
  have CC : Hid (∀ W, Below w.heap.size w W → Calls Try.prog 11 #[.agg #[.slice ao l.length cp, .int .i64 cap, .int .i64 fuel]] W fun e w' => e = .returned (.int .i64 (chkG l cap fuel)) ∧ Below W.heap.size W w') := fun W hW => rChk_any _ l cap fuel W (hl.below hW)
  have CI : Hid (∀ W, Calls Try.prog 28 #[.agg (stV s).toArray] W fun e w' => e = .returned (.bool (isS s)) ∧ Below W.heap.size W w') := fun W => rIs_c (stV s) s hC W
  have HK : Hid ((stV s)[0]? = some (.int .i64 s.frame) ∧ (stV s)[17]? = some (.int .u32 s.seed) ∧ (stV s)[18]? = some (.bool s.over)) := ⟨hC.frame, hC.seed, hC.over⟩
  unfold gameV
  rw [← hos]
  rw [hc] at CC
  rw [h1] at CI
  clear hos hol hC hl hs hm
  generalize stV s = cs at HSz CI HK ⊢
  · skip
    go_enter Try.func9, Try.ntmps9
    go_wp2_with (first
      | (refine wpList_box_row rfl 28 (.tmp 1) rfl cs rfl ?_; intro W1 hc1 B1 HS1)
      | (refine wpList_alloc_row rfl 28 rfl os HZ.out ?_; intro W2 hr2 B2 HS2; have H4 := hid_into (St4.make hc1 B1 HS1.out hr2 B2); have g0 := H4.out.g.cell 0; have g1 := H4.out.g.cell 1; have g2 := H4.out.g.cell 2; simp only [List.getElem?_cons_zero, List.getElem?_cons_succ] at g0 g1 g2; clear hc1 B1 HS1 hr2 B2 HS2)
      | (go_at_call 11; refine (CC.out _ H4.out.below).mono ?_; rintro e w3 ⟨rfl, B3⟩; have H5 := hid_into (H4.out.next B3); clear H4 B3 g0 g1 g2)
      | (refine wpList_load_rw rfl 28 (.tmp 4) rfl (w.heap.size + 1) cs 28 _ rfl ?_ Try.underlying28 rfl HSz ?_; exact H5.out.s)
      | (go_at_call 28; refine (CI.out _).mono ?_; rintro e w4 ⟨rfl, B4⟩; have H6 := hid_into (H5.out.next B4); have k0 := H6.out.g.cell 0; have k1 := H6.out.g.cell 1; have k2 := H6.out.g.cell 2; have j0 := H6.out.i.cell 0; have j1 := H6.out.i.cell 1; simp only [List.getElem?_cons_zero, List.getElem?_cons_succ] at k0 k1 k2 j0 j1; have s0 := (H6.out.s.cell 0).trans HK.out.1; have s17 := (H6.out.s.cell 17).trans HK.out.2.1; have s18 := (H6.out.s.cell 18).trans HK.out.2.2; clear H5 B4)
      | (refine wpList_build_row rfl 28 #[] rfl os [] rfl HBz.out ?_)
      | (refine wpList_store_rw rfl 28 (.tmp 6) (.tmp 25) rfl (W1.heap.size + 1) os os 28 rfl rfl ?_ HSo (hid_into rfl) HOo.out ?_; exact H6.out.r; intro W9 hr9 O9))
    exact ret_row2 rfl rfl rfl hr9 Try.underlying28 rfl HSo ⟨rfl, H6.out.below.trans (O9.below (by have := H6.out.hb; omega))⟩
set_option maxRecDepth 20000 in
set_option maxHeartbeats 2000000 in
theorem rStep_seed (cv : Value) (l : List Ii) (cap fuel : Int) (s : Sp) (i0 i1 : Int) (w : World) (hl : Ls w cv l) (hs : s.Wf) (hc : chkG l cap fuel = 0) (h1 : isS s = true) (h2 : s.seed = 0) :
    Calls Try.prog 9 #[gameV cv cap fuel, .agg (stV s).toArray, .agg #[.int .u16 i0, .int .u16 i1]] w fun e w' => e = .returned (.tuple #[.agg zeroS.toArray, .int .i64 1]) ∧ Below w.heap.size w w' := by
  have hC := stV_c hs
  obtain ⟨ao, cp, rfl, hm⟩ := hl.len
  obtain ⟨os, hos⟩ : ∃ os, os = zeroS := ⟨_, rfl⟩
  have HZ : Hid ((Try.prog.info? 28).bind (·.zero) = some (.agg os.toArray)) := by rw [hos]; exact Try.zero28
  have HBz : Hid (Try.prog.built 28 [] = some os.toArray) := by rw [hos]; exact built28z
  have hol : os.length = 20 := by rw [hos]; rfl
  have HSo : Hid ((Try.prog.info? 28).map (·.size) = some os.length) := by rw [hol]; exact Try.size28
  have HOo : Hid (∀ v ∈ os, v.oneCell' = true) := by rw [hos]; exact hid_into (by decide)
  have HSz : Hid ((Try.prog.info? 28).map (·.size) = some (stV s).length) := by rw [hC.len]; exact Try.size28
  have CC : Hid (∀ W, Below w.heap.size w W → Calls Try.prog 11 #[.agg #[.slice ao l.length cp, .int .i64 cap, .int .i64 fuel]] W fun e w' => e = .returned (.int .i64 (chkG l cap fuel)) ∧ Below W.heap.size W w') := fun W hW => rChk_any _ l cap fuel W (hl.below hW)
  have CI : Hid (∀ W, Calls Try.prog 28 #[.agg (stV s).toArray] W fun e w' => e = .returned (.bool (isS s)) ∧ Below W.heap.size W w') := fun W => rIs_c (stV s) s hC W
  have HK : Hid ((stV s)[0]? = some (.int .i64 s.frame) ∧ (stV s)[17]? = some (.int .u32 s.seed) ∧ (stV s)[18]? = some (.bool s.over)) := ⟨hC.frame, hC.seed, hC.over⟩
  unfold gameV
  rw [← hos]
  rw [hc] at CC
  rw [h1] at CI
  rw [h2] at HK
  clear hos hol hC hl hs hm
  generalize stV s = cs at HSz CI HK ⊢
  · skip
    go_enter Try.func9, Try.ntmps9
    go_wp2_with (first
      | (refine wpList_box_row rfl 28 (.tmp 1) rfl cs rfl ?_; intro W1 hc1 B1 HS1)
      | (refine wpList_alloc_row rfl 28 rfl os HZ.out ?_; intro W2 hr2 B2 HS2; have H4 := hid_into (St4.make hc1 B1 HS1.out hr2 B2); have g0 := H4.out.g.cell 0; have g1 := H4.out.g.cell 1; have g2 := H4.out.g.cell 2; simp only [List.getElem?_cons_zero, List.getElem?_cons_succ] at g0 g1 g2; clear hc1 B1 HS1 hr2 B2 HS2)
      | (go_at_call 11; refine (CC.out _ H4.out.below).mono ?_; rintro e w3 ⟨rfl, B3⟩; have H5 := hid_into (H4.out.next B3); clear H4 B3 g0 g1 g2)
      | (refine wpList_load_rw rfl 28 (.tmp 4) rfl (w.heap.size + 1) cs 28 _ rfl ?_ Try.underlying28 rfl HSz ?_; exact H5.out.s)
      | (go_at_call 28; refine (CI.out _).mono ?_; rintro e w4 ⟨rfl, B4⟩; have H6 := hid_into (H5.out.next B4); have k0 := H6.out.g.cell 0; have k1 := H6.out.g.cell 1; have k2 := H6.out.g.cell 2; have j0 := H6.out.i.cell 0; have j1 := H6.out.i.cell 1; simp only [List.getElem?_cons_zero, List.getElem?_cons_succ] at k0 k1 k2 j0 j1; have s0 := (H6.out.s.cell 0).trans HK.out.1; have s17 := (H6.out.s.cell 17).trans HK.out.2.1; have s18 := (H6.out.s.cell 18).trans HK.out.2.2; clear H5 B4)
      | (refine wpList_build_row rfl 28 #[] rfl os [] rfl HBz.out ?_)
      | (refine wpList_store_rw rfl 28 (.tmp 6) (.tmp 25) rfl (W1.heap.size + 1) os os 28 rfl rfl ?_ HSo (hid_into rfl) HOo.out ?_; exact H6.out.r; intro W9 hr9 O9))
    exact ret_row2 rfl rfl rfl hr9 Try.underlying28 rfl HSo ⟨rfl, H6.out.below.trans (O9.below (by have := H6.out.hb; omega))⟩
set_option maxRecDepth 20000 in
set_option maxHeartbeats 2000000 in
theorem rStep_over (cv : Value) (l : List Ii) (cap fuel : Int) (s : Sp) (i0 i1 : Int) (w : World) (hl : Ls w cv l) (hs : s.Wf) (hc : chkG l cap fuel = 0) (h1 : isS s = true) (h2 : s.seed ≠ 0) (h3 : s.over = true) :
    Calls Try.prog 9 #[gameV cv cap fuel, .agg (stV s).toArray, .agg #[.int .u16 i0, .int .u16 i1]] w fun e w' => e = .returned (.tuple #[.agg zeroS.toArray, .int .i64 12]) ∧ Below w.heap.size w w' := by
  have hC := stV_c hs
  obtain ⟨ao, cp, rfl, hm⟩ := hl.len
  obtain ⟨os, hos⟩ : ∃ os, os = zeroS := ⟨_, rfl⟩
  have HZ : Hid ((Try.prog.info? 28).bind (·.zero) = some (.agg os.toArray)) := by rw [hos]; exact Try.zero28
  have HBz : Hid (Try.prog.built 28 [] = some os.toArray) := by rw [hos]; exact built28z
  have hol : os.length = 20 := by rw [hos]; rfl
  have HSo : Hid ((Try.prog.info? 28).map (·.size) = some os.length) := by rw [hol]; exact Try.size28
  have HOo : Hid (∀ v ∈ os, v.oneCell' = true) := by rw [hos]; exact hid_into (by decide)
  have HSz : Hid ((Try.prog.info? 28).map (·.size) = some (stV s).length) := by rw [hC.len]; exact Try.size28
  have CC : Hid (∀ W, Below w.heap.size w W → Calls Try.prog 11 #[.agg #[.slice ao l.length cp, .int .i64 cap, .int .i64 fuel]] W fun e w' => e = .returned (.int .i64 (chkG l cap fuel)) ∧ Below W.heap.size W w') := fun W hW => rChk_any _ l cap fuel W (hl.below hW)
  have CI : Hid (∀ W, Calls Try.prog 28 #[.agg (stV s).toArray] W fun e w' => e = .returned (.bool (isS s)) ∧ Below W.heap.size W w') := fun W => rIs_c (stV s) s hC W
  have HK : Hid ((stV s)[0]? = some (.int .i64 s.frame) ∧ (stV s)[17]? = some (.int .u32 s.seed) ∧ (stV s)[18]? = some (.bool s.over)) := ⟨hC.frame, hC.seed, hC.over⟩
  unfold gameV
  rw [← hos]
  rw [hc] at CC
  rw [h1] at CI
  have h2' : (s.seed == 0) = false := by simp [h2]
  rw [h3] at HK
  clear hos hol hC hl hs hm
  generalize stV s = cs at HSz CI HK ⊢
  · skip
    go_enter Try.func9, Try.ntmps9
    go_wp2_with (first
      | (refine wpList_box_row rfl 28 (.tmp 1) rfl cs rfl ?_; intro W1 hc1 B1 HS1)
      | (refine wpList_alloc_row rfl 28 rfl os HZ.out ?_; intro W2 hr2 B2 HS2; have H4 := hid_into (St4.make hc1 B1 HS1.out hr2 B2); have g0 := H4.out.g.cell 0; have g1 := H4.out.g.cell 1; have g2 := H4.out.g.cell 2; simp only [List.getElem?_cons_zero, List.getElem?_cons_succ] at g0 g1 g2; clear hc1 B1 HS1 hr2 B2 HS2)
      | (go_at_call 11; refine (CC.out _ H4.out.below).mono ?_; rintro e w3 ⟨rfl, B3⟩; have H5 := hid_into (H4.out.next B3); clear H4 B3 g0 g1 g2)
      | (refine wpList_load_rw rfl 28 (.tmp 4) rfl (w.heap.size + 1) cs 28 _ rfl ?_ Try.underlying28 rfl HSz ?_; exact H5.out.s)
      | (go_at_call 28; refine (CI.out _).mono ?_; rintro e w4 ⟨rfl, B4⟩; have H6 := hid_into (H5.out.next B4); have k0 := H6.out.g.cell 0; have k1 := H6.out.g.cell 1; have k2 := H6.out.g.cell 2; have j0 := H6.out.i.cell 0; have j1 := H6.out.i.cell 1; simp only [List.getElem?_cons_zero, List.getElem?_cons_succ] at k0 k1 k2 j0 j1; have s0 := (H6.out.s.cell 0).trans HK.out.1; have s17 := (H6.out.s.cell 17).trans HK.out.2.1; have s18 := (H6.out.s.cell 18).trans HK.out.2.2; clear H5 B4)
      | (refine wpList_build_row rfl 28 #[] rfl os [] rfl HBz.out ?_)
      | (refine wpList_store_rw rfl 28 (.tmp 6) (.tmp 35) rfl (W1.heap.size + 1) os os 28 rfl rfl ?_ HSo (hid_into rfl) HOo.out ?_; exact H6.out.r; intro W9 hr9 O9))
    exact ret_row2 rfl rfl rfl hr9 Try.underlying28 rfl HSo ⟨rfl, H6.out.below.trans (O9.below (by have := H6.out.hb; omega))⟩
set_option maxRecDepth 20000 in
set_option maxHeartbeats 2000000 in
theorem rStep_cap (cv : Value) (l : List Ii) (cap fuel : Int) (s : Sp) (i0 i1 : Int) (w : World) (hl : Ls w cv l) (hs : s.Wf) (hc : chkG l cap fuel = 0) (h1 : isS s = true) (h2 : s.seed ≠ 0) (h3 : s.over = false) (h4 : cap ≤ s.frame) :
    Calls Try.prog 9 #[gameV cv cap fuel, .agg (stV s).toArray, .agg #[.int .u16 i0, .int .u16 i1]] w fun e w' => e = .returned (.tuple #[.agg zeroS.toArray, .int .i64 12]) ∧ Below w.heap.size w w' := by
  have hC := stV_c hs
  obtain ⟨ao, cp, rfl, hm⟩ := hl.len
  obtain ⟨os, hos⟩ : ∃ os, os = zeroS := ⟨_, rfl⟩
  have HZ : Hid ((Try.prog.info? 28).bind (·.zero) = some (.agg os.toArray)) := by rw [hos]; exact Try.zero28
  have HBz : Hid (Try.prog.built 28 [] = some os.toArray) := by rw [hos]; exact built28z
  have hol : os.length = 20 := by rw [hos]; rfl
  have HSo : Hid ((Try.prog.info? 28).map (·.size) = some os.length) := by rw [hol]; exact Try.size28
  have HOo : Hid (∀ v ∈ os, v.oneCell' = true) := by rw [hos]; exact hid_into (by decide)
  have HSz : Hid ((Try.prog.info? 28).map (·.size) = some (stV s).length) := by rw [hC.len]; exact Try.size28
  have CC : Hid (∀ W, Below w.heap.size w W → Calls Try.prog 11 #[.agg #[.slice ao l.length cp, .int .i64 cap, .int .i64 fuel]] W fun e w' => e = .returned (.int .i64 (chkG l cap fuel)) ∧ Below W.heap.size W w') := fun W hW => rChk_any _ l cap fuel W (hl.below hW)
  have CI : Hid (∀ W, Calls Try.prog 28 #[.agg (stV s).toArray] W fun e w' => e = .returned (.bool (isS s)) ∧ Below W.heap.size W w') := fun W => rIs_c (stV s) s hC W
  have HK : Hid ((stV s)[0]? = some (.int .i64 s.frame) ∧ (stV s)[17]? = some (.int .u32 s.seed) ∧ (stV s)[18]? = some (.bool s.over)) := ⟨hC.frame, hC.seed, hC.over⟩
  unfold gameV
  rw [← hos]
  rw [hc] at CC
  rw [h1] at CI
  have h2' : (s.seed == 0) = false := by simp [h2]
  rw [h3] at HK
  clear hos hol hC hl hs hm
  generalize stV s = cs at HSz CI HK ⊢
  · skip
    go_enter Try.func9, Try.ntmps9
    go_wp2_with (first
      | (refine wpList_box_row rfl 28 (.tmp 1) rfl cs rfl ?_; intro W1 hc1 B1 HS1)
      | (refine wpList_alloc_row rfl 28 rfl os HZ.out ?_; intro W2 hr2 B2 HS2; have H4 := hid_into (St4.make hc1 B1 HS1.out hr2 B2); have g0 := H4.out.g.cell 0; have g1 := H4.out.g.cell 1; have g2 := H4.out.g.cell 2; simp only [List.getElem?_cons_zero, List.getElem?_cons_succ] at g0 g1 g2; clear hc1 B1 HS1 hr2 B2 HS2)
      | (go_at_call 11; refine (CC.out _ H4.out.below).mono ?_; rintro e w3 ⟨rfl, B3⟩; have H5 := hid_into (H4.out.next B3); clear H4 B3 g0 g1 g2)
      | (refine wpList_load_rw rfl 28 (.tmp 4) rfl (w.heap.size + 1) cs 28 _ rfl ?_ Try.underlying28 rfl HSz ?_; exact H5.out.s)
      | (go_at_call 28; refine (CI.out _).mono ?_; rintro e w4 ⟨rfl, B4⟩; have H6 := hid_into (H5.out.next B4); have k0 := H6.out.g.cell 0; have k1 := H6.out.g.cell 1; have k2 := H6.out.g.cell 2; have j0 := H6.out.i.cell 0; have j1 := H6.out.i.cell 1; simp only [List.getElem?_cons_zero, List.getElem?_cons_succ] at k0 k1 k2 j0 j1; have s0 := (H6.out.s.cell 0).trans HK.out.1; have s17 := (H6.out.s.cell 17).trans HK.out.2.1; have s18 := (H6.out.s.cell 18).trans HK.out.2.2; clear H5 B4)
      | (refine wpList_build_row rfl 28 #[] rfl os [] rfl HBz.out ?_)
      | (refine wpList_store_rw rfl 28 (.tmp 6) (.tmp 35) rfl (W1.heap.size + 1) os os 28 rfl rfl ?_ HSo (hid_into rfl) HOo.out ?_; exact H6.out.r; intro W9 hr9 O9))
    exact ret_row2 rfl rfl rfl hr9 Try.underlying28 rfl HSo ⟨rfl, H6.out.below.trans (O9.below (by have := H6.out.hb; omega))⟩
/-- What the document's Step refuses. -/
theorem rStep_no (cv : Value) (l : List Ii) (cap fuel : Int) (s : Sp) (i0 i1 : Int) (w : World) (hl : Ls w cv l) (hs : s.Wf) (hE : stepE l cap fuel s ≠ 0) :
    Calls Try.prog 9 #[gameV cv cap fuel, .agg (stV s).toArray, .agg #[.int .u16 i0, .int .u16 i1]] w fun e w' => e = .returned (.tuple #[.agg (stV (stepF l cap fuel s i0 i1).1).toArray, .int .i64 (stepF l cap fuel s i0 i1).2]) ∧ Below w.heap.size w w' := by
  rw [show stepF l cap fuel s i0 i1 = (noS, stepE l cap fuel s) from if_neg hE]
  show Calls Try.prog 9 _ w fun e w' => e = .returned (.tuple #[.agg zeroS.toArray, .int .i64 (stepE l cap fuel s)]) ∧ Below w.heap.size w w'
  unfold stepE at hE ⊢
  by_cases h0 : chkG l cap fuel = 0
  · rw [if_neg (by omega)] at hE ⊢
    cases h1 : isS s with
    | false =>
      rw [if_pos (Or.inl rfl)]
      exact rStep_is cv l cap fuel s i0 i1 w hl hs h0 h1
    | true =>
      by_cases h2 : s.seed = 0
      · rw [if_pos (Or.inr h2)]
        exact rStep_seed cv l cap fuel s i0 i1 w hl hs h0 h1 h2
      · have hn : ¬ (true = false ∨ s.seed = 0) := fun e => e.elim (fun e => by cases e) h2
        rw [h1, if_neg hn] at hE
        rw [if_neg hn]
        cases h3 : s.over with
        | true =>
          rw [if_pos (Or.inl rfl)]
          exact rStep_over cv l cap fuel s i0 i1 w hl hs h0 h1 h2 h3
        | false =>
          by_cases h4 : cap ≤ s.frame
          · rw [if_pos (Or.inr h4)]
            exact rStep_cap cv l cap fuel s i0 i1 w hl hs h0 h1 h2 h3 h4
          · rw [h3, if_neg (fun e => e.elim (fun e => by cases e) h4)] at hE
            exact absurd rfl hE
  · rw [if_pos h0]
    exact rStep_chk cv l cap fuel s i0 i1 w hl hs h0
end Go.Proofs.Ytlknolbfhfcflaa
