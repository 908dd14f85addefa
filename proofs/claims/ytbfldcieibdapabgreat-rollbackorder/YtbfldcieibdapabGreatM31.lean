/-
  Joined from: RStepA, RStepP.
-/
import Derived.Test.YtbfldcieibdapabGreatM26
import Derived.Deep.CutBlock
import Derived.Deep.RegionHeld3
section
/-
  The document's Step: what it refuses.
-/
namespace Go.Proofs.YtbfldcieibdapabGreat
open Go.RowKit
theorem built66 {s : Sp} (h : s.Wf) (i0 i1 : Int) : Tryz.prog.built 120 [(0, .agg (stV s).toArray), (1, .agg #[.int .u16 i0, .int .u16 i1]), (4, .int .i64 (-1))] = some ((stV s) ++ [.int .u16 i0, .int .u16 i1, .slice none 0 0, .int .i64 0, .int .i64 (-1), .bool false] : List Value).toArray := by
  obtain ⟨fr, cells, seed, over, win⟩ := s
  obtain ⟨c0, c1, c2, c3, c4, c5, c6, c7, c8, c9, c10, c11, c12, c13, c14, c15, e⟩ := sixteen h.cells
  simp only at e
  subst e
  kernel_rfl
set_option maxRecDepth 20000 in
set_option maxHeartbeats 2000000 in
theorem rStep_chk (cv : Value) (l : List Ii) (cap fuel : Int) (s : Sp) (i0 i1 : Int) (w : World) (hl : Ls w cv l) (hs : s.Wf) (hE : chkG l cap fuel ≠ 0) :
    Calls Tryz.prog 48 #[gameV cv cap fuel, .agg (stV s).toArray, .agg #[.int .u16 i0, .int .u16 i1]] w fun e w' => e = .returned (.tuple #[.agg zeroS.toArray, .int .i64 (chkG l cap fuel)]) ∧ Below w.heap.size w w' := by
  have hC := stV_c hs
  obtain ⟨ao, cp, rfl, hm⟩ := hl.len
  obtain ⟨os, hos⟩ : ∃ os, os = zeroS := ⟨_, rfl⟩
  have HZ : Hid ((Tryz.prog.info? 44).bind (·.zero) = some (.agg os.toArray)) := by rw [hos]; exact Tryz.zero44
  have HBz : Hid (Tryz.prog.built 44 [] = some os.toArray) := by rw [hos]; exact built28z
  have hol : os.length = 20 := by rw [hos]; rfl
  have HSo : Hid ((Tryz.prog.info? 44).map (·.size) = some os.length) := by rw [hol]; exact Tryz.size44
  have HOo : Hid (∀ v ∈ os, v.oneCell' = true) := by rw [hos]; exact hid_into (by decide)
  have HSz : Hid ((Tryz.prog.info? 44).map (·.size) = some (stV s).length) := by rw [hC.len]; exact Tryz.size44
  have CC : Hid (∀ W, Below w.heap.size w W → Calls Tryz.prog 6 #[.agg #[.slice ao l.length cp, .int .i64 cap, .int .i64 fuel]] W fun e w' => e = .returned (.int .i64 (chkG l cap fuel)) ∧ Below W.heap.size W w') := fun W hW => rChk_any _ l cap fuel W (hl.below hW)
  have CI : Hid (∀ W, Calls Tryz.prog 60 #[.agg (stV s).toArray] W fun e w' => e = .returned (.bool (isS s)) ∧ Below W.heap.size W w') := fun W => rIs_c (stV s) s hC W
  have HK : Hid ((stV s)[0]? = some (.int .i64 s.frame) ∧ (stV s)[17]? = some (.int .u32 s.seed) ∧ (stV s)[18]? = some (.bool s.over)) := ⟨hC.frame, hC.seed, hC.over⟩
  unfold gameV
  rw [← hos]
  generalize chkG l cap fuel = E at CC hE ⊢
  have hE' : (E != 0) = true := by simp [hE]
  clear hos hol hC hl hs hm
  generalize stV s = cs at HSz CI HK ⊢
  · skip
    go_enter Tryz.func48, Tryz.ntmps48
    go_wp2_with (first
      | (refine wpList_box_row rfl 44 (.tmp 1) rfl cs rfl ?_; intro W1 hc1 B1 HS1)
      | (refine wpList_alloc_row rfl 44 rfl os HZ.out ?_; intro W2 hr2 B2 HS2; have H4 := hid_into (St4.make hc1 B1 HS1.out hr2 B2); have g0 := H4.out.g.cell 0; have g1 := H4.out.g.cell 1; have g2 := H4.out.g.cell 2; simp only [List.getElem?_cons_zero, List.getElem?_cons_succ] at g0 g1 g2; clear hc1 B1 HS1 hr2 B2 HS2)
      | (go_at_call 6; refine (CC.out _ H4.out.below).mono ?_; rintro e w3 ⟨rfl, B3⟩; have H5 := hid_into (H4.out.next B3); clear H4 B3 g0 g1 g2)
      | (refine wpList_build_row rfl 44 #[] rfl os [] rfl HBz.out ?_)
      | (refine wpList_store_rw rfl 44 (.tmp 6) (.tmp 15) rfl (W1.heap.size + 1) os os 44 rfl rfl ?_ HSo (hid_into rfl) HOo.out ?_; exact H5.out.r; intro W9 hr9 O9))
    exact ret_row2 rfl rfl rfl hr9 Tryz.underlying44 rfl HSo ⟨rfl, H5.out.below.trans (O9.below (by have := H5.out.hb; omega))⟩
set_option maxRecDepth 20000 in
set_option maxHeartbeats 2000000 in
theorem rStep_is (cv : Value) (l : List Ii) (cap fuel : Int) (s : Sp) (i0 i1 : Int) (w : World) (hl : Ls w cv l) (hs : s.Wf) (hc : chkG l cap fuel = 0) (h1 : isS s = false) :
    Calls Tryz.prog 48 #[gameV cv cap fuel, .agg (stV s).toArray, .agg #[.int .u16 i0, .int .u16 i1]] w fun e w' => e = .returned (.tuple #[.agg zeroS.toArray, .int .i64 1]) ∧ Below w.heap.size w w' := by
  have hC := stV_c hs
  obtain ⟨ao, cp, rfl, hm⟩ := hl.len
  obtain ⟨os, hos⟩ : ∃ os, os = zeroS := ⟨_, rfl⟩
  have HZ : Hid ((Tryz.prog.info? 44).bind (·.zero) = some (.agg os.toArray)) := by rw [hos]; exact Tryz.zero44
  have HBz : Hid (Tryz.prog.built 44 [] = some os.toArray) := by rw [hos]; exact built28z
  have hol : os.length = 20 := by rw [hos]; rfl
  have HSo : Hid ((Tryz.prog.info? 44).map (·.size) = some os.length) := by rw [hol]; exact Tryz.size44
  have HOo : Hid (∀ v ∈ os, v.oneCell' = true) := by rw [hos]; exact hid_into (by decide)
  have HSz : Hid ((Tryz.prog.info? 44).map (·.size) = some (stV s).length) := by rw [hC.len]; exact Tryz.size44
  have CC : Hid (∀ W, Below w.heap.size w W → Calls Tryz.prog 6 #[.agg #[.slice ao l.length cp, .int .i64 cap, .int .i64 fuel]] W fun e w' => e = .returned (.int .i64 (chkG l cap fuel)) ∧ Below W.heap.size W w') := fun W hW => rChk_any _ l cap fuel W (hl.below hW)
  have CI : Hid (∀ W, Calls Tryz.prog 60 #[.agg (stV s).toArray] W fun e w' => e = .returned (.bool (isS s)) ∧ Below W.heap.size W w') := fun W => rIs_c (stV s) s hC W
  have HK : Hid ((stV s)[0]? = some (.int .i64 s.frame) ∧ (stV s)[17]? = some (.int .u32 s.seed) ∧ (stV s)[18]? = some (.bool s.over)) := ⟨hC.frame, hC.seed, hC.over⟩
  unfold gameV
  rw [← hos]
  rw [hc] at CC
  rw [h1] at CI
  clear hos hol hC hl hs hm
  generalize stV s = cs at HSz CI HK ⊢
  · skip
    go_enter Tryz.func48, Tryz.ntmps48
    go_wp2_with (first
      | (refine wpList_box_row rfl 44 (.tmp 1) rfl cs rfl ?_; intro W1 hc1 B1 HS1)
      | (refine wpList_alloc_row rfl 44 rfl os HZ.out ?_; intro W2 hr2 B2 HS2; have H4 := hid_into (St4.make hc1 B1 HS1.out hr2 B2); have g0 := H4.out.g.cell 0; have g1 := H4.out.g.cell 1; have g2 := H4.out.g.cell 2; simp only [List.getElem?_cons_zero, List.getElem?_cons_succ] at g0 g1 g2; clear hc1 B1 HS1 hr2 B2 HS2)
      | (go_at_call 6; refine (CC.out _ H4.out.below).mono ?_; rintro e w3 ⟨rfl, B3⟩; have H5 := hid_into (H4.out.next B3); clear H4 B3 g0 g1 g2)
      | (refine wpList_load_rw rfl 44 (.tmp 4) rfl (w.heap.size + 1) cs 44 _ rfl ?_ Tryz.underlying44 rfl HSz ?_; exact H5.out.s)
      | (go_at_call 60; refine (CI.out _).mono ?_; rintro e w4 ⟨rfl, B4⟩; have H6 := hid_into (H5.out.next B4); have k0 := H6.out.g.cell 0; have k1 := H6.out.g.cell 1; have k2 := H6.out.g.cell 2; have j0 := H6.out.i.cell 0; have j1 := H6.out.i.cell 1; simp only [List.getElem?_cons_zero, List.getElem?_cons_succ] at k0 k1 k2 j0 j1; have s0 := (H6.out.s.cell 0).trans HK.out.1; have s17 := (H6.out.s.cell 17).trans HK.out.2.1; have s18 := (H6.out.s.cell 18).trans HK.out.2.2; clear H5 B4)
      | (refine wpList_build_row rfl 44 #[] rfl os [] rfl HBz.out ?_)
      | (refine wpList_store_rw rfl 44 (.tmp 6) (.tmp 25) rfl (W1.heap.size + 1) os os 44 rfl rfl ?_ HSo (hid_into rfl) HOo.out ?_; exact H6.out.r; intro W9 hr9 O9))
    exact ret_row2 rfl rfl rfl hr9 Tryz.underlying44 rfl HSo ⟨rfl, H6.out.below.trans (O9.below (by have := H6.out.hb; omega))⟩
set_option maxRecDepth 20000 in
set_option maxHeartbeats 2000000 in
theorem rStep_seed (cv : Value) (l : List Ii) (cap fuel : Int) (s : Sp) (i0 i1 : Int) (w : World) (hl : Ls w cv l) (hs : s.Wf) (hc : chkG l cap fuel = 0) (h1 : isS s = true) (h2 : s.seed = 0) :
    Calls Tryz.prog 48 #[gameV cv cap fuel, .agg (stV s).toArray, .agg #[.int .u16 i0, .int .u16 i1]] w fun e w' => e = .returned (.tuple #[.agg zeroS.toArray, .int .i64 1]) ∧ Below w.heap.size w w' := by
  have hC := stV_c hs
  obtain ⟨ao, cp, rfl, hm⟩ := hl.len
  obtain ⟨os, hos⟩ : ∃ os, os = zeroS := ⟨_, rfl⟩
  have HZ : Hid ((Tryz.prog.info? 44).bind (·.zero) = some (.agg os.toArray)) := by rw [hos]; exact Tryz.zero44
  have HBz : Hid (Tryz.prog.built 44 [] = some os.toArray) := by rw [hos]; exact built28z
  have hol : os.length = 20 := by rw [hos]; rfl
  have HSo : Hid ((Tryz.prog.info? 44).map (·.size) = some os.length) := by rw [hol]; exact Tryz.size44
  have HOo : Hid (∀ v ∈ os, v.oneCell' = true) := by rw [hos]; exact hid_into (by decide)
  have HSz : Hid ((Tryz.prog.info? 44).map (·.size) = some (stV s).length) := by rw [hC.len]; exact Tryz.size44
  have CC : Hid (∀ W, Below w.heap.size w W → Calls Tryz.prog 6 #[.agg #[.slice ao l.length cp, .int .i64 cap, .int .i64 fuel]] W fun e w' => e = .returned (.int .i64 (chkG l cap fuel)) ∧ Below W.heap.size W w') := fun W hW => rChk_any _ l cap fuel W (hl.below hW)
  have CI : Hid (∀ W, Calls Tryz.prog 60 #[.agg (stV s).toArray] W fun e w' => e = .returned (.bool (isS s)) ∧ Below W.heap.size W w') := fun W => rIs_c (stV s) s hC W
  have HK : Hid ((stV s)[0]? = some (.int .i64 s.frame) ∧ (stV s)[17]? = some (.int .u32 s.seed) ∧ (stV s)[18]? = some (.bool s.over)) := ⟨hC.frame, hC.seed, hC.over⟩
  unfold gameV
  rw [← hos]
  rw [hc] at CC
  rw [h1] at CI
  rw [h2] at HK
  clear hos hol hC hl hs hm
  generalize stV s = cs at HSz CI HK ⊢
  · skip
    go_enter Tryz.func48, Tryz.ntmps48
    go_wp2_with (first
      | (refine wpList_box_row rfl 44 (.tmp 1) rfl cs rfl ?_; intro W1 hc1 B1 HS1)
      | (refine wpList_alloc_row rfl 44 rfl os HZ.out ?_; intro W2 hr2 B2 HS2; have H4 := hid_into (St4.make hc1 B1 HS1.out hr2 B2); have g0 := H4.out.g.cell 0; have g1 := H4.out.g.cell 1; have g2 := H4.out.g.cell 2; simp only [List.getElem?_cons_zero, List.getElem?_cons_succ] at g0 g1 g2; clear hc1 B1 HS1 hr2 B2 HS2)
      | (go_at_call 6; refine (CC.out _ H4.out.below).mono ?_; rintro e w3 ⟨rfl, B3⟩; have H5 := hid_into (H4.out.next B3); clear H4 B3 g0 g1 g2)
      | (refine wpList_load_rw rfl 44 (.tmp 4) rfl (w.heap.size + 1) cs 44 _ rfl ?_ Tryz.underlying44 rfl HSz ?_; exact H5.out.s)
      | (go_at_call 60; refine (CI.out _).mono ?_; rintro e w4 ⟨rfl, B4⟩; have H6 := hid_into (H5.out.next B4); have k0 := H6.out.g.cell 0; have k1 := H6.out.g.cell 1; have k2 := H6.out.g.cell 2; have j0 := H6.out.i.cell 0; have j1 := H6.out.i.cell 1; simp only [List.getElem?_cons_zero, List.getElem?_cons_succ] at k0 k1 k2 j0 j1; have s0 := (H6.out.s.cell 0).trans HK.out.1; have s17 := (H6.out.s.cell 17).trans HK.out.2.1; have s18 := (H6.out.s.cell 18).trans HK.out.2.2; clear H5 B4)
      | (refine wpList_build_row rfl 44 #[] rfl os [] rfl HBz.out ?_)
      | (refine wpList_store_rw rfl 44 (.tmp 6) (.tmp 25) rfl (W1.heap.size + 1) os os 44 rfl rfl ?_ HSo (hid_into rfl) HOo.out ?_; exact H6.out.r; intro W9 hr9 O9))
    exact ret_row2 rfl rfl rfl hr9 Tryz.underlying44 rfl HSo ⟨rfl, H6.out.below.trans (O9.below (by have := H6.out.hb; omega))⟩
set_option maxRecDepth 20000 in
set_option maxHeartbeats 2000000 in
theorem rStep_over (cv : Value) (l : List Ii) (cap fuel : Int) (s : Sp) (i0 i1 : Int) (w : World) (hl : Ls w cv l) (hs : s.Wf) (hc : chkG l cap fuel = 0) (h1 : isS s = true) (h2 : s.seed ≠ 0) (h3 : s.over = true) :
    Calls Tryz.prog 48 #[gameV cv cap fuel, .agg (stV s).toArray, .agg #[.int .u16 i0, .int .u16 i1]] w fun e w' => e = .returned (.tuple #[.agg zeroS.toArray, .int .i64 12]) ∧ Below w.heap.size w w' := by
  have hC := stV_c hs
  obtain ⟨ao, cp, rfl, hm⟩ := hl.len
  obtain ⟨os, hos⟩ : ∃ os, os = zeroS := ⟨_, rfl⟩
  have HZ : Hid ((Tryz.prog.info? 44).bind (·.zero) = some (.agg os.toArray)) := by rw [hos]; exact Tryz.zero44
  have HBz : Hid (Tryz.prog.built 44 [] = some os.toArray) := by rw [hos]; exact built28z
  have hol : os.length = 20 := by rw [hos]; rfl
  have HSo : Hid ((Tryz.prog.info? 44).map (·.size) = some os.length) := by rw [hol]; exact Tryz.size44
  have HOo : Hid (∀ v ∈ os, v.oneCell' = true) := by rw [hos]; exact hid_into (by decide)
  have HSz : Hid ((Tryz.prog.info? 44).map (·.size) = some (stV s).length) := by rw [hC.len]; exact Tryz.size44
  have CC : Hid (∀ W, Below w.heap.size w W → Calls Tryz.prog 6 #[.agg #[.slice ao l.length cp, .int .i64 cap, .int .i64 fuel]] W fun e w' => e = .returned (.int .i64 (chkG l cap fuel)) ∧ Below W.heap.size W w') := fun W hW => rChk_any _ l cap fuel W (hl.below hW)
  have CI : Hid (∀ W, Calls Tryz.prog 60 #[.agg (stV s).toArray] W fun e w' => e = .returned (.bool (isS s)) ∧ Below W.heap.size W w') := fun W => rIs_c (stV s) s hC W
  have HK : Hid ((stV s)[0]? = some (.int .i64 s.frame) ∧ (stV s)[17]? = some (.int .u32 s.seed) ∧ (stV s)[18]? = some (.bool s.over)) := ⟨hC.frame, hC.seed, hC.over⟩
  unfold gameV
  rw [← hos]
  rw [hc] at CC
  rw [h1] at CI
  have h2' : (s.seed == 0) = false := by simp [h2]
  rw [h3] at HK
  clear hos hol hC hl hs hm
  generalize stV s = cs at HSz CI HK ⊢
  · skip
    go_enter Tryz.func48, Tryz.ntmps48
    go_wp2_with (first
      | (refine wpList_box_row rfl 44 (.tmp 1) rfl cs rfl ?_; intro W1 hc1 B1 HS1)
      | (refine wpList_alloc_row rfl 44 rfl os HZ.out ?_; intro W2 hr2 B2 HS2; have H4 := hid_into (St4.make hc1 B1 HS1.out hr2 B2); have g0 := H4.out.g.cell 0; have g1 := H4.out.g.cell 1; have g2 := H4.out.g.cell 2; simp only [List.getElem?_cons_zero, List.getElem?_cons_succ] at g0 g1 g2; clear hc1 B1 HS1 hr2 B2 HS2)
      | (go_at_call 6; refine (CC.out _ H4.out.below).mono ?_; rintro e w3 ⟨rfl, B3⟩; have H5 := hid_into (H4.out.next B3); clear H4 B3 g0 g1 g2)
      | (refine wpList_load_rw rfl 44 (.tmp 4) rfl (w.heap.size + 1) cs 44 _ rfl ?_ Tryz.underlying44 rfl HSz ?_; exact H5.out.s)
      | (go_at_call 60; refine (CI.out _).mono ?_; rintro e w4 ⟨rfl, B4⟩; have H6 := hid_into (H5.out.next B4); have k0 := H6.out.g.cell 0; have k1 := H6.out.g.cell 1; have k2 := H6.out.g.cell 2; have j0 := H6.out.i.cell 0; have j1 := H6.out.i.cell 1; simp only [List.getElem?_cons_zero, List.getElem?_cons_succ] at k0 k1 k2 j0 j1; have s0 := (H6.out.s.cell 0).trans HK.out.1; have s17 := (H6.out.s.cell 17).trans HK.out.2.1; have s18 := (H6.out.s.cell 18).trans HK.out.2.2; clear H5 B4)
      | (refine wpList_build_row rfl 44 #[] rfl os [] rfl HBz.out ?_)
      | (refine wpList_store_rw rfl 44 (.tmp 6) (.tmp 35) rfl (W1.heap.size + 1) os os 44 rfl rfl ?_ HSo (hid_into rfl) HOo.out ?_; exact H6.out.r; intro W9 hr9 O9))
    exact ret_row2 rfl rfl rfl hr9 Tryz.underlying44 rfl HSo ⟨rfl, H6.out.below.trans (O9.below (by have := H6.out.hb; omega))⟩
set_option maxRecDepth 20000 in
set_option maxHeartbeats 2000000 in
theorem rStep_cap (cv : Value) (l : List Ii) (cap fuel : Int) (s : Sp) (i0 i1 : Int) (w : World) (hl : Ls w cv l) (hs : s.Wf) (hc : chkG l cap fuel = 0) (h1 : isS s = true) (h2 : s.seed ≠ 0) (h3 : s.over = false) (h4 : cap ≤ s.frame) :
    Calls Tryz.prog 48 #[gameV cv cap fuel, .agg (stV s).toArray, .agg #[.int .u16 i0, .int .u16 i1]] w fun e w' => e = .returned (.tuple #[.agg zeroS.toArray, .int .i64 12]) ∧ Below w.heap.size w w' := by
  have hC := stV_c hs
  obtain ⟨ao, cp, rfl, hm⟩ := hl.len
  obtain ⟨os, hos⟩ : ∃ os, os = zeroS := ⟨_, rfl⟩
  have HZ : Hid ((Tryz.prog.info? 44).bind (·.zero) = some (.agg os.toArray)) := by rw [hos]; exact Tryz.zero44
  have HBz : Hid (Tryz.prog.built 44 [] = some os.toArray) := by rw [hos]; exact built28z
  have hol : os.length = 20 := by rw [hos]; rfl
  have HSo : Hid ((Tryz.prog.info? 44).map (·.size) = some os.length) := by rw [hol]; exact Tryz.size44
  have HOo : Hid (∀ v ∈ os, v.oneCell' = true) := by rw [hos]; exact hid_into (by decide)
  have HSz : Hid ((Tryz.prog.info? 44).map (·.size) = some (stV s).length) := by rw [hC.len]; exact Tryz.size44
  have CC : Hid (∀ W, Below w.heap.size w W → Calls Tryz.prog 6 #[.agg #[.slice ao l.length cp, .int .i64 cap, .int .i64 fuel]] W fun e w' => e = .returned (.int .i64 (chkG l cap fuel)) ∧ Below W.heap.size W w') := fun W hW => rChk_any _ l cap fuel W (hl.below hW)
  have CI : Hid (∀ W, Calls Tryz.prog 60 #[.agg (stV s).toArray] W fun e w' => e = .returned (.bool (isS s)) ∧ Below W.heap.size W w') := fun W => rIs_c (stV s) s hC W
  have HK : Hid ((stV s)[0]? = some (.int .i64 s.frame) ∧ (stV s)[17]? = some (.int .u32 s.seed) ∧ (stV s)[18]? = some (.bool s.over)) := ⟨hC.frame, hC.seed, hC.over⟩
  unfold gameV
  rw [← hos]
  rw [hc] at CC
  rw [h1] at CI
  have h2' : (s.seed == 0) = false := by simp [h2]
  rw [h3] at HK
  clear hos hol hC hl hs hm
  generalize stV s = cs at HSz CI HK ⊢
  · skip
    go_enter Tryz.func48, Tryz.ntmps48
    go_wp2_with (first
      | (refine wpList_box_row rfl 44 (.tmp 1) rfl cs rfl ?_; intro W1 hc1 B1 HS1)
      | (refine wpList_alloc_row rfl 44 rfl os HZ.out ?_; intro W2 hr2 B2 HS2; have H4 := hid_into (St4.make hc1 B1 HS1.out hr2 B2); have g0 := H4.out.g.cell 0; have g1 := H4.out.g.cell 1; have g2 := H4.out.g.cell 2; simp only [List.getElem?_cons_zero, List.getElem?_cons_succ] at g0 g1 g2; clear hc1 B1 HS1 hr2 B2 HS2)
      | (go_at_call 6; refine (CC.out _ H4.out.below).mono ?_; rintro e w3 ⟨rfl, B3⟩; have H5 := hid_into (H4.out.next B3); clear H4 B3 g0 g1 g2)
      | (refine wpList_load_rw rfl 44 (.tmp 4) rfl (w.heap.size + 1) cs 44 _ rfl ?_ Tryz.underlying44 rfl HSz ?_; exact H5.out.s)
      | (go_at_call 60; refine (CI.out _).mono ?_; rintro e w4 ⟨rfl, B4⟩; have H6 := hid_into (H5.out.next B4); have k0 := H6.out.g.cell 0; have k1 := H6.out.g.cell 1; have k2 := H6.out.g.cell 2; have j0 := H6.out.i.cell 0; have j1 := H6.out.i.cell 1; simp only [List.getElem?_cons_zero, List.getElem?_cons_succ] at k0 k1 k2 j0 j1; have s0 := (H6.out.s.cell 0).trans HK.out.1; have s17 := (H6.out.s.cell 17).trans HK.out.2.1; have s18 := (H6.out.s.cell 18).trans HK.out.2.2; clear H5 B4)
      | (refine wpList_build_row rfl 44 #[] rfl os [] rfl HBz.out ?_)
      | (refine wpList_store_rw rfl 44 (.tmp 6) (.tmp 35) rfl (W1.heap.size + 1) os os 44 rfl rfl ?_ HSo (hid_into rfl) HOo.out ?_; exact H6.out.r; intro W9 hr9 O9))
    exact ret_row2 rfl rfl rfl hr9 Tryz.underlying44 rfl HSo ⟨rfl, H6.out.below.trans (O9.below (by have := H6.out.hb; omega))⟩
/-- What the document's Step refuses. -/
theorem rStep_no (cv : Value) (l : List Ii) (cap fuel : Int) (s : Sp) (i0 i1 : Int) (w : World) (hl : Ls w cv l) (hs : s.Wf) (hE : stepE l cap fuel s ≠ 0) :
    Calls Tryz.prog 48 #[gameV cv cap fuel, .agg (stV s).toArray, .agg #[.int .u16 i0, .int .u16 i1]] w fun e w' => e = .returned (.tuple #[.agg (stV (stepF l cap fuel s i0 i1).1).toArray, .int .i64 (stepF l cap fuel s i0 i1).2]) ∧ Below w.heap.size w w' := by
  rw [show stepF l cap fuel s i0 i1 = (noS, stepE l cap fuel s) from if_neg hE]
  show Calls Tryz.prog 48 _ w fun e w' => e = .returned (.tuple #[.agg zeroS.toArray, .int .i64 (stepE l cap fuel s)]) ∧ Below w.heap.size w w'
  unfold stepE at hE ⊢
  by_cases h0 : chkG l cap fuel = 0
  · rw [if_neg (by omega)] at hE ⊢
    cases h1 : isS s with
    | false =>
      rw [if_pos (Or.inl rfl)]
      exact rStep_is cv l cap fuel s i0 i1 w hl hs h0 h1
    | true =>
      by_cases h2 : s.seed = 0
      · rw [if_pos (Or.inr h2)]
        exact rStep_seed cv l cap fuel s i0 i1 w hl hs h0 h1 h2
      · have hn : ¬ (true = false ∨ s.seed = 0) := fun e => e.elim (fun e => by cases e) h2
        rw [h1, if_neg hn] at hE
        rw [if_neg hn]
        cases h3 : s.over with
        | true =>
          rw [if_pos (Or.inl rfl)]
          exact rStep_over cv l cap fuel s i0 i1 w hl hs h0 h1 h2 h3
        | false =>
          by_cases h4 : cap ≤ s.frame
          · rw [if_pos (Or.inr h4)]
            exact rStep_cap cv l cap fuel s i0 i1 w hl hs h0 h1 h2 h3 h4
          · rw [h3, if_neg (fun e => e.elim (fun e => by cases e) h4)] at hE
            exact absurd rfl hE
  · rw [if_pos h0]
    exact rStep_chk cv l cap fuel s i0 i1 w hl hs h0
end Go.Proofs.YtbfldcieibdapabGreat
end

section
/-
  The document's Step: plain words for a frame that runs.
-/
namespace Go.Proofs.YtbfldcieibdapabGreat
open Go.RowKit
/-- How the document's loop ends. -/
def REnd (R : Option Mp) (q : Rm) : Prop := (q.bad = false ∧ ∃ m, R = some m ∧ q.cells = m.cells ∧ q.seed = m.seed ∧ q.won = wonI m.won ∧ ∀ a, m.won = some a → 0 ≤ a) ∨ (q.bad = true ∧ R = none)
theorem St4.ge {w W W' : World} {b M : Nat} {cv : Value} {cap fuel i0 i1 : Int} {cs os : List Value} (h : St4 w W b cv cap fuel cs i0 i1 os) (hb : Below M W W') (hM : b + 1 < M) : St4 w W' b cv cap fuel cs i0 i1 os :=
  ⟨h.g.below hb (by have := h.hb; omega), h.s.below hb (by have := h.hb; omega), h.i.below hb (by omega), h.r.below hb hM, h.below.trans (hb.mono (by have := h.hb; omega)), h.hb⟩
theorem mayI_win {x : Ii} {n : Int} (h : mayI x n = true) (h20 : x.1 = 20) : 0 ≤ x.2 := by
  obtain ⟨o, a⟩ := x
  simp only at h20
  subst h20
  have h2 : decide (0 ≤ a ∧ a ≤ 2) = true := h
  simp only [decide_eq_true_eq] at h2
  exact h2.1
theorem push_won {m m' : Mp} {v : Int} (h : m.push v = some m') : m'.won = m.won := by
  unfold Mp.push at h
  split at h
  · cases h; rfl
  · cases h
theorem doI_won {fr i0 i1 : Int} {n : Nat} {x : Ii} {m m' : Mp} (h : doI fr i0 i1 n x m = some m') (hm : m.won = none) (hx : mayI x (n : Int) = true) : ∀ a, m'.won = some a → 0 ≤ a := by
  intro a ha
  have h20 := mayI_win hx
  obtain ⟨c, sd, st, pc, won⟩ := m
  simp only at hm
  subst hm
  unfold doI at h
  by_cases c0 : x.1 = 1
  · rw [if_pos c0] at h
    (rcases st with _ | ⟨a1, _ | ⟨b1, st⟩⟩ <;> first | (cases h; cases ha) | (have e9 := push_won h; rw [e9] at ha; cases ha) | cases h)
  rw [if_neg c0] at h
  by_cases c1 : x.1 = 2
  · rw [if_pos c1] at h
    (rcases st with _ | ⟨a1, _ | ⟨b1, st⟩⟩ <;> first | (cases h; cases ha) | (have e9 := push_won h; rw [e9] at ha; cases ha) | cases h)
  rw [if_neg c1] at h
  by_cases c2 : x.1 = 3
  · rw [if_pos c2] at h
    (rcases st with _ | ⟨a1, _ | ⟨b1, st⟩⟩ <;> first | (cases h; cases ha) | (have e9 := push_won h; rw [e9] at ha; cases ha) | cases h)
  rw [if_neg c2] at h
  by_cases c3 : x.1 ≤ 11
  · rw [if_pos c3] at h
    (rcases st with _ | ⟨a1, _ | ⟨b1, st⟩⟩ <;> first | (cases h; cases ha) | (have e9 := push_won h; rw [e9] at ha; cases ha) | cases h)
  rw [if_neg c3] at h
  by_cases c4 : x.1 = 12
  · rw [if_pos c4] at h
    (rcases st with _ | ⟨a1, _ | ⟨b1, st⟩⟩ <;> first | (cases h; cases ha) | (have e9 := push_won h; rw [e9] at ha; cases ha) | cases h)
  rw [if_neg c4] at h
  by_cases c5 : x.1 = 13
  · rw [if_pos c5] at h
    (rcases st with _ | ⟨a1, _ | ⟨b1, st⟩⟩ <;> first | (cases h; cases ha) | (have e9 := push_won h; rw [e9] at ha; cases ha) | cases h)
  rw [if_neg c5] at h
  by_cases c6 : x.1 = 14
  · rw [if_pos c6] at h
    (rcases st with _ | ⟨a1, _ | ⟨b1, st⟩⟩ <;> first | (cases h; cases ha) | (have e9 := push_won h; rw [e9] at ha; cases ha) | cases h)
  rw [if_neg c6] at h
  by_cases c7 : x.1 = 15
  · rw [if_pos c7] at h
    (rcases st with _ | ⟨a1, _ | ⟨b1, st⟩⟩ <;> first | (cases h; cases ha) | (have e9 := push_won h; rw [e9] at ha; cases ha) | cases h)
  rw [if_neg c7] at h
  by_cases c8 : x.1 = 16
  · rw [if_pos c8] at h
    (rcases st with _ | ⟨a1, _ | ⟨b1, st⟩⟩ <;> first | (cases h; cases ha) | (have e9 := push_won h; rw [e9] at ha; cases ha) | cases h)
  rw [if_neg c8] at h
  by_cases c9 : x.1 = 17
  · rw [if_pos c9] at h
    (rcases st with _ | ⟨a1, _ | ⟨b1, st⟩⟩ <;> first | (cases h; cases ha) | (have e9 := push_won h; rw [e9] at ha; cases ha) | cases h)
  rw [if_neg c9] at h
  by_cases c10 : x.1 = 18
  · rw [if_pos c10] at h
    (rcases st with _ | ⟨a1, _ | ⟨b1, st⟩⟩ <;> first | (cases h; cases ha) | (have e9 := push_won h; rw [e9] at ha; cases ha) | cases h)
  rw [if_neg c10] at h
  by_cases c11 : x.1 = 19
  · rw [if_pos c11] at h
    (rcases st with _ | ⟨a1, _ | ⟨b1, st⟩⟩ <;> first | (cases h; cases ha) | (have e9 := push_won h; rw [e9] at ha; cases ha) | cases h)
  rw [if_neg c11] at h
  by_cases c12 : x.1 = 20
  · rw [if_pos c12] at h
    cases h; cases ha; exact h20 c12
  rw [if_neg c12] at h
  by_cases c13 : x.1 = 21
  · rw [if_pos c13] at h
    (rcases st with _ | ⟨a1, _ | ⟨b1, st⟩⟩ <;> first | (cases h; cases ha) | (have e9 := push_won h; rw [e9] at ha; cases ha) | cases h)
  rw [if_neg c13] at h
  (rcases st with _ | ⟨a1, _ | ⟨b1, st⟩⟩ <;> first | (cases h; cases ha) | (have e9 := push_won h; rw [e9] at ha; cases ha) | cases h)
/-- A state, and what lies behind it. -/
def rowT (t : Sp) (tl : List Value) : List Value := stV t ++ tl
theorem setT0 (t : Sp) (tl : List Value) (v : Int) : (rowT t tl).set 0 (.int .i64 v) = rowT { t with frame := v } tl := rfl
theorem setT18 {t : Sp} (h : t.cells.length = 16) (tl : List Value) (v : Bool) : (rowT t tl).set 18 (.bool v) = rowT { t with over := v } tl := by
  obtain ⟨fr, cells, seed, over, win⟩ := t
  obtain ⟨c0, c1, c2, c3, c4, c5, c6, c7, c8, c9, c10, c11, c12, c13, c14, c15, e⟩ := sixteen h
  simp only at e
  subst e
  rfl
theorem setT19 {t : Sp} (h : t.cells.length = 16) (tl : List Value) (v : Int) : (rowT t tl).set 19 (.int .i64 v) = rowT { t with win := v } tl := by
  obtain ⟨fr, cells, seed, over, win⟩ := t
  obtain ⟨c0, c1, c2, c3, c4, c5, c6, c7, c8, c9, c10, c11, c12, c13, c14, c15, e⟩ := sixteen h
  simp only at e
  subst e
  rfl
theorem getT {t : Sp} (h : t.cells.length = 16) (tl : List Value) : (rowT t tl)[0]? = some (.int .i64 t.frame) ∧ (rowT t tl)[1]? = some (.int .i32 (t.cells.getD 0 0)) ∧ (rowT t tl)[2]? = some (.int .i32 (t.cells.getD 1 0)) ∧ (rowT t tl)[18]? = some (.bool t.over) ∧ (rowT t tl)[19]? = some (.int .i64 t.win) ∧ ∀ i, (rowT t tl)[20 + i]? = tl[i]? := by
  obtain ⟨fr, cells, seed, over, win⟩ := t
  obtain ⟨c0, c1, c2, c3, c4, c5, c6, c7, c8, c9, c10, c11, c12, c13, c14, c15, e⟩ := sixteen h
  simp only at e
  subst e
  refine ⟨rfl, rfl, rfl, rfl, rfl, fun i => ?_⟩
  rw [rowT, List.getElem?_append_right (by simp [stV])]
  simp [stV]
theorem rowD_T (fr i0 i1 : Int) (sv : Value) (q : Rm) : rowD fr i0 i1 sv q = rowT ⟨fr, q.cells, q.seed, false, 0⟩ [.int .u16 i0, .int .u16 i1, sv, .int .i64 q.pc, .int .i64 q.won, .bool q.bad] := by
  simp [rowD, rowT, stV]
theorem rangeT {W : World} {M : Nat} {t : Sp} {tl : List Value} (h : Cw W M (rowT t tl) 120) : W.rangeAt M 0 (stV t) := by
  intro j u hu
  rw [Nat.zero_add, h.cell, rowT, List.getElem?_append_left (List.getElem?_eq_some_iff.1 hu).1]
  exact hu
/-- The machine ahead of its first instruction. -/
theorem Rw.start {W : World} {M : Nat} {s : Sp} (hs : s.Wf) (ho : s.over = false) (hw : s.win = 0) {i0 i1 : Int} (h : Cw W M (stV s ++ [.int .u16 i0, .int .u16 i1, .slice none 0 0, .int .i64 0, .int .i64 (-1), .bool false]) 120) : Rw W M s.frame i0 i1 [] ⟨s.cells, s.seed, ((0 : Nat) : Int), -1, false⟩ (.slice none 0 0) := by
  refine ⟨?_, ⟨hs.cells, hs.cin, hs.seed⟩, ⟨rfl, Or.inl ⟨rfl, rfl⟩⟩, fun x hx => (by cases hx), by simp⟩
  rw [rowD_T]
  obtain ⟨fr, cells, seed, over, win⟩ := s
  simp only at ho hw
  subst ho hw
  exact h
end Go.Proofs.YtbfldcieibdapabGreat
end
