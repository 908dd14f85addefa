/-
  What duel's laws call besides: the document's Result and Start, heavy, adder, known.
-/
import Derived.Test.YtgnbcalfojifnaaResult
namespace Go.Proofs.Ytgnbcalfojifnaa
open Go.RowKit
set_option maxRecDepth 20000 in
set_option maxHeartbeats 1000000 in
theorem rResult_any (s : Sp) (hs : s.Wf) (cv : Value) (cap fuel : Int) (hcv : ∃ ao n c, cv = .slice ao n c) (w : World) : Calls Try.prog 15 #[.agg (stV s).toArray, gameV cv cap fuel] w fun e w' => e = .returned (.tuple (resR s cap)) ∧ Below w.heap.size w w' := by
  obtain ⟨ao, n, c, rfl⟩ := hcv
  have k0 := hid_into (stV_c hs).frame
  have k18 := hid_into (stV_c hs).over
  have k19 := hid_into (stV_c hs).win
  have HR : Hid (resR s cap = if s.over = true then #[.int .i64 (if s.win = 2 then 0 else s.win), .int .i64 (if s.frame = cap then 2 else 1), .bool true] else #[.int .i64 0, .int .i64 0, .bool false]) := rfl
  generalize resR s cap = R at HR ⊢
  generalize stV s = cs at k0 k18 k19 ⊢
  clear hs
  obtain ⟨fr, cells, seed, over, win⟩ := s
  simp only at HR k0 k18 k19
  unfold gameV
  cases over with
  | false =>
    rw [if_neg (by simp)] at HR
    rw [HR.out]
    go_enter Try.func15, Try.ntmps15
    go_wp2_with (refine wpList_box_row rfl 30 (.tmp 0) rfl cs rfl ?_; intro W1 hc1 B1 HS1; have G := hid_into (Sg.make (cv := .slice ao n c) (cap := cap) (fuel := fuel) hc1 B1 HS1.out); have q0 := (G.out.s.cell 0).trans k0.out; have q1 := (G.out.s.cell 18).trans k18.out; have q2 := (G.out.s.cell 19).trans k19.out)
    go_ret3
    exact ⟨rfl, G.out.below⟩
  | true =>
    rw [if_pos rfl] at HR
    by_cases h1 : win = 2
    · subst h1
      by_cases h2 : fr = cap
      · subst h2
        rw [if_pos rfl, if_pos rfl] at HR
        rw [HR.out]
        go_enter Try.func15, Try.ntmps15
        go_wp2_with (refine wpList_box_row rfl 30 (.tmp 0) rfl cs rfl ?_; intro W1 hc1 B1 HS1; have G := hid_into (Sg.make (cv := .slice ao n c) (cap := fr) (fuel := fuel) hc1 B1 HS1.out); have q0 := (G.out.s.cell 0).trans k0.out; have q1 := (G.out.s.cell 18).trans k18.out; have q2 := (G.out.s.cell 19).trans k19.out)
        go_ret3
        exact ⟨rfl, G.out.below⟩
      · have h2' : (fr == cap) = false := by simp [h2]
        rw [if_pos rfl, if_neg h2] at HR
        rw [HR.out]
        go_enter Try.func15, Try.ntmps15
        go_wp2_with (refine wpList_box_row rfl 30 (.tmp 0) rfl cs rfl ?_; intro W1 hc1 B1 HS1; have G := hid_into (Sg.make (cv := .slice ao n c) (cap := cap) (fuel := fuel) hc1 B1 HS1.out); have q0 := (G.out.s.cell 0).trans k0.out; have q1 := (G.out.s.cell 18).trans k18.out; have q2 := (G.out.s.cell 19).trans k19.out)
        go_ret3
        exact ⟨rfl, G.out.below⟩
    · have h1' : (win == 2) = false := by simp [h1]
      by_cases h2 : fr = cap
      · subst h2
        rw [if_neg h1, if_pos rfl] at HR
        rw [HR.out]
        go_enter Try.func15, Try.ntmps15
        go_wp2_with (refine wpList_box_row rfl 30 (.tmp 0) rfl cs rfl ?_; intro W1 hc1 B1 HS1; have G := hid_into (Sg.make (cv := .slice ao n c) (cap := fr) (fuel := fuel) hc1 B1 HS1.out); have q0 := (G.out.s.cell 0).trans k0.out; have q1 := (G.out.s.cell 18).trans k18.out; have q2 := (G.out.s.cell 19).trans k19.out)
        go_ret3
        exact ⟨rfl, G.out.below⟩
      · have h2' : (fr == cap) = false := by simp [h2]
        rw [if_neg h1, if_neg h2] at HR
        rw [HR.out]
        go_enter Try.func15, Try.ntmps15
        go_wp2_with (refine wpList_box_row rfl 30 (.tmp 0) rfl cs rfl ?_; intro W1 hc1 B1 HS1; have G := hid_into (Sg.make (cv := .slice ao n c) (cap := cap) (fuel := fuel) hc1 B1 HS1.out); have q0 := (G.out.s.cell 0).trans k0.out; have q1 := (G.out.s.cell 18).trans k18.out; have q2 := (G.out.s.cell 19).trans k19.out)
        go_ret3
        exact ⟨rfl, G.out.below⟩
/-- Is that more than is looked at? -/
def hvy (n m : Nat) : Bool := decide (300 < n ∨ 100 < m)
theorem heavy_any (ao ai : Option Addr) (n cp m ci : Nat) (cap fuel : Int) (w : World) : Calls Try.prog 9 #[.agg #[.slice ao n cp, .int .i64 cap, .int .i64 fuel], .slice ai m ci] w fun e w' => e = .returned (.bool (hvy n m)) ∧ Below w.heap.size w w' := by
  by_cases h1 : 300 < n
  · have h1' : (300 : Int) < n := by omega
    rw [show hvy n m = true by simp [hvy, h1]]
    go_enter Try.func9, Try.ntmps9
    go_wp2
    go_ret
    exact ⟨rfl, (Below.refl _ _).alloc (Nat.le_refl _) _⟩
  · have h1' : (n : Int) ≤ 300 := by omega
    by_cases h2 : 100 < m
    · have h2' : (100 : Int) < m := by omega
      rw [show hvy n m = true by simp [hvy, h2]]
      go_enter Try.func9, Try.ntmps9
      go_wp2
      go_ret
      exact ⟨rfl, (Below.refl _ _).alloc (Nat.le_refl _) _⟩
    · have h2' : (m : Int) ≤ 100 := by omega
      rw [show hvy n m = false by simp [hvy]; omega]


      go_enter Try.func9, Try.ntmps9
      go_wp2
      go_ret
      exact ⟨by simp [Array.getD]; omega, (Below.refl _ _).alloc (Nat.le_refl _) _⟩
theorem Try.size24 : (Try.prog.info? 24).map (·.size) = some 3 := by kernel_rfl
/-- A game that adds up what player 0 does. -/
def acode : List Ii := [(2, 0), (16, 0), (4, 0), (3, 0)]
theorem adder_any (limit : Int) (w : World) : Calls Try.prog 19 #[.int .i64 limit] w fun e w' => ∃ g, e = .returned (.agg #[.slice (some ⟨g, 0, none⟩) 4 4, .int .i64 limit, .int .i64 9]) ∧ Ls w' (.slice (some ⟨g, 0, none⟩) 4 4) acode ∧ Below w.heap.size w w' := by
  go_enter Try.func19, Try.ntmps19
  go_wp2_with fail
  have h1 : Cw ((w.alloc (.cells #[.slice (some ⟨w.heap.size + 1, 0, none⟩) 4 4, .int .i64 limit, .int .i64 9] 24)).alloc (.cells #[.int .i64 2, .int .i64 0, .int .i64 16, .int .i64 0, .int .i64 4, .int .i64 0, .int .i64 3, .int .i64 0] 70)) w.heap.size [.slice (some ⟨w.heap.size + 1, 0, none⟩) 4 4, .int .i64 limit, .int .i64 9] 24 := (Cw.new w [.slice (some ⟨w.heap.size + 1, 0, none⟩) 4 4, .int .i64 limit, .int .i64 9] 24).alloc _
  have h2 := Cw.new (w.alloc (.cells #[.slice (some ⟨w.heap.size + 1, 0, none⟩) 4 4, .int .i64 limit, .int .i64 9] 24)) (cells2 acode) 70
  rw [World.size_alloc] at h2
  refine ret_row rfl rfl rfl h1 Try.underlying24 rfl (hid_into Try.size24) ⟨w.heap.size + 1, rfl, Ls_of_block h2 (by unfold maxLen; decide), ((Below.refl w.heap.size w).alloc (Nat.le_refl _) _).alloc (by rw [World.size_alloc]; omega) _⟩
/-- The players' inputs that known tries. -/
def kps : List (Int × Int) := [(1, 0), (1, 0), (9, 9)]
def kend : Sp := ⟨2, [2, 0, 0, 0, 0, 0, 0, 0, 0, 0, 0, 0, 0, 0, 0, 0], 1, true, 0⟩
theorem kplay : playE acode 2 9 1 kps = (kend, 0) := by rfl
theorem kend_wf : kend.Wf := ⟨rfl, by intro x hx; simp only [kend, List.mem_cons, List.not_mem_nil, or_false, or_self] at hx; rcases hx with rfl | rfl; exact ⟨by omega, by omega⟩; exact zero_in, by show (0 : Int) ≤ 1 ∧ (1 : Int) < 4294967296; omega⟩
theorem kps_in : InP kps := by
  intro p hp
  simp only [kps, List.mem_cons, List.not_mem_nil, or_false] at hp
  rcases hp with rfl | rfl | rfl <;> exact ⟨⟨by omega, by omega⟩, ⟨by omega, by omega⟩⟩
theorem kres : resR kend 2 = #[.int .i64 0, .int .i64 2, .bool true] := rfl
set_option maxRecDepth 20000 in
set_option maxHeartbeats 1000000 in
theorem known_any (w : World) : Calls Try.prog 16 #[] w fun e w' => e = .returned (.bool true) ∧ Below w.heap.size w w' := by
  have CA : Hid (∀ W, Calls Try.prog 19 #[.int .i64 2] W fun e w' => ∃ g, e = .returned (.agg #[.slice (some ⟨g, 0, none⟩) 4 4, .int .i64 2, .int .i64 9]) ∧ Ls w' (.slice (some ⟨g, 0, none⟩) 4 4) acode ∧ Below W.heap.size W w') := fun W => adder_any 2 W
  have CP : Hid (∀ W cv, Ls W cv acode → ∀ V, Below W.heap.size W V → Cw V W.heap.size (cellsP kps) 43 → Calls Try.prog 10 #[.agg #[cv, .int .i64 2, .int .i64 9], .int .u32 1, .slice (some ⟨W.heap.size, 0, none⟩) 3 3] V fun e w' => e = .returned (.tuple #[.agg (stV kend).toArray, .int .i64 0]) ∧ Below V.heap.size V w') := fun W cv h V hV hC => by
    have h1 := Play_any cv acode 2 9 1 _ kps V (h.below hV) (Ps_of_block hC (by unfold maxLen; decide)) kps_in (by omega)
    rw [kplay] at h1
    exact h1
  have CR : Hid (∀ W g, Calls Try.prog 14 #[.agg (stV kend).toArray, .agg #[.slice (some ⟨g, 0, none⟩) 4 4, .int .i64 2, .int .i64 9]] W fun e w' => e = .returned (.tuple #[.int .i64 0, .int .i64 2, .bool true]) ∧ Below W.heap.size W w') := fun W g => Result_any kend kend_wf _ 2 9 ⟨_, _, _, rfl⟩ W
  have L1 := st_len kend_wf
  have O1 := st_one kend_wf
  have Z1 := st_size kend_wf
  have C1 := hid_into (stV_c kend_wf)
  have HZ : Hid ((Try.prog.info? 30).bind (·.zero) = some (.agg zeroS.toArray)) := Try.zero30
  have ZS := zeroS_size
  generalize hs1 : stV kend = s1 at CP CR L1 O1 Z1 C1
  clear hs1
  go_enter Try.func16, Try.ntmps16
  go_upto_region 2 with (go_big_may; first
    | (go_at_call 19; refine (CA.out _).mono ?_; rintro e w1 ⟨g1, rfl, hL1, B1⟩; have HL1 := hid_into hL1; have HB1 := hid_into B1; clear B1 hL1)
    | (go_at_call 10; refine (CP.out w1 _ HL1.out (w1.alloc (.cells #[.int .u16 1, .int .u16 0, .int .u16 1, .int .u16 0, .int .u16 9, .int .u16 9] 43)) ((Below.refl _ _).alloc (Nat.le_refl _) _) (Cw.new _ _ _)).mono ?_; rintro e w2 ⟨rfl, B2⟩; have HB2 : Hid (Below w.heap.size w w2) := (HB1.out.alloc HB1.out.size _).trans (B2.mono (by have := HB1.out.size; rw [World.size_alloc]; omega)); clear B2)
    | (refine wpList_alloc_row rfl 30 rfl zeroS HZ.out ?_; intro W3 hn3 B3 HS3)
    | (refine wpList_store_rw rfl 30 (.tmp 1) (.tmp 13) rfl w2.heap.size zeroS s1 30 rfl rfl ?_ ZS L1 O1.out ?_; exact hn3; intro W4 hn4 O4; have HB4 : Hid (Below w.heap.size w W4) := (HB2.out.trans (B3.mono HB2.out.size)).trans (O4.below HB2.out.size); have HN4 := hid_into hn4; clear B3 hn3 HS3 O4 hn4))
  have HSk : Hid (∀ V, Below W4.heap.size W4 V → V.rangeAt w2.heap.size 0 s1) := fun V hV => (HN4.out.below hV HN4.out.lt).range
  have S1 := HSk.out W4.drew (Below.refl _ _).drew
  have HB0 : Hid (Below W4.heap.size W4 W4.drew) := (Below.refl _ _).drew
  refine wp_region_held (S := fun V => V.rangeAt w2.heap.size 0 s1) (by kernel_rfl) ?_
  change wpAnyH _ _ _ _ _ _ _ _ (World.drew _)
  refine wpAnyH_take (i := 0) (v := .agg s1.toArray) rfl (by kernel_rfl) (by kernel_rfl) (by kernel_rfl) (fun _ _ _ h => h) (yieldsIf_load_mid (by kernel_rfl) 30 (.tmp 1) rfl w2.heap.size 0 rfl s1 _ (fun V h => h) Try.underlying30 rfl Z1.out) S1 ?_
  refine wpAnyH_ready (rs := [1]) (by kernel_rfl) (by simp) ?_
  refine AllReadyH.cons rfl (fun KK hK => ?_) AllReadyH.nil
  go_simp
  refine (CA.out _).mono ?_
  rintro e w5 ⟨g5, rfl, _, Bx⟩
  have HB5 := hid_into (HB0.out.trans (Bx.mono HB0.out.size))
  have S2 := HSk.out w5 HB5.out
  dsimp only
  refine hK.out _ _ (by exact S2) (fun _ => ?_)
  clear hK KK Bx
  refine wpAnyH_ready (rs := [2]) (by kernel_rfl) (by simp) ?_
  refine AllReadyH.cons rfl (fun KK hK => ?_) AllReadyH.nil
  go_simp
  refine (CR.out _ _).mono ?_
  rintro e w6 ⟨rfl, Bx⟩
  have HB6 := hid_into (HB5.out.trans (Bx.mono HB5.out.size))
  have S3 := HSk.out w6 HB6.out
  dsimp only
  refine hK.out _ _ (by exact S3) (fun _ => ?_)
  clear hK KK Bx
  refine wpAnyH_take (i := 3) (v := .tuple #[.int .i64 0, .int .i64 2, .bool true]) rfl (by kernel_rfl) (by kernel_rfl) (by kernel_rfl) (fun _ _ _ h => h) (Or.inl ⟨by kernel_rfl, by intro V _; go_simp⟩) S3 ?_
  refine wpAnyH_take (i := 4) (v := .int .i64 0) rfl (by kernel_rfl) (by kernel_rfl) (by kernel_rfl) (fun _ _ _ h => h) (Or.inl ⟨by kernel_rfl, by intro V _; go_simp⟩) S3 ?_
  refine wpAnyH_take (i := 5) (v := .int .i64 2) rfl (by kernel_rfl) (by kernel_rfl) (by kernel_rfl) (fun _ _ _ h => h) (Or.inl ⟨by kernel_rfl, by intro V _; go_simp⟩) S3 ?_
  refine wpAnyH_take (i := 6) (v := .bool true) rfl (by kernel_rfl) (by kernel_rfl) (by kernel_rfl) (fun _ _ _ h => h) (Or.inl ⟨by kernel_rfl, by intro V _; go_simp⟩) S3 ?_
  refine wpAnyH_take (i := 7) (v := .int .i64 0) rfl (by kernel_rfl) (by kernel_rfl) (by kernel_rfl) (fun _ _ _ h => h) (Or.inl ⟨by kernel_rfl, by intro V _; go_simp⟩) S3 ?_
  refine wpAnyH_take (i := 8) (v := .int .i64 2) rfl (by kernel_rfl) (by kernel_rfl) (by kernel_rfl) (fun _ _ _ h => h) (Or.inl ⟨by kernel_rfl, by intro V _; go_simp⟩) S3 ?_
  refine wpAnyH_take (i := 9) (v := .bool true) rfl (by kernel_rfl) (by kernel_rfl) (by kernel_rfl) (fun _ _ _ h => h) (Or.inl ⟨by kernel_rfl, by intro V _; go_simp⟩) S3 ?_
  refine wpAnyH_done (by kernel_rfl) ?_ _
  have t1 := ((HN4.out.below HB6.out HN4.out.lt).cell 1).trans (C1.out.cell 0 (by omega))
  have t2 := ((HN4.out.below HB6.out HN4.out.lt).cell 18).trans C1.out.over
  simp only [kend, List.getD_cons_zero] at t1 t2
  go_wp2_with fail
  go_ret
  exact ⟨rfl, HB4.out.trans (HB6.out.mono HB4.out.size)⟩
end Go.Proofs.Ytgnbcalfojifnaa
