/-
  Result, the program's and the document's; heavy; adder; by contracts.
-/
import Derived.Test.YtgnbcalfojifnaaPlay
import Derived.Deep.RegionHeld3
namespace Go.Proofs.Ytgnbcalfojifnaa
open Go.RowKit
def winR (s : Sp) : Int := if s.win = 2 then 0 else s.win
def whyR (s : Sp) (cap : Int) : Int := if s.frame = cap then 2 else 1
def resR (s : Sp) (cap : Int) : Array Value := if s.over = true then #[.int .i64 (winR s), .int .i64 (whyR s cap), .bool true] else #[.int .i64 0, .int .i64 0, .bool false]
theorem winnerOf_c (cs : List Value) (s : Sp) (h : StC cs s) (w : World) : Calls Try.prog 25 #[.agg cs.toArray] w fun e w' => e = .returned (.int .i64 (winR s)) ∧ Below w.heap.size w w' := by
  have k19 := hid_into h.win
  clear h
  by_cases h2 : s.win = 2
  · rw [winR, if_pos h2]
    rw [h2] at k19
    go_enter Try.func25, Try.ntmps25
    go_wp2_with (refine wpList_box_row rfl 30 (.tmp 0) rfl cs rfl ?_; intro W1 hc1 B1 HS1; have q4 := (hc1.cell 19).trans k19.out)
    go_ret
    exact ⟨rfl, B1⟩
  · rw [winR, if_neg h2]
    have h2' : (s.win == 2) = false := by simp [h2]
    generalize s.win = wn at k19 h2'
    go_enter Try.func25, Try.ntmps25
    go_wp2_with (refine wpList_box_row rfl 30 (.tmp 0) rfl cs rfl ?_; intro W1 hc1 B1 HS1; have q4 := (hc1.cell 19).trans k19.out)
    go_ret
    exact ⟨rfl, B1⟩
/-- The state and the game as two new rows. -/
structure Sg (w W : World) (cs : List Value) (cv : Value) (cap fuel : Int) : Prop where
  s : Cw W w.heap.size cs 30
  g : Cw W (w.heap.size + 1) [cv, .int .i64 cap, .int .i64 fuel] 24
  below : Below w.heap.size w W
theorem Sg.make {w W1 : World} {cs : List Value} {cv : Value} {cap fuel : Int} (hc1 : Cw W1 w.heap.size cs 30) (B1 : Below w.heap.size w W1) (HS1 : W1.heap.size = w.heap.size + 1) : Sg w (W1.alloc (.cells #[cv, .int .i64 cap, .int .i64 fuel] 24)) cs cv cap fuel := by
  have g1 := Cw.new W1 [cv, .int .i64 cap, .int .i64 fuel] 24
  rw [HS1] at g1
  exact ⟨hc1.alloc _, g1, B1.alloc (by omega) _⟩
theorem Sg.next {w W W' : World} {cs : List Value} {cv : Value} {cap fuel : Int} (h : Sg w W cs cv cap fuel) (hb : Below W.heap.size W W') : Sg w W' cs cv cap fuel := ⟨h.s.below hb h.s.lt, h.g.below hb h.g.lt, h.below.trans (hb.mono h.below.size)⟩
theorem whyOver_c (cs : List Value) (s : Sp) (h : StC cs s) (cv : Value) (cap fuel : Int) (hcv : ∃ ao n c, cv = .slice ao n c) (w : World) : Calls Try.prog 26 #[.agg cs.toArray, .agg #[cv, .int .i64 cap, .int .i64 fuel]] w fun e w' => e = .returned (.int .i64 (whyR s cap)) ∧ Below w.heap.size w w' := by
  obtain ⟨ao, n, c, rfl⟩ := hcv
  have k0 := hid_into h.frame
  clear h
  have hd : ∀ b : Bool, decide (s.frame = cap) = b → (s.frame == cap) = b := fun b hb => by rw [← hb]; by_cases e : s.frame = cap <;> simp [e]
  unfold whyR
  generalize s.frame = fr at k0 hd ⊢
  by_cases h2 : fr = cap
  · subst h2
    rw [if_pos rfl]
    go_enter Try.func26, Try.ntmps26
    go_wp2_with (refine wpList_box_row rfl 30 (.tmp 0) rfl cs rfl ?_; intro W1 hc1 B1 HS1; have G := Sg.make (cv := .slice ao n c) (cap := fr) (fuel := fuel) hc1 B1 HS1.out; have q0 := (G.s.cell 0).trans k0.out; have q1 := G.g.cell 1; have hsz := HS1.out.symm; simp only [List.getElem?_cons_zero, List.getElem?_cons_succ] at q1)
    go_ret
    exact ⟨rfl, G.below⟩
  · rw [if_neg h2]
    have h2' : (fr == cap) = false := by simp [h2]
    go_enter Try.func26, Try.ntmps26
    go_wp2_with (refine wpList_box_row rfl 30 (.tmp 0) rfl cs rfl ?_; intro W1 hc1 B1 HS1; have G := Sg.make (cv := .slice ao n c) (cap := cap) (fuel := fuel) hc1 B1 HS1.out; have q0 := (G.s.cell 0).trans k0.out; have q1 := G.g.cell 1; have hsz := HS1.out.symm; simp only [List.getElem?_cons_zero, List.getElem?_cons_succ] at q1)
    go_ret
    exact ⟨rfl, G.below⟩
set_option maxRecDepth 20000 in
set_option maxHeartbeats 1000000 in
theorem Result_any (s : Sp) (hs : s.Wf) (cv : Value) (cap fuel : Int) (hcv : ∃ ao n c, cv = .slice ao n c) (w : World) : Calls Try.prog 14 #[.agg (stV s).toArray, gameV cv cap fuel] w fun e w' => e = .returned (.tuple (resR s cap)) ∧ Below w.heap.size w w' := by
  have HC := hid_into (stV_c hs)
  obtain ⟨ao, n, c, rfl⟩ := hcv
  have k18 := hid_into (stV_c hs).over
  have HN : Hid ((Try.prog.info? 30).map (·.size) = some (stV s).length) := by rw [(stV_c hs).len]; exact Try.size30
  have C25 : Hid (∀ W, Calls Try.prog 25 #[.agg (stV s).toArray] W fun e w' => e = .returned (.int .i64 (winR s)) ∧ Below W.heap.size W w') := fun W => winnerOf_c _ s HC.out W
  have C26 : Hid (∀ W, Calls Try.prog 26 #[.agg (stV s).toArray, .agg #[.slice ao n c, .int .i64 cap, .int .i64 fuel]] W fun e w' => e = .returned (.int .i64 (whyR s cap)) ∧ Below W.heap.size W w') := fun W => whyOver_c _ s HC.out _ cap fuel ⟨ao, n, c, rfl⟩ W
  have HR : Hid (resR s cap = if s.over = true then #[.int .i64 (winR s), .int .i64 (whyR s cap), .bool true] else #[.int .i64 0, .int .i64 0, .bool false]) := rfl
  generalize resR s cap = R at HR ⊢
  generalize winR s = wi at C25 HR
  generalize whyR s cap = wy at C26 HR
  generalize stV s = cs at HN C25 C26 k18 ⊢
  clear HC hs
  unfold gameV
  cases hov : s.over with
  | false =>
    rw [hov, if_neg (by simp)] at HR
    rw [HR.out]
    rw [hov] at k18
    go_enter Try.func14, Try.ntmps14
    go_wp2_with (refine wpList_box_row rfl 30 (.tmp 0) rfl cs rfl ?_; intro W1 hc1 B1 HS1; have G := hid_into (Sg.make (cv := .slice ao n c) (cap := cap) (fuel := fuel) hc1 B1 HS1.out); have q0 := (G.out.s.cell 18).trans k18.out)
    go_ret3
    exact ⟨rfl, G.out.below⟩
  | true =>
    rw [hov, if_pos rfl] at HR
    rw [HR.out]
    rw [hov] at k18
    go_enter Try.func14, Try.ntmps14
    go_upto_region 3 with (go_big_may; refine wpList_box_row rfl 30 (.tmp 0) rfl cs rfl ?_; intro W1 hc1 B1 HS1; have G := hid_into (Sg.make (cv := .slice ao n c) (cap := cap) (fuel := fuel) hc1 B1 HS1.out); have q0 := (G.out.s.cell 18).trans k18.out; have G2 := hid_into (Cw.new W1 [.slice ao n c, .int .i64 cap, .int .i64 fuel] 24); clear hc1 B1 HS1)
    generalize W1.alloc (.cells #[.slice ao n c, .int .i64 cap, .int .i64 fuel] 24) = W2 at G q0 G2 ⊢
    have HSk : Hid (∀ V, Below W2.heap.size W2 V → (V.cell? ⟨W1.heap.size, 0, none⟩ = some (.slice ao n c) ∧ V.cell? ⟨W1.heap.size, 1, none⟩ = some (.int .i64 cap) ∧ V.cell? ⟨W1.heap.size, 2, none⟩ = some (.int .i64 fuel)) ∧ V.rangeAt w.heap.size 0 cs) := fun V hV => ⟨⟨(G2.out.below hV G2.out.lt).cell 0, (G2.out.below hV G2.out.lt).cell 1, (G2.out.below hV G2.out.lt).cell 2⟩, (G.out.s.below hV G.out.s.lt).range⟩
    have S1 := HSk.out W2.drew (Below.refl _ _).drew
    have HB0 : Hid (Below W2.heap.size W2 W2.drew) := (Below.refl _ _).drew
    refine wp_region_held (S := fun V => (V.cell? ⟨W1.heap.size, 0, none⟩ = some (.slice ao n c) ∧ V.cell? ⟨W1.heap.size, 1, none⟩ = some (.int .i64 cap) ∧ V.cell? ⟨W1.heap.size, 2, none⟩ = some (.int .i64 fuel)) ∧ V.rangeAt w.heap.size 0 cs) (by kernel_rfl) ?_
    change wpAnyH _ _ _ _ _ _ _ _ (World.drew _)
    refine wpAnyH_take (i := 0) (v := .agg cs.toArray) rfl (by kernel_rfl) (by kernel_rfl) (by kernel_rfl) (fun _ _ _ h => h) (yieldsIf_load_mid (by kernel_rfl) 30 (.tmp 2) rfl w.heap.size 0 rfl cs _ (fun V h => h.2) Try.underlying30 rfl HN.out) S1 ?_
    refine wpAnyH_take (i := 2) (v := .agg cs.toArray) rfl (by kernel_rfl) (by kernel_rfl) (by kernel_rfl) (fun _ _ _ h => h) (yieldsIf_load_mid (by kernel_rfl) 30 (.tmp 2) rfl w.heap.size 0 rfl cs _ (fun V h => h.2) Try.underlying30 rfl HN.out) S1 ?_
    refine wpAnyH_take (i := 3) (v := .agg #[.slice ao n c, .int .i64 cap, .int .i64 fuel]) rfl (by kernel_rfl) (by kernel_rfl) (by kernel_rfl) (fun _ _ _ h => h) (Or.inl ⟨by kernel_rfl, by intro V hV; obtain ⟨⟨y0, y1, y2⟩, _⟩ := hV; go_simp⟩) S1 ?_
    refine wpAnyH_ready (rs := [1]) (by kernel_rfl) (by simp) ?_
    refine AllReadyH.cons rfl (fun KK hK => ?_) AllReadyH.nil
    go_simp
    refine (C25.out _).mono ?_
    rintro e w3 ⟨rfl, Bx⟩
    have HB3 := hid_into (HB0.out.trans (Bx.mono HB0.out.size))
    have S3 := HSk.out w3 HB3.out
    dsimp only
    refine hK.out _ _ (by exact S3) (fun _ => ?_)
    clear hK KK Bx
    refine wpAnyH_ready (rs := [4]) (by kernel_rfl) (by simp) ?_
    refine AllReadyH.cons rfl (fun KK hK => ?_) AllReadyH.nil
    go_simp
    refine (C26.out _).mono ?_
    rintro e w4 ⟨rfl, Bx⟩
    have HB4 := hid_into (HB3.out.trans (Bx.mono HB3.out.size))
    have S4 := HSk.out w4 HB4.out
    dsimp only
    refine hK.out _ _ (by exact S4) (fun _ => ?_)
    clear hK KK Bx
    refine wpAnyH_take (i := 5) (v := .int .i64 wi) rfl (by kernel_rfl) (by kernel_rfl) (by kernel_rfl) (fun _ _ _ h => h) (Or.inl ⟨by kernel_rfl, by intro V _; go_simp⟩) S4 ?_
    refine wpAnyH_take (i := 6) (v := .int .i64 wy) rfl (by kernel_rfl) (by kernel_rfl) (by kernel_rfl) (fun _ _ _ h => h) (Or.inl ⟨by kernel_rfl, by intro V _; go_simp⟩) S4 ?_
    refine wpAnyH_take (i := 7) (v := .bool true) rfl (by kernel_rfl) (by kernel_rfl) (by kernel_rfl) (fun _ _ _ h => h) (Or.inl ⟨by kernel_rfl, by intro V _; go_simp⟩) S4 ?_
    refine wpAnyH_done (by kernel_rfl) ?_ _
    go_wp2_with fail
    go_ret3
    exact ⟨rfl, G.out.below.trans (HB4.out.mono G.out.below.size)⟩
end Go.Proofs.Ytgnbcalfojifnaa
