/-
  The program's Net: Give, by contract.
-/
import Derived.Test.YtnfmhcljncdkgaaNetPick
namespace Go.Proofs.Ytnfmhcljncdkgaa
open Go.RowKit
def Gd (m : Mg) : Prop := Byt m.d ∧ m.d.length ≤ maxLen
theorem enters30 : ∀ args w, (callFunc 30 args).run Try.prog w = .ok (.enter 30 args) w := enters_of Try.func30 (by kernel_rfl) rfl
theorem enters32 : ∀ args w, (callFunc 32 args).run Try.prog w = .ok (.enter 32 args) w := enters_of Try.func32 (by kernel_rfl) rfl
theorem enters33 : ∀ args w, (callFunc 33 args).run Try.prog w = .ok (.enter 33 args) w := enters_of Try.func33 (by kernel_rfl) rfl
theorem enters35 : ∀ args w, (callFunc 35 args).run Try.prog w = .ok (.enter 35 args) w := enters_of Try.func35 (by kernel_rfl) rfl
theorem size25 : (Try.prog.info? 25).map (·.size) = some 3 := by kernel_rfl
theorem zero25 : (Try.prog.info? 25).bind (·.zero) = some (.agg [.int .i64 0, .int .i64 0, .slice none 0 0].toArray) := by kernel_rfl
theorem msC_one (a b : Int) (ao : Option Addr) (n c : Nat) : ∀ u ∈ [Value.int .i64 a, .int .i64 b, .slice ao n c], u.oneCell' = true := fun u hu => by
  simp only [List.mem_cons, List.not_mem_nil, or_false] at hu; rcases hu with rfl | rfl | rfl <;> rfl
/-- What the closure of Give leaves. -/
def Gv1 (w : World) (B nb bm : Nat) (v : Value) (L' : List Mg) (m : Mg) (b : Bool) (w' : World) : Prop :=
  b = true ∧ ∃ W v' ao n c, Nx w W B nb v v' L' ∧ Of W w.heap.size (.slice ao n c) m.d ∧ (∀ k, (Value.slice ao n c).ownBlock = some k → ¬ Nf nb v' k) ∧ Cw w' bm [.int .i64 m.fr, .int .i64 m.to, .slice ao n c] 25 ∧ Only bm W w'
set_option maxRecDepth 20000 in
set_option maxHeartbeats 2000000 in
theorem give1_any {w : World} {B nb bn bm : Nat} {v : Value} {A C : List Mg} {m : Mg} (h : Np w B nb v (A ++ m :: C)) (hg : Gd m) (c1 : Cw w bn [.pointer (some ⟨nb, 0, none⟩)] 28) (c2 : Cw w bm [.int .i64 0, .int .i64 0, .slice none 0 0] 25) (hf : ¬ Nf nb v bm) :
    Calls Try.prog 30 #[.int .i64 (A.length : Int), .pointer (some ⟨bn, 0, none⟩), .pointer (some ⟨bm, 0, none⟩)] w fun e w' => ∃ b, e = .returned (.bool b) ∧ Gv1 w B nb bm v (A ++ C) m b w' := by
  have HT := hid_into (take_any h)
  have k1 := c1.cell 0
  simp only [List.getElem?_cons_zero] at k1
  have HC2 := hid_into c2
  have HG := hid_into hg
  have HF := hid_into hf
  clear c1 c2 h hg hf
  go_enter Try.func30, Try.ntmps30
  go_wp2_with (first
    | (go_at_call 31; refine HT.out.mono ?_; rintro e W1 ⟨rfl, v', hx⟩)
    | (refine wpList_alloc_row rfl 59 rfl [.int .i64 0, .int .i64 0, .string ⟨#[]⟩] zero59' ?_; intro W2 d2 hb2 hs2)
    | (refine wpList_store_rw rfl 59 (.tmp 5) (.tmp 8) rfl W1.heap.size _ [.int .i64 m.fr, .int .i64 m.to, .string (strOfNums m.d)] _ (by rfl) (by rfl) d2 size59 rfl (ltC_one m) ?_; intro W3 d3 ho3; have hb3 : Below W1.heap.size W1 W3 := ho3.belowTo hb2 (Nat.le_refl _); clear d2; have e0 := d3.cell 0; have e1 := d3.cell 1; have e2 := d3.cell 2; simp only [List.getElem?_cons_zero, List.getElem?_cons_succ] at e0 e1 e2; obtain ⟨s, W4, hcv, hof, hb4, hs4, ho4, ao, n, c, rfl⟩ := conv_back W3 m.d HG.out.1 HG.out.2; have hcv := hid_into hcv; have c41 := hx.g.cw HC2.out HF.out; have c43 := c41.below hb3 c41.lt; have c44 := c43.below hb4 c43.lt; clear c41 c43)
    | (rw [hcv.out])
    | (have := c44; refine wpList_store_rw rfl 25 (.tmp 2) (.tmp 16) rfl bm _ [.int .i64 m.fr, .int .i64 m.to, .slice ao n c] _ (by rfl) (by rfl) c44 size25 rfl (msC_one _ _ _ _ _) ?_; intro W5 c5 ho5))
  go_ret
  have hb14 : Below W1.heap.size W1 W4 := hb3.trans (hb4.mono hb3.size)
  refine ⟨true, rfl, rfl, W4, v', ao, n, c, hx.post (Gr.of_below hb14 _ fun k h1 h2 => by omega), hof.mono (Nat.le_trans hx.g.size hb3.size), fun k hk hN => ?_, c5, ho5⟩
  have i1 := hx.n.hi k hN
  have i2 := (hof.lt k hk).1
  have i3 := hb3.size
  omega
set_option maxRecDepth 20000 in
set_option maxHeartbeats 2000000 in
theorem give_any {w : World} {B nb : Nat} {v : Value} {L : List Mg} (h : Np w B nb v L) (hL : L ≠ []) (hg : ∀ m ∈ L, Gd m) (pick : Int) :
    Calls Try.prog 15 #[.pointer (some ⟨nb, 0, none⟩), .int .i64 pick] w fun e w' => ∃ m v' ao n c, giveM L pick = some m ∧ e = .returned (.tuple #[.agg #[.int .i64 m.fr, .int .i64 m.to, .slice ao n c], .bool true]) ∧ Nx w w' B nb v v' (giveN L pick) ∧ Of w' w.heap.size (.slice ao n c) m.d ∧ ∀ k, (Value.slice ao n c).ownBlock = some k → ¬ Nf nb v' k := by
  obtain ⟨A, m, C, hLe, hAl, hgm, hgn⟩ := give_cut hL pick
  rw [hgm, hgn]
  have hgd := hg m (by rw [hLe]; simp)
  have HC : Hid (∀ (W : World) (bn bm : Nat), Below w.heap.size w W → Cw W bn [.pointer (some ⟨nb, 0, none⟩)] 28 → Cw W bm [.int .i64 0, .int .i64 0, .slice none 0 0] 25 → w.heap.size ≤ bm →
      Calls Try.prog 29 #[.pointer (some ⟨nb, 0, none⟩), .int .i64 pick, .func (.func 30) #[] #[.pointer (some ⟨bn, 0, none⟩), .pointer (some ⟨bm, 0, none⟩)]] W fun e w' => ∃ b, e = .returned (.bool b) ∧ Gv1 W B nb bm v (A ++ C) m b w') := fun W bn bm hb c1 c2 hm => by
    have hW : Np W B nb v L := h.keep fun k hk => hb.block k (h.hi k hk)
    refine picked_any hW hL pick 30 _ enters30 _ ?_
    rw [← hAl]
    exact give1_any (by rw [← hLe]; exact hW) hgd c1 c2 fun hN => by have := h.hi bm hN; omega
  have HN : Hid (∀ k, Nf nb v k → k < w.heap.size) := h.hi
  clear h hL hg hLe hAl hgm hgn hgd
  go_enter Try.func15, Try.ntmps15
  go_wp2_with (first
    | (have := c1; refine wpList_alloc_row rfl 25 rfl [.int .i64 0, .int .i64 0, .slice none 0 0] zero25 ?_; intro W2 c2 hb2 hs2; have hb20 := hb1.trans (hb2.mono hb1.size); have d0 := (Below.cw_of hb2 c0); have d1 := Below.cw_of hb2 c1; have k0 := d0.cell 0; simp only [List.getElem?_cons_zero] at k0; clear c0 c1)
    | (have c00 := Cw.new w [.pointer (some ⟨nb, 0, none⟩)] 28; refine wpList_alloc_row rfl 25 rfl [.int .i64 0, .int .i64 0, .slice none 0 0] zero25 ?_; intro W1 c1 hb1' hs1; rw [World.size_alloc] at c1; have c0 := Below.cw_of hb1' c00; have hb1 : Below w.heap.size w W1 := ((Below.refl _ _).alloc (Nat.le_refl _) _).trans (hb1'.mono (by rw [World.size_alloc]; omega)); clear c00)
    | (go_at_call 29; refine (HC.out W2 _ _ hb20 d0 c2 hb1.size).mono ?_; rintro e W3 ⟨b, rfl, rfl, W, v', ao, n, c, hx, hof, hne, c5, ho5⟩; have d3 := hx.g.cw d1 (fun hN => by have := HN.out _ hN; omega); have d4 := ho5.cw d3 (by have h1 := hs1.out; rw [World.size_alloc] at h1; omega))
    | (have := c5; refine wpList_load_rw rfl 25 (.tmp 6) rfl W1.heap.size _ _ _ (by rfl) c5 Try.underlying25 rfl size25 ?_)
    | (have := d4; refine wpList_store_rw rfl 25 (.tmp 4) (.tmp 12) rfl (w.heap.size + 1) _ [.int .i64 m.fr, .int .i64 m.to, .slice ao n c] _ (by rfl) (by rfl) d4 size25 rfl (msC_one _ _ _ _ _) ?_; intro W5 c6 ho6)
    | fail)
  have z1 := hs1.out
  rw [World.size_alloc] at z1
  have z2 := hs2.out
  have hfar : ∀ b, w.heap.size ≤ b → b < W2.heap.size → ¬ Nf nb v' b := fun b h1 h2 hN => by
    rcases hN with rfl | hN
    · have := HN.out _ (Or.inl rfl); omega
    · rcases hx.o b hN with h3 | h3
      · have := HN.out _ (Or.inr h3); omega
      · omega
  refine ret_row2 rfl (by rfl) rfl c6 Try.underlying25 rfl size25 ⟨m, v', ao, n, c, rfl, rfl, ?_, ?_, hne⟩
  · exact ((hx.pre (Gr.of_below hb20 _ fun k h1 h2 => by omega)).aside ho5 (by omega) (hfar _ (by omega) (by omega))).aside ho6 (by omega) (hfar _ (by omega) (by omega))
  · refine (hof.keep fun k hk => ?_).mono (Nat.le_trans hb1.size hb2.size)
    have := (hof.lt k hk).1
    rw [ho6.block k (by omega), ho5.block k (by omega)]
theorem give_off {w : World} {p : Value} (C : ∀ W, Below w.heap.size w W → Calls Try.prog 24 #[p] W fun e w' => e = .returned (.int .i64 0) ∧ w' = W) (hp : ∃ a, p = .pointer a) (pick : Int) :
    Calls Try.prog 15 #[p, .int .i64 pick] w fun e w' => e = .returned (.tuple #[.agg #[.int .i64 0, .int .i64 0, .slice none 0 0], .bool false]) ∧ Below w.heap.size w w' := by
  obtain ⟨pa, rfl⟩ := hp
  have HC := hid_into C
  clear C
  go_enter Try.func15, Try.ntmps15
  go_wp2_with (first
    | (have := c1; refine wpList_alloc_row rfl 25 rfl [.int .i64 0, .int .i64 0, .slice none 0 0] zero25 ?_; intro W2 c2 hb2 hs2; have hb20 := hb1.trans (hb2.mono hb1.size); have d0 := (Below.cw_of hb2 c0); have d1 := Below.cw_of hb2 c1; have k0 := d0.cell 0; simp only [List.getElem?_cons_zero] at k0; clear c0 c1)
    | (have c00 := Cw.new w [.pointer pa] 28; refine wpList_alloc_row rfl 25 rfl [.int .i64 0, .int .i64 0, .slice none 0 0] zero25 ?_; intro W1 c1 hb1' hs1; rw [World.size_alloc] at c1; have c0 := Below.cw_of hb1' c00; have hb1 : Below w.heap.size w W1 := ((Below.refl _ _).alloc (Nat.le_refl _) _).trans (hb1'.mono (by rw [World.size_alloc]; omega)); clear c00)
    | (go_at_call 29; refine (picked_none (HC.out W2 hb20) _ _).mono ?_; rintro e W3 ⟨rfl, hw⟩; replace hw := hw.symm; subst hw)
    | (have := c2; refine wpList_load_rw rfl 25 (.tmp 6) rfl W1.heap.size _ _ _ (by rfl) c2 Try.underlying25 rfl size25 ?_)
    | (have := d1; refine wpList_store_rw rfl 25 (.tmp 4) (.tmp 12) rfl (w.heap.size + 1) _ [.int .i64 0, .int .i64 0, .slice none 0 0] _ (by rfl) (by rfl) d1 size25 rfl (msC_one _ _ _ _ _) ?_; intro W5 c6 ho6)
    | fail)
  exact ret_row2 rfl (by rfl) rfl c6 Try.underlying25 rfl size25 ⟨rfl, ho6.belowTo hb20 (by omega)⟩
end Go.Proofs.Ytnfmhcljncdkgaa
