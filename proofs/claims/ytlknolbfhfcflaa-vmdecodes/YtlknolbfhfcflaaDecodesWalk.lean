/-
  VmDecodes, its walk.
-/
import Derived.Test.YtlknolbfhfcflaaRDecW
import Derived.Test.YtlknolbfhfcflaaEncW
import Derived.Test.YtlknolbfhfcflaaKnown
namespace Go.Proofs.Ytlknolbfhfcflaa
open Go.RowKit Oc
theorem Ow.below' {w w' : World} {base : Nat} {v : Value} {zs : List Int} (h : Ow w base v zs) (hb : Below w.heap.size w w') : Ow w' base v zs := by
  refine ⟨h.1, ?_⟩
  rcases h.2 with h2 | ⟨g, cap, cur, rfl, hg, hh, rest⟩
  · exact Or.inl h2
  · exact Or.inr ⟨g, cap, cur, rfl, hg, by rw [hb.block g (Array.getElem?_eq_some_iff.1 hh).1]; exact hh, rest⟩
def NilW (_ : World) : Prop := True
/-- The variables of the law: both states; the copy with room. -/
structure Lv (w W : World) (g cap : Nat) (zs : List Int) (T : World → Prop) : Prop where
  ow : Ow W w.heap.size (.slice (some ⟨g, 0, none⟩) (zs.length + 1) cap) (zs ++ [171])
  below : Below w.heap.size w W
  t : T W
  st : ∀ V V' : World, T V → (∀ k, k < V.heap.size → V'.heap[k]? = V.heap[k]?) → T V'
section
variable {w W W' : World} {g cap : Nat} {zs : List Int} {T : World → Prop}
theorem Lv.next (h : Lv w W g cap zs T) (hb : Below W.heap.size W W') : Lv w W' g cap zs T := ⟨Ow.below' h.ow hb, h.below.trans (hb.mono h.below.size), h.st _ _ h.t fun k hk => hb.block k hk, h.st⟩
theorem Lv.sm (h : Lv w W g cap zs T) (hs : Oc.Sm W W') : Lv w W' g cap zs T := h.next (hs.below _)
theorem Lv.fresh {W1 W2 : World} {cs : List Value} (h : Lv w W g cap zs T) (B : Below W.heap.size W W1) (O : Only W.heap.size W1 W2) (hc : Cw W2 W.heap.size cs 28) : Lv w W2 g cap zs fun V => T V ∧ Cw V W.heap.size cs 28 := by
  have hk : ∀ k, k < W.heap.size → W2.heap[k]? = W.heap[k]? := fun k hk => (O.block k (by omega)).trans (B.block k hk)
  refine ⟨?_, (h.below.trans (B.mono h.below.size)).trans (O.below h.below.size), ⟨h.st _ _ h.t hk, hc⟩, fun V V' hT hk2 => ⟨h.st _ _ hT.1 hk2, hT.2.keep (hk2 _ hT.2.lt)⟩⟩
  have hb : Below W.heap.size W W2 := B.trans (O.below (Nat.le_refl _))
  exact Ow.below' h.ow hb
end
set_option maxRecDepth 20000 in
set_option maxHeartbeats 8000000 in
theorem decodes_walk (sv : Value) (zs : List Int) (w : World) (hb : Bs w sv zs) (hz : Byt zs) (hown : ∀ k, sv.ownBlock = some k → k < w.heap.size) :
    Calls Try.prog 5 #[sv] w fun e w' => e = .returned (.bool true) ∧ Below w.heap.size w w' := by
  obtain ⟨ao, cp, rfl, hm⟩ := hb.len
  by_cases h1 : 1000 < zs.length
  · have h1' : (1000 : Int) < zs.length := by omega
    go_enter Try.func5, Try.ntmps5
    go_wp2
    go_ret
    exact ⟨rfl, Below.refl _ _⟩
  have h1' : (zs.length : Int) ≤ 1000 := by omega
  have C15 := hid_into (roomy_any (.slice ao zs.length cp) zs w hb (by omega))
  have C16 : Hid (∀ W sv, Bs W sv zs → Calls Try.prog 16 #[sv] W fun e w' => e = .returned (.tuple #[.agg (stV (decP zs).1).toArray, .int .i64 (decP zs).2]) ∧ Below W.heap.size W w') := fun W sv h => Decode_any sv zs W h hz (by omega)
  have C17 : Hid (∀ W, Below w.heap.size w W → Calls Try.prog 17 #[.slice ao zs.length cp] W fun e w' => e = .returned (.tuple #[.agg (stV (decP zs).1).toArray, .int .i64 (decP zs).2]) ∧ Below W.heap.size W w') := fun W hW => rDecode_any _ zs W (hb.below hW (Nat.le_refl _)) hz (fun k hk => Nat.lt_of_lt_of_le (hown k hk) hW.size)
  have C18 : Hid (∀ W base g cap, Ow W base (.slice (some ⟨g, 0, none⟩) (zs.length + 1) cap) (zs ++ [171]) → Below w.heap.size w W → Calls Try.prog 18 #[.slice (some ⟨g, 0, none⟩) (zs.length + 1) cap, .slice ao zs.length cp] W fun e w' => e = .returned (.bool true) ∧ Oc.Sm W w') := fun W base g cap h hW => stands_any base g cap _ zs W h (hb.below hW (Nat.le_refl _)) (by omega)
  have hwf := decP_wf hz
  have C20 : Hid ((decP zs).2 = 0 → ∀ W, Calls Try.prog 20 #[.agg (stV (decP zs).1).toArray] W fun e w' => ∃ ao cap, e = .returned (.slice ao zs.length cap) ∧ Ow w' W.heap.size (.slice ao zs.length cap) zs ∧ Below W.heap.size W w') := fun he W => by
    have hfr : 0 ≤ (decP zs).1.frame ∧ (decP zs).1.frame ≤ 600 := by
      unfold decP at he ⊢
      by_cases h2 : dE zs ≠ 0
      · rw [if_pos h2] at he; exact absurd he h2
      · rw [if_neg h2] at he ⊢
        by_cases h3 : 1 < dOv zs ∨ isS (dS zs) = false
        · rw [if_pos h3] at he; cases he
        · rw [if_neg h3]
          have hi : isS (dS zs) = true := by cases e : isS (dS zs) with | true => rfl | false => exact absurd (Or.inr e) h3
          simp only [isS, decide_eq_true_eq] at hi
          exact ⟨hi.1, hi.2.1⟩
    have h := Encode_any (decP zs).1 hwf (by omega) (by omega) W
    rw [dec_back hz he] at h
    exact h
  have C19 : Hid (∀ W va, Bs W va zs → Below w.heap.size w W → Calls Try.prog 19 #[va, .slice ao zs.length cp] W fun e w' => e = .returned (.bool true) ∧ Oc.Sm W w') := fun W va h hW => by
    have h9 := same_any va _ zs zs W h (hb.below hW (Nat.le_refl _))
    rw [show eqB zs zs = true by simp [eqB]] at h9
    exact h9
  have CK := hid_into known_any
  have HN := st_size hwf
  have HL := st_len hwf
  have HO := st_one hwf
  have HEq := hid_into (run_eqS _ _ hwf hwf)
  rw [eqS_same] at HEq
  have HZ : Hid ((Try.prog.info? 28).bind (·.zero) = some (.agg zeroS.toArray)) := Try.zero28
  have ZS := zeroS_size
  generalize stV (decP zs).1 = es at C16 C17 C20 HN HL HO HEq
  generalize (decP zs).2 = er at C16 C17 C20
  have hwf' := hid_into hz
  clear hwf hb hown hm hz
  by_cases he : er = 0
  · subst he
    have C20' := hid_into (C20.out rfl)
    clear C20
    go_enter Try.func5, Try.ntmps5
    go_wp2_with fail
    refine C15.out.mono ?_
    rintro e w1 ⟨g, cap, rfl, hO1, B1, hg1, hc1⟩
    have L1 : Hid (Lv w w1 g cap zs NilW) := ⟨hO1, B1, trivial, fun _ _ _ _ => trivial⟩
    have hcap : zs.length ≤ cap := by omega
    have hcap' : (zs.length : Int) ≤ cap := by omega
    have HBf : Hid (Bs w1 (.slice (some ⟨g, 0, none⟩) zs.length cap) zs) := by
      have h := Bs.front hO1.bs zs.length (by simp)
      rw [List.take_left' rfl] at h
      exact h
    clear hO1 B1 C15 hg1 hc1
    go_wp2_with (first
      | (go_at_call 16; refine (C16.out _ _ HBf.out).mono ?_; rintro e w2 ⟨rfl, B2⟩; have L2 := hid_into (L1.out.next B2); clear B2 L1)
      | (have _l := L2; refine wpList_alloc_row rfl 28 rfl zeroS HZ.out ?_; intro W3 hn3 B3 _)
      | (refine wpList_store_rw rfl 28 (.tmp 4) (.tmp 19) rfl w2.heap.size zeroS es 28 rfl rfl ?_ ZS HL HO.out ?_; exact hn3; intro W4 hn4 O4; have L4 := hid_into (L2.out.fresh B3 O4 hn4); clear L2 B3 O4 hn4 hn3)
      | (go_at_call 17; refine (C17.out _ L4.out.below).mono ?_; rintro e w5 ⟨rfl, B5⟩; have L5 := hid_into (L4.out.next B5); clear B5 L4)
      | (have _l := L5; refine wpList_alloc_row rfl 28 rfl zeroS HZ.out ?_; intro W6 hn6 B6 _)
      | (refine wpList_store_rw rfl 28 (.tmp 6) (.tmp 24) rfl w5.heap.size zeroS es 28 rfl rfl ?_ ZS HL HO.out ?_; exact hn6; intro W7 hn7 O7; have L7 := hid_into (L5.out.fresh B6 O7 hn7); clear L5 B6 O7 hn7 hn6)
      | (refine wpList_load_rw rfl 28 (.tmp 4) rfl w2.heap.size es 28 _ rfl ?_ Try.underlying28 rfl HN ?_; exact L7.out.t.1.2)
      | (refine wpList_load_rw rfl 28 (.tmp 6) rfl w5.heap.size es 28 _ rfl ?_ Try.underlying28 rfl HN ?_; exact L7.out.t.2)
      | (refine wpList_neq28 (by kernel_rfl) (.tmp 26) (.tmp 27) rfl es es true HEq rfl rfl ?_)
      | (go_at_call 18; refine (C18.out _ _ _ _ L7.out.ow L7.out.below).mono ?_; rintro e w8 ⟨rfl, hs8⟩; replace L7 := hid_into (L7.out.sm hs8); clear hs8)
      | (refine wpList_load_rwG (by kernel_rfl) 28 (.tmp 4) rfl w2.heap.size es 28 _ rfl ?_ Try.underlying28 rfl HN ?_; exact L7.out.t.1.2)
      | (go_at_call 20; refine (C20'.out _).mono ?_; rintro e w9 ⟨ae, ce, rfl, ho9, B9⟩; have HO9 := hid_into ho9; replace L7 := hid_into (L7.out.next B9); clear ho9 B9)
      | (go_at_call 19; refine (C19.out _ _ HO9.out.bs L7.out.below).mono ?_; rintro e w10 ⟨rfl, hs10⟩; replace L7 := hid_into (L7.out.sm hs10); clear hs10)
      | (go_at_call 12; refine (CK.out _).mono ?_; rintro e w11 ⟨rfl, B11⟩; replace L7 := hid_into (L7.out.next B11); clear B11))
    go_ret
    exact ⟨rfl, L7.out.below⟩
  · have he' : (er != 0) = true := by simp [he]
    clear C20 C19
    go_enter Try.func5, Try.ntmps5
    go_wp2_with fail
    refine C15.out.mono ?_
    rintro e w1 ⟨g, cap, rfl, hO1, B1, hg1, hc1⟩
    have L1 : Hid (Lv w w1 g cap zs NilW) := ⟨hO1, B1, trivial, fun _ _ _ _ => trivial⟩
    have hcap : zs.length ≤ cap := by omega
    have hcap' : (zs.length : Int) ≤ cap := by omega
    have HBf : Hid (Bs w1 (.slice (some ⟨g, 0, none⟩) zs.length cap) zs) := by
      have h := Bs.front hO1.bs zs.length (by simp)
      rw [List.take_left' rfl] at h
      exact h
    clear hO1 B1 C15 hg1 hc1
    go_wp2_with (first
      | (go_at_call 16; refine (C16.out _ _ HBf.out).mono ?_; rintro e w2 ⟨rfl, B2⟩; have L2 := hid_into (L1.out.next B2); clear B2 L1)
      | (have _l := L2; refine wpList_alloc_row rfl 28 rfl zeroS HZ.out ?_; intro W3 hn3 B3 _)
      | (refine wpList_store_rw rfl 28 (.tmp 4) (.tmp 19) rfl w2.heap.size zeroS es 28 rfl rfl ?_ ZS HL HO.out ?_; exact hn3; intro W4 hn4 O4; have L4 := hid_into (L2.out.fresh B3 O4 hn4); clear L2 B3 O4 hn4 hn3)
      | (go_at_call 17; refine (C17.out _ L4.out.below).mono ?_; rintro e w5 ⟨rfl, B5⟩; have L5 := hid_into (L4.out.next B5); clear B5 L4)
      | (have _l := L5; refine wpList_alloc_row rfl 28 rfl zeroS HZ.out ?_; intro W6 hn6 B6 _)
      | (refine wpList_store_rw rfl 28 (.tmp 6) (.tmp 24) rfl w5.heap.size zeroS es 28 rfl rfl ?_ ZS HL HO.out ?_; exact hn6; intro W7 hn7 O7; have L7 := hid_into (L5.out.fresh B6 O7 hn7); clear L5 B6 O7 hn7 hn6)
      | (refine wpList_load_rw rfl 28 (.tmp 4) rfl w2.heap.size es 28 _ rfl ?_ Try.underlying28 rfl HN ?_; exact L7.out.t.1.2)
      | (refine wpList_load_rw rfl 28 (.tmp 6) rfl w5.heap.size es 28 _ rfl ?_ Try.underlying28 rfl HN ?_; exact L7.out.t.2)
      | (refine wpList_neq28 (by kernel_rfl) (.tmp 26) (.tmp 27) rfl es es true HEq rfl rfl ?_)
      | (go_at_call 18; refine (C18.out _ _ _ _ L7.out.ow L7.out.below).mono ?_; rintro e w8 ⟨rfl, hs8⟩; replace L7 := hid_into (L7.out.sm hs8); clear hs8)
      | (go_at_call 12; refine (CK.out _).mono ?_; rintro e w11 ⟨rfl, B11⟩; replace L7 := hid_into (L7.out.next B11); clear B11))
    go_ret
    exact ⟨rfl, L7.out.below⟩
end Go.Proofs.Ytlknolbfhfcflaa
