/-
  slices.DeleteFunc on the row of messages, and Drop, by contracts.
-/
import Derived.Test.YtnfmhcljncdkgaaNetDrop
namespace Go.Proofs.Ytnfmhcljncdkgaa
open Go.RowKit
def keepL (node : Int) (L : List Mg) : List Mg := L.filter fun m => !hitB node m
theorem keepL_snoc_no {node : Int} {L : List Mg} {m : Mg} (h : hitB node m = true) : keepL node (L ++ [m]) = keepL node L := by simp [keepL, List.filter_append, h]
theorem keepL_snoc_yes {node : Int} {L : List Mg} {m : Mg} (h : hitB node m = false) : keepL node (L ++ [m]) = keepL node L ++ [m] := by simp [keepL, List.filter_append, h]
theorem keepL_all {node : Int} {L : List Mg} (h : ∀ m ∈ L, hitB node m = false) : keepL node L = L := by
  unfold keepL
  rw [List.filter_eq_self]
  intro m hm
  rw [h m hm]; rfl
theorem zc_one (n : Nat) : ∀ u ∈ (Builtin.zeroCells (Value.agg #[.int .i64 0, .int .i64 0, .string ⟨#[]⟩]).cells n).toList, u.oneCell' = true := fun u hu => by
  unfold Builtin.zeroCells at hu
  rw [Array.toList_map, List.mem_map] at hu
  obtain ⟨i, _, rfl⟩ := hu
  have h3 : i % 3 = 0 ∨ i % 3 = 1 ∨ i % 3 = 2 := by omega
  show ((#[Value.int .i64 0, .int .i64 0, .string ⟨#[]⟩] : Array Value)[i % 3]!).oneCell' = true
  rcases h3 with h | h | h <;> rw [h] <;> rfl
/-- The cells in the middle of DeleteFunc: what is kept, what is written over, what is left to look at. -/
structure Mid (w : World) (g : Nat) (node : Int) (L : List Mg) (rest : List Value) (k i : Nat) (X : List Value) : Prop where
  c : Cw w g (flL (keepL node (L.take k)) ++ (X ++ (flL (L.drop k) ++ rest))) 59
  ii : i = (keepL node (L.take k)).length
  x : X.length = (k - i) * 3
  lt : i < k
  le : k ≤ L.length
theorem take_succ' {L : List Mg} {k : Nat} {m : Mg} (h : L[k]? = some m) : L.take (k + 1) = L.take k ++ [m] ∧ L.drop k = m :: L.drop (k + 1) := by
  obtain ⟨hlt, he⟩ := List.getElem?_eq_some_iff.1 h
  exact ⟨by rw [List.take_add_one, h]; rfl, by rw [← he]; exact List.drop_eq_getElem_cons hlt⟩
theorem Mid.at {w : World} {g : Nat} {node : Int} {L : List Mg} {rest X : List Value} {k i : Nat} {m : Mg} (h : Mid w g node L rest k i X) (hm : L[k]? = some m) : w.cell? ⟨g, k * 3, none⟩ = some (.int .i64 m.fr) ∧ w.cell? ⟨g, k * 3 + 1, none⟩ = some (.int .i64 m.to) ∧ w.cell? ⟨g, k * 3 + 2, none⟩ = some (.string (strOfNums m.d)) := by
  have hc := h.c
  rw [(take_succ' hm).2, flL_cons] at hc
  have hl : (flL (keepL node (L.take k)) ++ X).length = k * 3 := by
    rw [List.length_append, flL_len, ← h.ii, h.x]
    have := h.lt
    omega
  have key : ∀ j u, (ltC m)[j]? = some u → w.cell? ⟨g, k * 3 + j, none⟩ = some u := fun j u hu => by
    rw [hc.cell, ← List.append_assoc, List.getElem?_append_right (by omega), hl, Nat.add_sub_cancel_left, List.append_assoc, List.getElem?_append_left (List.getElem?_eq_some_iff.1 hu).1]
    exact hu
  exact ⟨key 0 _ rfl, key 1 _ rfl, key 2 _ rfl⟩
theorem Mid.keep {w w' : World} {g : Nat} {node : Int} {L : List Mg} {rest X : List Value} {k i : Nat} (h : Mid w g node L rest k i X) (hk : w'.heap[g]? = w.heap[g]?) : Mid w' g node L rest k i X := ⟨h.c.keep hk, h.ii, h.x, h.lt, h.le⟩
/-- One that is hit. -/
theorem Mid.skip {w : World} {g : Nat} {node : Int} {L : List Mg} {rest X : List Value} {k i : Nat} {m : Mg} (h : Mid w g node L rest k i X) (hm : L[k]? = some m) (hh : hitB node m = true) : Mid w g node L rest (k + 1) i (X ++ ltC m) := by
  obtain ⟨h1, h2⟩ := take_succ' hm
  have hk : keepL node (L.take (k + 1)) = keepL node (L.take k) := by rw [h1]; exact keepL_snoc_no hh
  have hlt := (List.getElem?_eq_some_iff.1 hm).1
  refine ⟨?_, by rw [hk]; exact h.ii, ?_, by have := h.lt; omega, hlt⟩
  · rw [hk]
    have := h.c
    rw [h2, flL_cons] at this
    simpa only [List.append_assoc] using this
  · rw [List.length_append, h.x]
    have := h.lt
    simp only [ltC, List.length_cons, List.length_nil]
    omega
/-- One that is kept: it is written over the first that is free. -/
theorem Mid.put {w : World} {g : Nat} {node : Int} {L : List Mg} {rest X : List Value} {k i : Nat} {m : Mg} (h : Mid w g node L rest k i X) (hm : L[k]? = some m) (hh : hitB node m = false) : Mid (w.setCells g (i * 3) (ltC m)) g node L rest (k + 1) (i + 1) (X.drop 3 ++ ltC m) := by
  obtain ⟨h1, h2⟩ := take_succ' hm
  have hk : keepL node (L.take (k + 1)) = keepL node (L.take k) ++ [m] := by rw [h1]; exact keepL_snoc_yes hh
  have hlt := (List.getElem?_eq_some_iff.1 hm).1
  have hx := h.x
  have hil := h.lt
  have hc : Cw w g (flL (keepL node (L.take k)) ++ X.take 3 ++ (X.drop 3 ++ (flL (L.drop k) ++ rest))) 59 := by
    have := h.c
    rw [show X ++ (flL (L.drop k) ++ rest) = X.take 3 ++ (X.drop 3 ++ (flL (L.drop k) ++ rest)) by rw [← List.append_assoc (X.take 3), List.take_append_drop]] at this
    simpa only [List.append_assoc] using this
  have hs := setCells_mid g 59 _ (ltC m) _ _ w hc (by rw [List.length_take]; simp [ltC]; omega)
  rw [flL_len, ← h.ii] at hs
  refine ⟨?_, by rw [hk, List.length_append, ← h.ii]; rfl, ?_, by omega, hlt⟩
  · rw [hk, flL_app]
    rw [h2, flL_cons] at hs
    have e1 : flL [m] = ltC m := by simp [flL]
    rw [e1]
    simpa only [List.append_assoc] using hs
  · rw [List.length_append, List.length_drop, hx]
    simp only [ltC, List.length_cons, List.length_nil]
    omega
theorem Mid.there {w : World} {g : Nat} {node : Int} {L : List Mg} {rest X : List Value} {k i : Nat} (h : Mid w g node L rest k i X) : w.there g (i * 3) 3 := by
  refine h.c.thereAt _ _ ?_
  rw [List.length_append, flL_len, ← h.ii, List.length_append, h.x]
  have := h.lt
  omega
/-- The end. -/
theorem Mid.done {w : World} {g B cap : Nat} {node : Int} {L : List Mg} {rest X : List Value} {i : Nat} (h : Mid w g node L rest L.length i X) (hb : B ≤ g) (hcl : (flL L ++ rest).length = cap * 3) (hcm : cap ≤ maxLen) (zs : List Value) (hz : zs.length = (L.length - i) * 3) :
    w.there g (i * 3) zs.length ∧ Rm (w.setCells g (i * 3) zs) B (.slice (some ⟨g, 0, none⟩) i cap) (keepL node L) := by
  have hc := h.c
  have hi := h.ii
  rw [List.take_of_length_le (Nat.le_refl _)] at hc hi
  rw [List.drop_of_length_le (Nat.le_refl _)] at hc
  have hx := h.x
  have hlt := h.lt
  rw [List.length_append, flL_len] at hcl
  have hc' : Cw w g (flL (keepL node L) ++ X ++ rest) 59 := by simpa only [List.append_assoc, flL, List.flatMap_nil, List.nil_append] using hc
  have hs := setCells_mid g 59 rest zs _ X w hc' (by rw [hx, hz])
  rw [flL_len, ← hi] at hs
  refine ⟨hc'.thereAt _ _ (by rw [List.length_append, List.length_append, flL_len, ← hi, hx, hz]; omega), ?_⟩
  rw [hi]
  rw [hi] at hs
  refine Rm.mk (rest := zs ++ rest) hb hs (by rw [List.append_assoc]) ?_ (by omega) hcm
  rw [List.length_append, List.length_append, flL_len, hz, ← hi]
  omega
theorem Mid.start {w : World} {g : Nat} {node : Int} {L : List Mg} {rest : List Value} {K : Nat} {m : Mg} (h : Cw w g (flL L ++ rest) 59) (hm : L[K]? = some m) (hno : ∀ k m, k < K → L[k]? = some m → hitB node m = false) (hh : hitB node m = true) : Mid w g node L rest (K + 1) K (ltC m) := by
  obtain ⟨h1, h2⟩ := take_succ' hm
  have hlt := (List.getElem?_eq_some_iff.1 hm).1
  have ha : keepL node (L.take K) = L.take K := keepL_all fun x hx => by
    obtain ⟨j, hj⟩ := List.getElem?_of_mem hx
    have hjl := (List.getElem?_eq_some_iff.1 hj).1
    rw [List.length_take] at hjl
    rw [List.getElem?_take] at hj
    rw [if_pos (by omega)] at hj
    exact hno j x (by omega) hj
  have hk : keepL node (L.take (K + 1)) = L.take K := by rw [h1, keepL_snoc_no hh, ha]
  refine ⟨?_, by rw [hk, List.length_take]; omega, by simp [ltC], by omega, hlt⟩
  rw [hk]
  have e : flL L = flL (L.take K) ++ (ltC m ++ flL (L.drop (K + 1))) := by
    rw [← flL_cons, ← h2, ← flL_app, List.take_append_drop]
  rw [e] at h
  simpa only [List.append_assoc] using h
theorem first_hit (node : Int) (L : List Mg) : ∃ K, K ≤ L.length ∧ (∀ k m, k < K → L[k]? = some m → hitB node m = false) ∧ ∀ m, L[K]? = some m → hitB node m = true := by
  refine ⟨L.findIdx (hitB node), List.findIdx_le_length, fun k m hk hm => ?_, fun m hm => ?_⟩
  · obtain ⟨hlt, rfl⟩ := List.getElem?_eq_some_iff.1 hm
    have := List.not_of_lt_findIdx hk
    simpa using this
  · obtain ⟨hlt, rfl⟩ := List.getElem?_eq_some_iff.1 hm
    exact List.findIdx_getElem
set_option maxRecDepth 20000 in
set_option maxHeartbeats 4000000 in
theorem deletef_any {w : World} {B bd : Nat} {node : Int} {v : Value} {L : List Mg} (h : Rm w B v L) (c : Cw w bd [.int .i64 node] 3) (hl : L.length ≤ 1024) (hbd : v.ownBlock ≠ some bd) :
    Calls Try.prog 34 #[v, .func (.func 35) #[] #[.pointer (some ⟨bd, 0, none⟩)]] w fun e w' => ∃ v', e = .returned v' ∧ Rm w' B v' (keepL node L) ∧ v'.ownBlock = v.ownBlock ∧ Gr (fun k => v.ownBlock = some k) w w' := by
  obtain ⟨K, hK, hno, hy⟩ := first_hit node L
  have HI := hid_into (index_any h c hl hK hno hy)
  by_cases hKl : K = L.length
  · rw [if_pos hKl] at HI
    have hall : keepL node L = L := keepL_all fun x hx => by
      obtain ⟨j, hj⟩ := List.getElem?_of_mem hx
      exact hno j x (by have := (List.getElem?_eq_some_iff.1 hj).1; omega) hj
    rw [hall]
    have HR : Hid (∀ W, Gr (fun _ => False) w W → Rm W B v L) := fun W hg => h.grow hg
    obtain ⟨ao, cap, hv⟩ := h.form
    subst hv
    clear h c hno hy hK hKl hall hbd
    go_enter Try.func34, Try.ntmps34
    go_wp2_with (go_at_call 37; refine HI.out.mono ?_; rintro e w1 ⟨rfl, hg⟩)
    go_ret
    exact ⟨_, rfl, HR.out _ hg, rfl, hg.mono fun _ h => h.elim⟩
  · rw [if_neg hKl] at HI
    have hKlt : K < L.length := by omega
    obtain ⟨m, hm⟩ : ∃ m, L[K]? = some m := ⟨_, List.getElem?_eq_getElem hKlt⟩
    obtain ⟨g, cap, rest, hv, hb, hc, hcl, hcap, hcm⟩ := h.spot (fun e => by rw [e] at hKlt; simp at hKlt)
    subst hv
    have HM : Hid (∀ W, Gr (fun _ => False) w W → Mid W g node L rest (K + 1) K (ltC m)) := fun W hg => Mid.start (hg.cw hc fun h => h) hm hno (hy m hm)
    have HC : Hid (∀ (W : World) (m : Mg), Gr (fun b => b = g) w W → Calls Try.prog 35 #[.agg #[.int .i64 m.fr, .int .i64 m.to, .string (strOfNums m.d)], .pointer (some ⟨bd, 0, none⟩)] W fun e w' => e = .returned (.bool (hitB node m)) ∧ Gr (fun _ => False) W w') := fun W m hg =>
      drop1_any (hg.cw c fun e => hbd (by rw [e]; rfl)) m
    have HD : Hid (∀ {W : World} {X : List Value} {i : Nat}, Mid W g node L rest L.length i X → ∀ zs : List Value, zs.length = (L.length - i) * 3 → W.there g (i * 3) zs.length ∧ Rm (W.setCells g (i * 3) zs) B (.slice (some ⟨g, 0, none⟩) i cap) (keepL node L)) := fun hM zs hz => hM.done hb hcl hcm zs hz
    have enc := enters35
    have HGB : Hid (g < w.heap.size) := hc.lt
    unfold maxLen at hcm
    clear h c hno hy hK hKl hm hc hcl hbd hb
    go_enter Try.func34, Try.ntmps34
    have hne : ¬ (K : Int) = -1 := by omega
    go_wp2_with (go_at_call 37; refine HI.out.mono ?_; rintro e w1 ⟨rfl, hg⟩)
    rw [beq_false_of_ne hne]
    go_loopw [5, 6] (fun x y wr => ∃ (k i : Nat) (X : List Value), x = .int .i64 (i : Int) ∧ y = .int .i64 (k : Int) ∧ Hid (Mid wr g node L rest k i X) ∧ i < k ∧ k ≤ L.length ∧ Gr (fun b => b = g) w wr) (fun _ y _ => L.length - (intOf y).toNat)
    case atStart => exact ⟨K + 1, K, ltC m, rfl, by go_num, HM.out _ hg, by omega, by omega, hg.mono fun _ h => h.elim⟩
    case round =>
      obtain ⟨k, i, X, rfl, rfl, hM, hik, hkl, hgr⟩ := hrel
      by_cases hlt : k < L.length
      · obtain ⟨m, hm⟩ : ∃ m, L[k]? = some m := ⟨_, List.getElem?_eq_getElem hlt⟩
        obtain ⟨m0, m1, m2⟩ := hM.out.at hm
        have hlt2 : (k : Int) < (L.length : Int) := by omega
        have hil2 : (i : Int) < (L.length : Int) := by omega
        have hth := hM.out.there
        have HGW : Hid (w.heap.size ≤ wr.heap.size) := hgr.size
        cases hh : hitB node m with
        | true =>
          have HK := hid_into (hM.out.skip hm hh)
          have hc := fun W hg => HC.out W m hg
          simp only [hh] at hc
          have hc := hid_into hc
          clear hm hh
          go_wp2_with (first
            | (go_at_fn 35; refine (hc.out W3 hg3).mono ?_; rintro e W4 ⟨rfl, hg4⟩)
            | (have := d3; refine wpList_load_rw rfl 59 (.tmp 7) rfl wr.heap.size _ _ _ (by rfl) d3 Try.underlying59 rfl size59 ?_)
            | (refine wpList_alloc_row rfl 59 rfl [.int .i64 0, .int .i64 0, .string ⟨#[]⟩] zero59' ?_; intro W2 d2 hb2 hs2)
            | (have := d2; refine wpList_store_rw rfl 59 (.tmp 7) (.tmp 25) rfl wr.heap.size _ [.int .i64 m.fr, .int .i64 m.to, .string (strOfNums m.d)] _ (by rfl) (by rfl) d2 size59 rfl (ltC_one m) ?_; intro W3 d3 ho3; have hb3 : Below wr.heap.size wr W3 := ho3.belowTo hb2 (Nat.le_refl _); clear d2; have hg3 := hgr.trans (Gr.of_below hb3 (fun _ => False) fun k h1 h2 => by omega) fun _ h => h.elim))
          have hg04 := (Gr.of_below hb3 (fun _ => False) fun k h1 h2 => by omega).trans hg4 fun _ h => h.elim
          go_roundw
          case rel => exact ⟨k + 1, i, _, rfl, by go_num, HK.out.keep (hg04.block g (by have := HGB.out; have := HGW.out; omega) fun h => h), by omega, by omega, hgr.trans hg04 fun _ h => h.elim⟩
          case measure => simp [intOf]; omega
        | false =>
          have HK : Hid (∀ W : World, W.heap[g]? = wr.heap[g]? → Mid (W.setCells g (i * 3) [.int .i64 m.fr, .int .i64 m.to, .string (strOfNums m.d)]) g node L rest (k + 1) (i + 1) (X.drop 3 ++ ltC m) ∧ W.there g (i * 3) 3) := fun W hw => ⟨(hM.out.keep hw).put hm hh, (hM.out.keep hw).there⟩
          have hc := fun W hg => HC.out W m hg
          simp only [hh] at hc
          have hc := hid_into hc
          clear hm hh
          go_wp2_with (first
            | (go_at_fn 35; refine (hc.out W3 hg3).mono ?_; rintro e W4 ⟨rfl, hg4⟩; have hg04 := (Gr.of_below hb3 (fun _ => False) fun k h1 h2 => by omega).trans hg4 fun _ h => h.elim; obtain ⟨hmid, hth4⟩ := HK.out W4 (hg04.block g (by have := HGB.out; have := HGW.out; omega) fun h => h); have d4 := hg4.cw d3 (fun h => h); have hmid := hid_into hmid; clear d3)
            | (have := d3; refine wpList_load_rw rfl 59 (.tmp 7) rfl wr.heap.size _ _ _ (by rfl) d3 Try.underlying59 rfl size59 ?_)
            | (have := d4; refine wpList_load_rw rfl 59 (.tmp 7) rfl wr.heap.size _ _ _ (by rfl) d4 Try.underlying59 rfl size59 ?_)
            | (have := d4; refine wpList_store_mid rfl 59 (.tmp 33) (.tmp 32) rfl g (i * 3) #[.int .i64 m.fr, .int .i64 m.to, .string (strOfNums m.d)] (by rfl) (by rfl) hth4 size59 (all_oneCell_toArray (ltC_one m)) ?_)
            | (refine wpList_alloc_row rfl 59 rfl [.int .i64 0, .int .i64 0, .string ⟨#[]⟩] zero59' ?_; intro W2 d2 hb2 hs2)
            | (have := d2; refine wpList_store_rw rfl 59 (.tmp 7) (.tmp 25) rfl wr.heap.size _ [.int .i64 m.fr, .int .i64 m.to, .string (strOfNums m.d)] _ (by rfl) (by rfl) d2 size59 rfl (ltC_one m) ?_; intro W3 d3 ho3; have hb3 : Below wr.heap.size wr W3 := ho3.belowTo hb2 (Nat.le_refl _); clear d2; have hg3 := hgr.trans (Gr.of_below hb3 (fun _ => False) fun k h1 h2 => by omega) fun _ h => h.elim))
          go_roundw
          case rel => exact ⟨k + 1, i + 1, _, by go_num, by go_num, hmid, by omega, by omega, (hgr.trans hg04 fun _ h => h.elim).trans (Gr.setCells _ _ _ _ (F := fun b => b = g) rfl) fun _ h => Or.inl h⟩
          case measure => simp [intOf]; omega
      · obtain rfl : k = L.length := by omega
        have hlt2 : ¬ ((L.length : Nat) : Int) < (L.length : Int) := by omega
        have hzl : ((Builtin.zeroCells (Value.agg #[.int .i64 0, .int .i64 0, .string ⟨#[]⟩]).cells (L.length - i)).toList).length = (L.length - i) * 3 := by simp [Builtin.zeroCells]; rfl
        obtain ⟨hth, hR⟩ := HD.out hM.out _ hzl
        have hcl : ∀ ty, (Builtin.clear_ #[54] ty #[.slice (some ⟨g, i * 3, none⟩) (L.length - i) (cap - i)]).run Try.prog wr = .ok (.tuple #[]) (wr.setCells g (i * 3) (Builtin.zeroCells (Value.agg #[.int .i64 0, .int .i64 0, .string ⟨#[]⟩]).cells (L.length - i)).toList) := fun ty =>
          run_clear_row wr 54 59 ty _ Try.underlying54 Try.zeroValue59 g _ _ _ (by omega) _ rfl (zc_one _) hth
        have hfin : Gr (fun b => b = g) w (wr.setCells g (i * 3) (Builtin.zeroCells (Value.agg #[.int .i64 0, .int .i64 0, .string ⟨#[]⟩]).cells (L.length - i)).toList) := hgr.trans (Gr.setCells _ _ _ _ (F := fun b => b = g) rfl) fun _ h => Or.inl h
        have q1 : i ≤ L.length := by omega
        have q2 : i ≤ cap := by omega
        have q3 : ¬ cap = i := by omega
        have q4 : (i : Int) ≤ (L.length : Int) := by omega
        have q5 : (i : Int) ≤ (cap : Int) := by omega
        clear hzl hth
        generalize (Builtin.zeroCells (Value.agg #[.int .i64 0, .int .i64 0, .string ⟨#[]⟩]).cells (L.length - i)).toList = zs at *
        go_wp2_with fail
        go_ret
        exact ⟨_, rfl, hR, rfl, hfin.mono fun k hk => by rw [hk]; rfl⟩
end Go.Proofs.Ytnfmhcljncdkgaa
