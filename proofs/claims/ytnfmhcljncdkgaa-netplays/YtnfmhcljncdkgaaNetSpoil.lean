/-
  The laws' spoil of bytes that came of a conversion.
-/
import Derived.Test.YtnfmhcljncdkgaaNetPick
import Derived.Test.YtnfmhcljncdkgaaPlayHelp
import Derived.ArgAppend
namespace Go.Proofs.Ytnfmhcljncdkgaa
open Go.RowKit
theorem there_row {w : World} {g n : Nat} {cur : Array Value} {t : TypeId} {fr : Nat × Nat} (h : w.heap[g]? = some (.cells cur t fr)) (hn : n ≤ cur.size) (hf : n ≤ fr.1 ∨ fr.2 = 0) : w.there g 0 n := by
  intro j hj
  constructor
  · rw [cell_of_row w g _ _ _ _ h]
    simp
    omega
  · simp only [World.frozen?, h, Nat.zero_add]
    rcases hf with hf | hf
    · simp; omega
    · simp [hf]
theorem there_set {w : World} {g n i : Nat} {x : Value} (h : w.there g 0 n) (hi : i < n) : (w.setCell ⟨g, i, none⟩ x).there g 0 n := by
  have hc := (h i hi).1
  rw [Nat.zero_add] at hc
  cases hb : w.heap[g]? with
  | none => simp [World.cell?, hb] at hc
  | some o =>
    cases o with
    | cells cur t fr =>
      have hb' : (w.setCell ⟨g, i, none⟩ x).heap[g]? = some (.cells (cur.setIfInBounds i x) t fr) := by
        simp only [World.setCell, Array.getElem?_modify, hb]
        simp
      intro j hj
      obtain ⟨h1, h2⟩ := h j hj
      constructor
      · rw [cell_of_row _ g _ _ _ _ hb']
        rw [cell_of_row _ g _ _ _ _ hb] at h1
        simpa using h1
      · simp only [World.frozen?, hb'] 
        simp only [World.frozen?, hb] at h2
        exact h2
    | _ => simp [World.cell?, hb] at hc
theorem app_of {w : World} {base : Nat} {v : Value} {zs : List Int} (h : Of w base v zs) (hz : zs.length ≤ 1000000) :
    ∃ g' c' w', (∀ ty, (Builtin.append_ #[23, 23] ty #[v, .slice (some ⟨w.heap.size, 0, none⟩) 1 1]).run Try.prog (w.alloc (.cells #[.int .u8 99] 5)) = .ok (.slice (some ⟨g', 0, none⟩) (zs.length + 1) c') w') ∧ w'.there g' 0 (zs.length + 1) ∧ w.grownBy w' v.ownBlock ∧ (v.ownBlock = some g' ∨ w.heap.size ≤ g') ∧ zs.length + 1 ≤ c' ∧ c' ≤ maxLen := by
  obtain ⟨i0, hi, hz0, hz1, hz2⟩ := info_parts Try.info5
  have hbs := h.bs
  obtain ⟨g, cap, cur, k, rfl, hb, hg, h1, h2, h3, h4, h5⟩ := h
  have hglt := (Array.getElem?_eq_some_iff.1 hg).1
  have hX : (w.alloc (.cells #[.int .u8 99] 5)).heap[g]? = some (.cells cur 5 (k, k + 1)) := (Below.heap_alloc _ _ _ hglt).trans hg
  have hnews : ∀ j u, ([Value.int .u8 99] : List Value)[j]? = some u → (w.alloc (.cells #[.int .u8 99] 5)).cell? ((⟨w.heap.size, 0, none⟩ : Addr).add j) = some u := cell_one_new w _ 5
  by_cases hr : zs.length + 1 ≤ cap
  · have hth := there_row hX (n := cap) (by omega) (Or.inl (by show cap ≤ k; omega))
    have hrun := fun ty => run_append_room_cells (P := Try.prog) (w.alloc (.cells #[.int .u8 99] 5)) 23 ty 5 i0 Try.underlying23 hi g 0 zs.length cap ⟨w.heap.size, 0, none⟩ 1 1 [.int .u8 99] (by simp [hz1]) hnews (by intro u hu; simp at hu; rw [hu]; rfl) hr
      (fun j hj => by
        have hj0 : j = 0 := by simpa using hj
        subst hj0
        have := (hth zs.length (by omega)).1
        rw [hz1]; simpa using this)
      (fun j hj => by
        have hj0 : j = 0 := by simpa using hj
        subst hj0
        have := (hth zs.length (by omega)).2
        rw [hz1]; simpa using this)
    rw [hz1, Nat.zero_add, Nat.mul_one] at hrun
    refine ⟨g, cap, _, hrun, ?_, ?_, Or.inl rfl, hr, h4⟩
    · have hth2 := there_set (i := zs.length) (x := .int .u8 99) hth (by omega)
      exact fun j hj => hth2 j (by omega)
    · exact ⟨rfl, rfl, rfl, by show w.heap.size ≤ ((w.alloc _).setCell ⟨g, zs.length, none⟩ _).heap.size; simp [World.setCell], fun q hq hne => by
        show ((w.alloc _).setCell ⟨g, zs.length, none⟩ _).heap[q]? = _
        rw [Below.heap_setCell _ _ _ _ (fun e => hne (by rw [show q = g from e]; rfl))]
        exact Below.heap_alloc _ _ _ hq⟩
  · have hbX : Below w.heap.size w (w.alloc (.cells #[.int .u8 99] 5)) := (Below.refl _ _).alloc (Nat.le_refl _) _
    have holds : ∀ j u, (cellsOf zs)[j]? = some u → (w.alloc (.cells #[.int .u8 99] 5)).cell? ((⟨g, 0, none⟩ : Addr).add j) = some u := fun j u hu => by
      rw [Addr.add_lit, cell_of_row _ g _ _ _ _ hX, Nat.zero_add]
      have h6 : (cur.toList.take zs.length)[j]? = (cellsOf zs)[j]? := by rw [h5]
      rw [hu, List.getElem?_take] at h6
      split at h6
      · simpa using h6
      · cases h6
    obtain ⟨v', w', hrun, hown, hgb⟩ := run_append_arg_grows (P := Try.prog) (w.alloc (.cells #[.int .u8 99] 5)) 23 0 5 i0 (.int .u8 0) 1 1 Try.underlying23 hi hz0 hz1 hz2 rfl (by decide) ⟨g, 0, none⟩ zs.length cap (cellsOf zs) (by simp [cellsOf]) holds ⟨w.heap.size, 0, none⟩ 1 1 [.int .u8 99] rfl hnews (by omega) (by unfold maxLen; omega) (by omega)
    rcases hown.2 with ⟨_, h0⟩ | ⟨g', cap', cur', hv', hb', hg', hn', hc', hs', _⟩
    · omega
    · subst hv'
      refine ⟨g', cap', w', fun ty => hrun, there_row hg' (by omega) (Or.inr rfl), ⟨hgb.os, hgb.tape, hgb.output, by have := hgb.size; rw [World.size_alloc] at this; omega, fun q hq _ => (hgb.block q (by rw [World.size_alloc]; omega) (by simp)).trans (Below.heap_alloc _ _ _ hq)⟩, Or.inr ?_, hn', hc'⟩
      rw [World.size_alloc] at hb'
      omega
theorem wpList_append_eq1 {o : Oper} {a : Act} {w w' : World} {ops : Array Oper} {rest : List Oper} {Q : Exit → Act → World → Prop} (hgd : o.guard = none) (t : TypeId) (s x : Operand) (ho : o.op = .call { callee := .builtin .append, args := #[s, x], argTypes := #[t, t] })
    (v u v' : Value) (hs : a.eval s = v) (hx : a.eval x = u) (hr : ∀ ty, (Builtin.append_ #[t, t] ty #[v, u]).run Try.prog w = .ok v' w') (h : wpList Try.prog ops Q rest (a.put o.dst v') w') : wpList Try.prog ops Q (o :: rest) a w := by
  refine wpList_plain hgd fun _ hK => ?_
  unfold Oper.wp execOp
  simp only [ho, resolve, invoke, builtin, Sem.run_bind, Sem.run_pure, Result.andThen_ok, List.map_toArray, List.map_cons, List.map_nil, hs, hx, hr]
  exact hK _ _ h
set_option maxHeartbeats 1600000 in
theorem spoil_of {w : World} {base : Nat} {v : Value} {zs : List Int} (h : Of w base v zs) (hz : zs.length ≤ 1000000) : Calls Try.prog 14 #[v] w fun e w' => e = .returned (.tuple #[]) ∧ w.grownBy w' v.ownBlock := by
  obtain ⟨g', c', w1, hrun, hth, hgb, hgo, hc1, hc2⟩ := app_of h hz
  obtain ⟨g, cap, cur, k0, hv, _⟩ := h
  have HR := hid_into hrun
  obtain ⟨ob, hob⟩ : ∃ ob, ob = v.ownBlock := ⟨_, rfl⟩
  rw [← hob] at hgb hgo ⊢
  have HGO := hid_into hgo
  clear hrun hgo hob
  subst hv
  unfold maxLen at hc2
  have hrow : Hid (∀ {W : World} {i : Nat} {u : Value}, w.grownBy W ob → w.grownBy (W.setCell ⟨g', i, none⟩ u) ob) := fun hg => grown_set hg g' _ _ (HGO.out.imp (fun h => h) (fun h => h))
  go_enter Try.func14, Try.ntmps14
  go_wp2_with (refine wpList_append_eq1 (w' := w1) rfl 23 (.tmp 4) (.tmp 5) rfl _ _ (.slice (some ⟨g', 0, none⟩) (zs.length + 1) c') (by rfl) (by rfl) ?_ ?_; exact HR.out)
  go_loopw [3] (fun i wr => ∃ k : Nat, k ≤ zs.length + 1 ∧ i = .int .i64 k ∧ Hid (wr.there g' 0 (zs.length + 1)) ∧ w.grownBy wr ob) (fun i _ => zs.length + 1 - (intOf i).toNat)
  case atStart => exact ⟨0, Nat.zero_le _, rfl, hth, hgb⟩
  case round =>
    obtain ⟨k, hk, rfl, HT, Gk⟩ := hrel
    by_cases hlt : k < zs.length + 1
    · obtain ⟨u, hu⟩ := Option.isSome_iff_exists.1 (HT.out k hlt).1
      have hf := (HT.out k hlt).2
      rw [Nat.zero_add] at hu hf
      have HT2 := hid_into (there_set (x := .int .u8 98) HT.out hlt)
      have G2 := hrow.out (i := k) (u := .int .u8 98) Gk
      clear Gk HT
      go_wp2
      go_roundw
      case rel => exact ⟨k + 1, by omega, by go_num, HT2, G2⟩
      case measure => simp [intOf]; omega
    · go_wp2
      go_end0
      exact ⟨rfl, Gk⟩
end Go.Proofs.Ytnfmhcljncdkgaa
