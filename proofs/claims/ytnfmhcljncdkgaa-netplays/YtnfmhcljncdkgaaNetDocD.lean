/-
  The document's Net: Drop, by contract.
-/
import Derived.Test.YtnfmhcljncdkgaaNetDocG
import Derived.Test.YtnfmhcljncdkgaaNetDrop
namespace Go.Proofs.Ytnfmhcljncdkgaa
open Go.RowKit
variable {w : World} {B rb : Nat} {u : Value} {E : List De}
def keepD (node : Int) (E : List De) : List De := E.filter fun e => !hitB node e.m
theorem keepD_no {node : Int} {E : List De} {k : Nat} {e : De} (h : E[k]? = some e) (hh : hitB node e.m = true) : keepD node (E.take (k + 1)) = keepD node (E.take k) := by
  unfold keepD
  rw [List.take_add_one, h, List.filter_append]
  simp [hh]
theorem keepD_yes {node : Int} {E : List De} {k : Nat} {e : De} (h : E[k]? = some e) (hh : hitB node e.m = false) : keepD node (E.take (k + 1)) = keepD node (E.take k) ++ [e] := by
  unfold keepD
  rw [List.take_add_one, h, List.filter_append]
  simp [hh]
theorem keepD_ms (node : Int) (E : List De) : msD (keepD node E) = dropN (msD E) node := by
  rw [dropN_hit]
  unfold msD keepD
  rw [List.filter_map]
  rfl
/-- One more behind the new row. -/
theorem rd_app {w W : World} {v : Value} {l : List De} (hr : Rd W w.heap.size v l) (hb : Below w.heap.size w W) (e : De) (hl : l.length ≤ 1024) : ∃ ao' c' W', Hid (∀ ty, (Builtin.append_ #[31, 31] ty #[v, .slice (some ⟨W.heap.size, 0, none⟩) 1 1]).run Try.prog (W.alloc (.cells #[.int .i64 e.m.fr, .int .i64 e.m.to, .slice e.ao e.n e.c] 25)) = .ok (.slice ao' (l.length + 1) c') W') ∧ Rd W' w.heap.size (.slice ao' (l.length + 1) c') (l ++ [e]) ∧ Below w.heap.size w W' := by
  have hbX : Below w.heap.size w (W.alloc (.cells #[.int .i64 e.m.fr, .int .i64 e.m.to, .slice e.ao e.n e.c] 25)) := hb.alloc hb.size _
  have hrX : Rd (W.alloc (.cells #[.int .i64 e.m.fr, .int .i64 e.m.to, .slice e.ao e.n e.c] 25)) w.heap.size v l := hr.keep fun k _ _ hlt => Below.heap_alloc _ _ _ hlt
  obtain ⟨v', W', hr', h2, h3, h4⟩ := Ax.Ro.app KD hrX ⟨W.heap.size, 0, none⟩ 1 [e] (by
    intro j x hu
    rw [Addr.add_lit, cell_of_row _ _ _ _ _ _ (heap_alloc_new W _)]
    simpa [deC] using hu) (by simp; omega) hbX.size
  obtain ⟨ao', c', hv, _⟩ := Ax.Ro.form h2
  rw [List.length_append, List.length_cons, List.length_nil] at hv
  subst hv
  exact ⟨ao', c', W', hr', h2, Ax.grown_below h3 hbX hbX.size fun k hk => (hrX.lt k hk).1⟩
theorem wpList_append_eq0 {o : Oper} {a : Act} {w w' : World} {ops : Array Oper} {rest : List Oper} {Q : Exit → Act → World → Prop} (hgd : o.guard = none) (t : TypeId) (s x : Operand) (ho : o.op = .call { callee := .builtin .append, args := #[s, x], argTypes := #[t, t] })
    (v u v' : Value) (hs : a.eval s = v) (hx : a.eval x = u) (hr : ∀ ty, (Builtin.append_ #[t, t] ty #[v, u]).run Try.prog w = .ok v' w') (h : wpList Try.prog ops Q rest (a.put o.dst v') w') : wpList Try.prog ops Q (o :: rest) a w := by
  refine wpList_plain hgd fun _ hK => ?_
  unfold Oper.wp execOp
  simp only [ho, resolve, invoke, builtin, Sem.run_bind, Sem.run_pure, Result.andThen_ok, List.map_toArray, List.map_cons, List.map_nil, hs, hx, hr]
  exact hK _ _ h
set_option maxRecDepth 20000 in
set_option maxHeartbeats 4000000 in
theorem rdrop_any (h : Dp w B rb u E) (hB : B ≤ w.heap.size) (node : Int) :
    Calls Try.prog 23 #[.pointer (some ⟨rb, 0, none⟩), .int .i64 node] w fun e w' => e = .returned (.int .i64 ((E.length : Int) - ((keepD node E).length : Int))) ∧ ∃ u', Dx w w' B rb u u' E (keepD node E) := by
  have hle := h.le
  have HA : Hid (∀ W, Below w.heap.size w W → Dp W B rb u E) := fun W hb => h.below hb
  obtain ⟨uo, uc, hu, _⟩ := Ax.Ro.form h.r
  have HS : Hid (∀ (W : World) (v : Value), Below w.heap.size w W → Rd W w.heap.size v (keepD node E) → Dx w (W.setCell ⟨rb, 0, none⟩ v) B rb u v E (keepD node E) ∧ W.frozen? ⟨rb, 0, none⟩ = false) := fun W v hb hr =>
    ⟨h.swap hB hb hr (fun e he => (List.mem_filter.1 he).1) (by have : (keepD node E).length ≤ E.length := List.length_filter_le _ _; omega), (h.below hb).q.frozen 0⟩
  have HSP : Hid (E ≠ [] → ∃ g, uo = some ⟨g, 0, none⟩) := fun hn => by
    obtain ⟨g, cap', hv', _⟩ := Ax.Ro.spot h.r hn
    rw [hu] at hv'
    simp only [Value.slice.injEq] at hv'
    exact ⟨g, hv'.1⟩
  subst hu
  clear h
  go_enter Try.func23, Try.ntmps23
  go_wp2_with fail
  go_loopw [5, 6] (fun x y wr => ∃ (k : Nat) (ao : Option Addr) (q c : Nat), x = .slice ao q c ∧ y = .int .i64 (k : Int) ∧ k ≤ E.length ∧ Hid (q = (keepD node (E.take k)).length) ∧ Rd wr w.heap.size (.slice ao q c) (keepD node (E.take k)) ∧ Below w.heap.size w wr) (fun _ y _ => E.length - (intOf y).toNat)
  case atStart => exact ⟨0, none, 0, 0, rfl, rfl, by omega, rfl, (Ax.Ro.nil w w.heap.size : Rd w w.heap.size (.slice none 0 0) []), Below.refl _ _⟩
  case round =>
    obtain ⟨k, va, vq, vc, rfl, rfl, hk, hvq, hR, hb⟩ := hrel
    have k1 := (HA.out wr hb).slot
    by_cases hlt : k < E.length
    · obtain ⟨e, he⟩ : ∃ e, E[k]? = some e := ⟨_, List.getElem?_eq_getElem hlt⟩
      obtain ⟨g, rfl⟩ := HSP.out (fun h0 => by rw [h0] at hlt; simp at hlt)
      have hlt2 : (k : Int) < (E.length : Int) := by omega
      have hcells : wr.cell? ⟨g, k * 3, none⟩ = some (.int .i64 e.m.fr) ∧ wr.cell? ⟨g, k * 3 + 1, none⟩ = some (.int .i64 e.m.to) ∧ wr.cell? ⟨g, k * 3 + 2, none⟩ = some (.slice e.ao e.n e.c) := by
        obtain ⟨hl2, he2⟩ := List.getElem?_eq_some_iff.1 he
        have hr := (HA.out wr hb).r
        have e1 : E = E.take k ++ [e] ++ E.drop (k + 1) := by
          rw [List.append_assoc, List.singleton_append, ← he2, ← List.drop_eq_getElem_cons hl2, List.take_append_drop]
        rw [e1] at hr
        have hc := Rd.part hr
        rw [List.length_take, Nat.min_eq_left (by omega)] at hc
        exact ⟨hc 0 _ rfl, hc 1 _ rfl, hc 2 _ rfl⟩
      obtain ⟨m0, m1, m2⟩ := hcells
      by_cases h1 : e.m.fr = node
      · have hh : hitB node e.m = true := decide_eq_true (Or.inl h1)
        have HK := hid_into (keepD_no he hh)
        have r1 : (e.m.fr != node) = false := by simp [h1]
        clear h1 hh he
        go_wp2_with fail
        go_roundw
        case rel => exact ⟨k + 1, _, _, _, rfl, by go_num, by omega, by rw [HK.out]; exact hvq, by rw [HK.out]; exact hR, hb⟩
        case measure => simp [intOf]; omega
      · by_cases h2 : e.m.to = node
        · have hh : hitB node e.m = true := decide_eq_true (Or.inr h2)
          have HK := hid_into (keepD_no he hh)
          have r1 : (e.m.fr != node) = true := by simp [h1]
          have r2 : (e.m.to != node) = false := by simp [h2]
          clear h1 h2 hh he
          go_wp2_with fail
          go_roundw
          case rel => exact ⟨k + 1, _, _, _, rfl, by go_num, by omega, by rw [HK.out]; exact hvq, by rw [HK.out]; exact hR, hb⟩
          case measure => simp [intOf]; omega
        · have hh : hitB node e.m = false := decide_eq_false (fun h => by rcases h with h | h; exact h1 h; exact h2 h)
          have HK := hid_into (keepD_yes he hh)
          have r1 : (e.m.fr != node) = true := by simp [h1]
          have r2 : (e.m.to != node) = true := by simp [h2]
          obtain ⟨ao', c', W', hrun, hR', hb'⟩ := rd_app hR hb e (by have h5 : (keepD node (E.take k)).length ≤ (E.take k).length := List.length_filter_le _ _; rw [List.length_take] at h5; omega)
          rw [← hvq.out] at hrun hR'
          clear h1 h2 hh he
          go_wp2_with (first
            | (refine wpList_append_eq0 (w' := W') rfl 31 (.tmp 39) (.tmp 47) rfl _ _ (.slice ao' (vq + 1) c') (by rfl) (by rfl) ?_ ?_; exact hrun.out))
          go_roundw
          case rel => exact ⟨k + 1, _, _, _, rfl, by go_num, by omega, by rw [HK.out, List.length_append, ← hvq.out]; rfl, by rw [HK.out]; exact hR', hb'⟩
          case measure => simp [intOf]; omega
    · obtain rfl : k = E.length := by omega
      have hlt2 : ¬ (E.length : Int) < (E.length : Int) := by omega
      rw [List.take_of_length_le (Nat.le_refl _)] at hvq hR
      obtain ⟨hx, f1⟩ := HS.out wr _ hb hR
      have hvl : vq ≤ E.length := by rw [hvq.out]; exact List.length_filter_le _ _
      have HVQ := hid_into hvq.out
      clear hvq hR
      go_wp2_with fail
      go_ret
      exact ⟨by rw [HVQ.out]; rfl, _, hx⟩
end Go.Proofs.Ytnfmhcljncdkgaa
