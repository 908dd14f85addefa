/-
  timers' queue: Pop and Push, by contracts; append of one cell to a row of one's own.
-/
import Derived.Test.YtilaankipjcgaaaMeth
namespace Go.Proofs.Ytilaankipjcgaaa
open Go.RowKit
variable {w w' : World} {v m : Value} {q : List Th} {sb : Nat}
/-- What Pop leaves: the row's last cell is nil, the slice ends ahead of it. -/
theorem Tq.popped (h : Tq w sb m v q) {g cap : Nat} {q0 : List Th} {t : Th} (hv : v = .slice (some ⟨g, 0, none⟩) q.length cap) (hq : q = q0 ++ [t]) :
    Tq ((w.setCell ⟨g, q0.length, none⟩ (.pointer none)).setCell ⟨sb, 1, none⟩ (.slice (some ⟨g, 0, none⟩) q0.length cap)) sb m (.slice (some ⟨g, 0, none⟩) q0.length cap) q0 := by
  subst hq
  have hgs : g ≠ sb := fun e => h.ne (Or.inl (by rw [hv, e]; rfl))
  have hth : ∀ (k : Nat) (s : Th), (q0 ++ [t])[k]? = some s → s.b ≠ g ∧ s.b ≠ sb := fun k s hk =>
    ⟨Ne.symm (h.qu.row_ne (by rw [hv]; rfl) hk), fun e => h.ne (Or.inr ⟨s, List.mem_of_getElem? hk, e⟩)⟩
  refine ⟨?_, ?_, ?_, ?_, ?_⟩
  · have h1 : Cw (w.setCell ⟨g, q0.length, none⟩ (.pointer none)) sb [m, v] 49 := h.st.keep (Below.heap_setCell _ _ _ _ (Ne.symm hgs))
    exact h1.set 1 _
  · have hr := h.qu.row
    rw [hv] at hr
    have h1 := (hr.stored q0.length (.pointer none)).1
    have h2 := ownsRow_setCell_other h1 (a := ⟨sb, 1, none⟩) (by simpa [Value.ownBlock] using hgs) (.slice (some ⟨g, 0, none⟩) q0.length cap)
    refine ⟨by simp, Or.inr ?_⟩
    rcases h2.2 with ⟨h3, _⟩ | ⟨g', cap', cur, h3, h4, h5, h6, h7, h8, h9⟩
    · cases h3
    · simp only [Value.slice.injEq, Option.some.injEq, Addr.mk.injEq, true_and] at h3
      obtain ⟨⟨rfl, -⟩, rfl⟩ := h3
      refine ⟨g, cap, cur, rfl, h4, h5, by simp at h6; omega, h7, h8, ?_⟩
      simp only [List.length_append, List.length_cons, List.length_nil, List.map_append, List.map_cons, List.map_nil, Nat.mul_one] at h9 ⊢
      have h10 := congrArg (List.take q0.length) h9
      rw [List.take_take] at h10
      rw [show min q0.length (q0.length + (0 + 1)) = q0.length by omega] at h10
      rw [h10]
      simp
  · intro k s hk
    have hk' : (q0 ++ [t])[k]? = some s := by
      rw [List.getElem?_append_left (List.getElem?_eq_some_iff.1 hk).1]; exact hk
    obtain ⟨n1, n2⟩ := hth k s hk'
    exact (h.qu.th k s hk').keep (by rw [Below.heap_setCell _ _ _ _ n2, Below.heap_setCell _ _ _ _ n1])
  · exact (List.pairwise_append.1 h.qu.dis).1
  · have := h.qu.len; simp at this; omega
set_option maxHeartbeats 1000000 in
theorem pop_any (h : Tq w sb m v q) {q0 : List Th} {t : Th} (hq : q = q0 ++ [t]) :
    Calls Try.prog 50 #[.pointer (some ⟨sb, 1, none⟩)] w fun e w' => e = .returned (.iface 50 (.pointer (some ⟨t.b, 0, none⟩))) ∧ ∃ v', Tq w' sb m v' q0 ∧ v'.ownBlock = v.ownBlock ∧ Grows (fun k => k = sb ∨ own v q k) w w' ∧ Cw w' t.b (thv t q0.length) 52 := by
  obtain ⟨g, cap, hv, hc1, hc2, cur, hg⟩ := h.qu.form (by rw [hq]; simp)
  have hl : q.length = q0.length + 1 := by rw [hq]; simp
  have hm := h.qu.len
  have hlast : q[q0.length]? = some t := by rw [hq]; simp
  obtain ⟨a0, -⟩ := h.qu.cells hv hlast
  have c1 := h.cell
  have hr := h.qu.row
  rw [hv] at hr c1
  have f1 := hr.frozenAt q0.length
  have f2 := h.st.frozen 1
  have hgs : g ≠ sb := fun e => h.ne (Or.inl (by rw [hv, e]; rfl))
  have hgs' := Ne.symm hgs
  have e1 : ((q.length : Int) - 1) = (q0.length : Int) := by omega
  have hlt : q0.length < q.length := by omega
  have H := hid_into (h.popped hv hq)
  have HT := hid_into (h.qu.th _ _ hlast)
  have HN : Hid (t.b ≠ g ∧ t.b ≠ sb) := ⟨Ne.symm (h.qu.row_ne (by rw [hv]; rfl) hlast), fun e => h.ne (Or.inr ⟨t, List.mem_of_getElem? hlast, e⟩)⟩
  have HO : Hid (v.ownBlock = some g) := by show _ = _; rw [hv]; rfl
  have hcb : q0.length ≤ cap := by omega
  unfold maxLen at hc2
  rw [hl] at hc1
  clear hv hl hr hg
  go_enter Try.func50, Try.ntmps50
  go_wp2_with fail
  go_ret
  refine ⟨rfl, _, H.out, HO.out.symm, ⟨rfl, rfl, rfl, by simp [World.setCell], fun k _ hf => ?_⟩, HT.out.keep (by rw [Below.heap_setCell _ _ _ _ HN.out.2, Below.heap_setCell _ _ _ _ HN.out.1])⟩
  rw [Below.heap_setCell _ _ _ _ (fun e => hf (Or.inl e)), Below.heap_setCell _ _ _ _ (fun e => hf (Or.inr (Or.inl (by rw [HO.out, e]))))]
theorem wpList_append1 {t e : TypeId} {z : Value} {bytes : Nat} (hu : Try.prog.underlying t = some (.slice e)) (hinfo : (Try.prog.info? e).map (fun i => (i.zero, i.size, i.bytes)) = some (some z, 1, bytes)) (hz : z.cells.size = 1) (hby : bytes ≤ 8)
    (w : World) {ops : Array Oper} {rest : List Oper} {o : Oper} {a : Act} {Q : Exit → Act → World → Prop} (hgd : o.guard = none) (s x : Operand)
    (ho : o.op = .call { callee := .builtin .append, args := #[s, x], argTypes := #[t, t] })
    (v : Value) (n : Nat) (xs : List Value) (hs : a.eval s = v) (hown : w.ownsRow 0 e 1 v n xs) (B : Nat) (u : Value) (hx : a.eval x = .slice (some ⟨B, 0, none⟩) 1 1) (hb : w.cell? ⟨B, 0, none⟩ = some u) (h1 : u.oneCell' = true)
    (h63 : n ≤ 100000000)
    (h : ∀ ao cap w', w'.ownsRow 0 e 1 (.slice ao (n + 1) cap) (n + 1) (xs ++ [u]) → w.grownBy w' v.ownBlock →
      ((Value.slice ao (n + 1) cap).ownBlock = v.ownBlock ∨ (Value.slice ao (n + 1) cap).ownBlock = some w.heap.size) →
      wpList Try.prog ops Q rest (a.put o.dst (.slice ao (n + 1) cap)) w') : wpList Try.prog ops Q (o :: rest) a w := by
  obtain ⟨i0, hi, hz0, hz1, hz2⟩ := info_parts hinfo
  obtain ⟨v', w', hr, h2, h3, _, h5⟩ := run_append_own_at (P := Try.prog) w 0 t o.type e i0 z 1 bytes hu hi hz0 hz1 hz2 hz (by decide) v n xs hown ⟨B, 0, none⟩ 1 1 [u] rfl
    (by intro j y hy
        cases j with
        | zero => rw [Addr.add_lit]; simp at hy; subst hy; exact hb
        | succ j => simp at hy) (by intro y hy; simp at hy; subst hy; exact h1) (by unfold maxLen; omega)
    (by have : (n + 1) * bytes ≤ (n + 1) * 8 := Nat.mul_le_mul_left _ hby
        omega) (Nat.zero_le _)
  obtain ⟨ao, cap, hv⟩ : ∃ ao cap, v' = .slice ao (n + 1) cap := by
    rcases h2.2 with ⟨_, h6⟩ | ⟨g, cap, cur, h6, _⟩
    · omega
    · exact ⟨_, cap, h6⟩
  subst hv
  refine wpList_plain hgd fun _ hK => ?_
  unfold Oper.wp execOp
  simp only [ho, resolve, invoke, builtin, Sem.run_bind, Sem.run_pure, Result.andThen_ok, List.map_toArray, List.map_cons, List.map_nil, hs, hx, hr]
  exact hK _ _ (h ao cap w' h2 h3 h5)
theorem Try.info50 : (Try.prog.info? 50).map (fun i => (i.zero, i.size, i.bytes)) = some (some (.pointer none), 1, 8) := by kernel_rfl
theorem Try.info3 : (Try.prog.info? 3).map (fun i => (i.zero, i.size, i.bytes)) = some (some (.int .i64 0), 1, 8) := by kernel_rfl
set_option maxHeartbeats 1000000 in
theorem push_any (h : Tq w sb m v q) (b : Nat) (id due pl : Int) (hb : Cw w b [.int .i64 id, .int .i64 due, .int .i64 pl] 52) (hbn : ¬ own v q b) (hlen : q.length < 4096) :
    Calls Try.prog 51 #[.pointer (some ⟨sb, 1, none⟩), .iface 50 (.pointer (some ⟨b, 0, none⟩))] w fun e w' => e = .returned (.tuple #[]) ∧ ∃ v', Tq w' sb m v' (q ++ [⟨b, id, due⟩]) ∧
      (v'.ownBlock = v.ownBlock ∨ ∀ k, v'.ownBlock = some k → w.heap.size ≤ k) ∧ Grows (fun k => k = sb ∨ own v q k ∨ k = b) w w' := by
  obtain ⟨ao, cap, hv⟩ := h.qu.slot
  have c1 := h.cell
  rw [hv] at c1
  have f1 := h.st.frozen 1
  have f2 := hb.frozen 2
  have b2 : w.cell? ⟨b, 2, none⟩ = some (.int .i64 pl) := by rw [hb.cell]; rfl
  have hbs : b ≠ sb := fun e => by have := h.st; rw [Cw, ← e, show w.heap[b]? = _ from hb] at this; simp at this
  have hbs' := Ne.symm hbs
  have H := hid_into h
  have HV := hid_into hv
  have HB := hid_into hb
  have hta : ∀ (w : World) (b : Nat), (Instr.typeAssert (.iface 50 (.pointer (some ⟨b, 0, none⟩))) 20 50 false).run Try.prog w = .ok (.pointer (some ⟨b, 0, none⟩)) w := fun w b => by kernel_rfl
  have hown1 : ((w.setCell ⟨b, 2, none⟩ (.int .i64 (q.length : Int))).alloc (.cells #[.pointer (some ⟨b, 0, none⟩)] 50)).ownsRow 0 50 1 (.slice ao q.length cap) q.length (q.map fun t => ptrV t.b) := by
    have h1 := h.qu.row
    rw [hv] at h1
    refine (ownsRow_setCell_other h1 (a := ⟨b, 2, none⟩) ?_ _).alloc _
    intro e
    exact hbn (Or.inl (by rw [hv]; exact e))
  have hc1 : ((w.setCell ⟨b, 2, none⟩ (.int .i64 (q.length : Int))).alloc (.cells #[.pointer (some ⟨b, 0, none⟩)] 50)).cell? ⟨w.heap.size, 0, none⟩ = some (.pointer (some ⟨b, 0, none⟩)) := by
    have := (Cw.new (w.setCell ⟨b, 2, none⟩ (.int .i64 (q.length : Int))) [.pointer (some ⟨b, 0, none⟩)] 50).cell 0
    rw [show (w.setCell ⟨b, 2, none⟩ (.int .i64 (q.length : Int))).heap.size = w.heap.size from by simp [World.setCell]] at this
    exact this
  have hst1 : Cw ((w.setCell ⟨b, 2, none⟩ (.int .i64 (q.length : Int))).alloc (.cells #[.pointer (some ⟨b, 0, none⟩)] 50)) sb [m, .slice ao q.length cap] 49 := by
    have h1 := h.st
    rw [hv] at h1
    exact (h1.keep (Below.heap_setCell _ _ _ _ hbs')).alloc _
  have G1 : Grows (fun k => k = sb ∨ own v q k ∨ k = b) w ((w.setCell ⟨b, 2, none⟩ (.int .i64 (q.length : Int))).alloc (.cells #[.pointer (some ⟨b, 0, none⟩)] 50)) :=
    (Grows.setCell w ⟨b, 2, none⟩ _ (Or.inr (Or.inr rfl))).trans (Grows.alloc (fun _ => False) _ _) fun k hk => hk.elim
  have SZ : ((w.setCell ⟨b, 2, none⟩ (.int .i64 (q.length : Int))).alloc (.cells #[.pointer (some ⟨b, 0, none⟩)] 50)).heap.size = w.heap.size + 1 := by simp [World.setCell]
  have TH1 : ∀ (k : Nat) (t : Th), (q ++ [⟨b, id, due⟩])[k]? = some t → Cw ((w.setCell ⟨b, 2, none⟩ (.int .i64 (q.length : Int))).alloc (.cells #[.pointer (some ⟨b, 0, none⟩)] 50)) t.b (thv t k) 52 := by
    intro k t hk
    by_cases e : k < q.length
    · rw [List.getElem?_append_left e] at hk
      have h1 := h.qu.th k t hk
      exact (h1.keep (Below.heap_setCell _ _ _ _ (fun e2 => hbn (Or.inr ⟨t, List.mem_of_getElem? hk, e2⟩)))).alloc _
    · rw [List.getElem?_append_right (by omega)] at hk
      have e2 : k = q.length := by
        have := (List.getElem?_eq_some_iff.1 hk).1
        simp at this; omega
      subst e2
      simp at hk
      subst hk
      exact (hb.set 2 _).alloc _
  have DS : (q ++ [(⟨b, id, due⟩ : Th)]).Pairwise fun a b => a.b ≠ b.b := by
    refine List.pairwise_append.2 ⟨h.qu.dis, by simp, fun x hx y hy e => ?_⟩
    simp at hy
    subst hy
    exact hbn (Or.inr ⟨x, hx, e⟩)
  have NO : ∀ k, v.ownBlock = some k → k ≠ sb ∧ k ≠ b ∧ k < w.heap.size ∧ ∀ t ∈ q, t.b ≠ k := by
    intro k hk
    refine ⟨fun e => h.ne (Or.inl (by rw [hk, e])), fun e => hbn (Or.inl (by rw [hk, e])), (h.qu.row.lt k hk).2, fun t ht e => ?_⟩
    obtain ⟨n, hn⟩ := List.getElem?_of_mem ht
    exact h.qu.row_ne hk hn e.symm
  have hsbs := h.st.lt
  have hbl := hb.lt
  have TB : ∀ t ∈ q, t.b < w.heap.size ∧ t.b ≠ sb := fun t ht => ⟨h.qu.lt (Or.inr ⟨t, ht, rfl⟩), fun e => h.ne (Or.inr ⟨t, ht, e⟩)⟩
  replace hown1 := hid_into hown1
  replace hc1 := hid_into hc1
  replace hst1 := hid_into hst1
  replace G1 := hid_into G1
  replace SZ := hid_into SZ
  replace TH1 := hid_into TH1
  replace DS := hid_into DS
  replace NO := hid_into NO
  replace TB := hid_into TB
  replace hsbs := hid_into hsbs
  replace hbl := hid_into hbl
  clear h hv hb
  go_enter Try.func51, Try.ntmps51
  go_wp2_with (at_builtin; refine wpList_append1 Try.underlying47 Try.info50 rfl (by decide) _ rfl (.tmp 17) (.tmp 19) rfl (.slice ao q.length cap) q.length (q.map fun t => ptrV t.b) (by rfl) hown1.out w.heap.size (.pointer (some ⟨b, 0, none⟩)) (by rfl) hc1.out rfl (by omega) ?_; intro ao2 cap2 w2 ho2 hg2 hbk2; have hst2 := hst1.out.keep (hg2.block sb (by rw [SZ.out]; have := hsbs.out; omega) (fun e => (NO.out sb (by rw [HV.out]; exact e.symm)).1 rfl)); have c2 : w2.cell? ⟨sb, 1, none⟩ = some (.slice ao q.length cap) := (by rw [hst2.cell]; rfl); have f3 := hst2.frozen 1)
  go_end0
  have hvo : (Value.slice ao q.length cap).ownBlock = v.ownBlock := by rw [HV.out]
  rw [hvo] at hg2 hbk2
  rw [SZ.out] at hbk2
  have hsb := hsbs.out
  have hno : (Value.slice ao2 (q.length + 1) cap2).ownBlock ≠ some sb := by
    rcases hbk2 with e | e
    · rw [e]; intro h; exact (NO.out sb h).1 rfl
    · rw [e]; intro h; simp at h; omega
  have TBx : ∀ t ∈ q ++ [(⟨b, id, due⟩ : Th)], t.b < w.heap.size ∧ t.b ≠ sb ∧ some t.b ≠ v.ownBlock := by
    intro t ht
    rcases List.mem_append.1 ht with h1 | h1
    · exact ⟨(TB.out t h1).1, (TB.out t h1).2, fun e => (NO.out t.b e.symm).2.2.2 t h1 rfl⟩
    · simp at h1
      subst h1
      exact ⟨hbl.out, hbs, fun e => (NO.out b e.symm).2.1 rfl⟩
  refine ⟨rfl, .slice ao2 (q.length + 1) cap2, ⟨hst2.set 1 _, ?_, ?_, DS.out, by simp; omega⟩, ?_, ?_⟩
  · have h1 := ownsRow_setCell_other ho2 (a := ⟨sb, 1, none⟩) hno (.slice ao2 (q.length + 1) cap2)
    simpa [ptrV] using h1
  · intro k t hk
    obtain ⟨h1, h2, h3⟩ := TBx t (List.mem_of_getElem? hk)
    exact ((TH1.out k t hk).keep (hg2.block t.b (by rw [SZ.out]; omega) h3)).keep (Below.heap_setCell _ _ _ _ h2)
  · rcases hbk2 with e | e
    · exact Or.inl e
    · exact Or.inr fun k hk => by rw [e] at hk; simp at hk; omega
  · have h1 := G1.out.trans (Grows.grownBy (F := fun k => v.ownBlock = some k) hg2 fun k hk => hk) fun k hk => Or.inl (Or.inr (Or.inl (Or.inl hk)))
    exact h1.trans (Grows.setCell (F := fun k => k = sb) _ ⟨sb, 1, none⟩ _ rfl) fun k hk => Or.inl (Or.inl hk)
end Go.Proofs.Ytilaankipjcgaaa
