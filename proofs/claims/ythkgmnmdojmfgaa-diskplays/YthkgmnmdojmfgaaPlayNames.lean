/-
  DiskPlays: the document's Names, by contract.
-/
import Derived.Test.YthkgmnmdojmfgaaPlayMay
namespace Go.Proofs.Ythkgmnmdojmfgaa
open Go.RowKit Go.Maps Go.Sort

theorem Try.info9p : (Try.prog.info? 9).map (fun i => (i.zero, i.size, i.bytes)) = some (some (.string ⟨#[]⟩), 1, 16) := by kernel_rfl
theorem mk_str1 (W : World) (s : ByteArray) : (Instr.buildSlice 51 1 #[(0, .string s)]).run Try.prog W = .ok (.slice (some ⟨W.heap.size, 0, none⟩) 1 1) (W.alloc (.cells #[.string s] 9)) := by kernel_rfl
theorem wpList_made_str (w : World) {ops : Array Oper} {rest : List Oper} {o : Oper} {a : Act} {Q : Exit → Act → World → Prop} (hgd : o.guard = none) (x : Operand) (ho : o.op = .buildSlice 51 1 #[(0, x)]) (s : List UInt8) (hx : a.eval x = encStr s)
    (h : wpList Try.prog ops Q rest (a.put o.dst (.slice (some ⟨w.heap.size, 0, none⟩) 1 1)) (w.alloc (.cells #[encStr s] 9))) : wpList Try.prog ops Q (o :: rest) a w := by
  refine wpList_plain hgd fun _ hK => ?_
  unfold Oper.wp execOp
  simp only [ho, Sem.run_bind, List.map_toArray, List.map_cons, List.map_nil, hx, mk_str1, Result.andThen_ok]
  exact hK _ _ h
/-- A row of strings of the call's own. -/
def Ot (w : World) (base : Nat) (v : Value) (ss : List (List UInt8)) : Prop := w.ownsRow base 9 1 v ss.length (ss.map encStr)
theorem Ot.form {w : World} {base : Nat} {v : Value} {ss : List (List UInt8)} (h : Ot w base v ss) : ∃ ao cap, v = .slice ao ss.length cap := by
  rcases h.2 with ⟨rfl, h0⟩ | ⟨g, cap, cur, rfl, _⟩
  · exact ⟨none, 0, by rw [h0]⟩
  · exact ⟨_, cap, rfl⟩
theorem wpList_append_str (w : World) {ops : Array Oper} {rest : List Oper} {o : Oper} {a : Act} {Q : Exit → Act → World → Prop} (hgd : o.guard = none) (s x : Operand)
    (ho : o.op = .call { callee := .builtin .append, args := #[s, x], argTypes := #[51, 51] })
    (base : Nat) (v : Value) (ss : List (List UInt8)) (hs : a.eval s = v) (hown : Ot w base v ss) (B : Nat) (n : List UInt8) (hx : a.eval x = .slice (some ⟨B, 0, none⟩) 1 1) (hb : w.cell? ⟨B, 0, none⟩ = some (encStr n))
    (h63 : ss.length ≤ 1000000000) (hbase : base ≤ w.heap.size)
    (h : ∀ ao cap w', Ot w' base (.slice ao (ss.length + 1) cap) (ss ++ [n]) → w.grownBy w' v.ownBlock →
      wpList Try.prog ops Q rest (a.put o.dst (.slice ao (ss.length + 1) cap)) w') : wpList Try.prog ops Q (o :: rest) a w := by
  obtain ⟨i0, hi, hz0, hz1, hz2⟩ := info_parts Try.info9p
  obtain ⟨v', w', hrun, h2, h3, _, h5⟩ := run_append_own_at (P := Try.prog) w base 51 o.type 9 i0 (.string ⟨#[]⟩) 1 16 Try.underlying51 hi hz0 hz1 hz2 rfl (by decide) v ss.length (ss.map encStr) hown ⟨B, 0, none⟩ 1 1 [encStr n] rfl
    (by intro j u hu
        cases j with
        | zero => rw [Addr.add_lit]; simp at hu; subst hu; exact hb
        | succ j => simp at hu) (by intro u hu; simp at hu; subst hu; rfl) (by unfold maxLen; omega) (by omega) hbase
  have h2' : Ot w' base v' (ss ++ [n]) := by
    unfold Ot
    rw [List.length_append]
    simpa using h2
  obtain ⟨ao, cap, hv⟩ := h2'.form
  rw [List.length_append] at hv
  subst hv
  refine wpList_plain hgd fun _ hK => ?_
  unfold Oper.wp execOp
  simp only [ho, resolve, invoke, builtin, Sem.run_bind, Sem.run_pure, Result.andThen_ok, List.map_toArray, List.map_cons, List.map_nil, hs, hx, hrun]
  exact hK _ _ (h ao cap w' h2' h3)

theorem ownsRow_below {w w' : World} {base : Nat} {t : TypeId} {sz : Nat} {v : Value} {n : Nat} {cs : List Value} (h : w.ownsRow base t sz v n cs) (hb : Below w.heap.size w w') : w'.ownsRow base t sz v n cs := by
  refine ⟨h.1, ?_⟩
  rcases h.2 with h2 | ⟨g, cap, cur, rfl, hg0, hg, rest⟩
  · exact Or.inl h2
  · exact Or.inr ⟨g, cap, cur, rfl, hg0, by rw [hb.block g (Array.getElem?_eq_some_iff.1 hg).1]; exact hg, rest⟩
theorem Rk.below {w w' : World} {base wb : Nat} {v : Value} {room left : Int} {L : List Fl3} (h : Rk w base wb v room left L) (hb : Below w.heap.size w w') : Rk w' base wb v room left L :=
  ⟨by have hlt := h.blk.lt; unfold Cw; rw [hb.block wb hlt]; exact h.blk, ownsRow_below h.row hb, fun f hf => ⟨ownsRow_below (h.each f hf).1 hb, (h.each f hf).2⟩, h.few, h.wbb, h.sep⟩

set_option maxHeartbeats 1600000 in
set_option maxRecDepth 20000 in
theorem names3_any (base wb : Nat) (v : Value) (room left : Int) (L : List Fl3) (w : World) (h : Rk w base wb v room left L) :
    Calls Try.prog 45 #[.pointer (some ⟨wb, 0, none⟩)] w fun e w' => ∃ ao cap, e = .returned (.slice ao (names3 L).length cap) ∧ Ot w' w.heap.size (.slice ao (names3 L).length cap) (names3 L) ∧ Below w.heap.size w w' := by
  have few := h.few
  have hnl : Hid ((names3 L).length = L.length) := by show _ = _; simp [names3]
  have hv : ∃ ao cap, v = .slice ao L.length cap := by
    rcases h.shape with ⟨rfl, rfl⟩ | ⟨g, cap, rfl, _⟩
    · exact ⟨none, 0, rfl⟩
    · exact ⟨_, cap, rfl⟩
  obtain ⟨av, cv, rfl⟩ := hv
  go_enter Try.func45, Try.ntmps45
  go_wp2
  go_loopw [3, 4] (fun l i wr => ∃ k : Nat, k ≤ L.length ∧ i = .int .i64 k ∧ Ot wr w.heap.size l ((names3 L).take k) ∧ Below w.heap.size w wr) (fun _ i _ => L.length - (intOf i).toNat)
  case atStart => exact ⟨0, Nat.zero_le _, rfl, World.ownsRow_nil _ _ _ _, Below.refl _ _⟩
  case round =>
    obtain ⟨k, hk, rfl, hot, hB⟩ := hrel
    have hr := h.below hB
    have hcb := hr.blk.cell 1
    simp at hcb
    obtain ⟨al, cl, hvl⟩ := hot.form
    have lk : ((names3 L).take k).length = k := by have := hnl.out; simp; omega
    rw [lk] at hvl
    subst hvl
    by_cases hlt : k < L.length
    · obtain ⟨f, hf⟩ : ∃ f, L[k]? = some f := ⟨_, List.getElem?_eq_getElem hlt⟩
      rcases hr.shape with ⟨_, h0⟩ | ⟨g, cap, hv2, hc1, hc2, hcell⟩
      · rw [h0] at hlt; simp at hlt
      simp only [Value.slice.injEq] at hv2
      obtain ⟨rfl, _, rfl⟩ := hv2
      have hcf := (hcell k f hf).1
      have HT : Hid ((names3 L).take (k + 1) = (names3 L).take k ++ [f.nm]) := by
        show _ = _
        have e : (names3 L)[k]? = some f.nm := by simp [names3, hf]
        obtain ⟨hi, e2⟩ := List.getElem?_eq_some_iff.1 e
        rw [List.take_succ_eq_append_getElem hi, e2]
      have hA : Below wr.heap.size wr (wr.alloc (.cells #[encStr f.nm] 9)) := (Below.refl _ _).alloc (Nat.le_refl _) _
      have hot1 : Ot (wr.alloc (.cells #[encStr f.nm] 9)) w.heap.size (.slice al k cl) ((names3 L).take k) := ownsRow_below hot hA
      have hcl : (wr.alloc (.cells #[encStr f.nm] 9)).cell? ⟨wr.heap.size, 0, none⟩ = some (encStr f.nm) := by
        rw [cell_of_row _ _ 0 _ _ _ (heap_alloc_new wr _)]; rfl
      have hBa : Below w.heap.size w (wr.alloc (.cells #[encStr f.nm] 9)) := hB.alloc hB.size _
      have f1 : (0 : Int) ≤ (k : Int) := by omega
      have f2 : (k : Int) < (L.length : Int) := by omega
      have hlk : ((names3 L).take k).length ≤ 1000000000 := by omega
      have hfrom : ∀ q, (Value.slice al k cl).ownBlock = some q → w.heap.size ≤ q := fun q hq => (World.ownsRow.lt hot1 q hq).1
      have HLK : Hid (((names3 L).take k).length = k) := lk
      clear hcell hr hot lk hf h
      generalize f.nm = nm at *
      go_wp2_with (first | (refine wpList_made_str _ rfl (.tmp 22) rfl nm rfl ?_) | (at_builtin; refine wpList_append_str _ rfl (.tmp 14) (.tmp 23) rfl w.heap.size (.slice al k cl) ((names3 L).take k) (by rfl) hot1 wr.heap.size nm (by rfl) hcl hlk hBa.size ?_))
      intro ao2 cap2 w2 hot2 hg2
      have hB2 : Below w.heap.size w w2 := hBa.trans ⟨hg2.os, hg2.tape, hg2.output, hg2.size, fun q hq => hg2.block q (by have := hBa.size; omega) (fun e => by have := hfrom q e.symm; omega)⟩
      rw [← HT.out] at hot2
      clear hot1 hcl hBa hA hg2 hfrom hlk
      go_wp2
      go_roundw
      case rel => exact ⟨k + 1, by omega, by go_num, hot2, hB2⟩
      case measure => simp [intOf]; omega
    · have hke : (names3 L).take k = names3 L := List.take_of_length_le (by have := hnl.out; omega)
      have hke2 : k = L.length := by omega
      have HO : Hid (Ot wr w.heap.size (.slice al (names3 L).length cl) (names3 L)) := by
        show Ot _ _ _ _
        rw [hke] at hot
        rw [hnl.out, ← hke2]; exact hot
      have HK : Hid (k = (names3 L).length) := by show _ = _; rw [hnl.out]; exact hke2
      have f2 : ¬ (k : Int) < (L.length : Int) := by omega
      clear hot hke hke2 hr h lk
      go_wp2
      go_ret
      exact ⟨al, cl, by rw [← HK.out]; rfl, HO.out, hB⟩
end Go.Proofs.Ythkgmnmdojmfgaa
