/-
  The document's Set, by contract; append of things to its row.
-/
import Derived.Test.YtilaankipjcgaaaRef
namespace Go.Proofs.Ytilaankipjcgaaa
open Go.RowKit Go.Maps
variable {w w' : World} {F : Nat → Prop} {rb : Nat} {v : Value} {L s : List Pr}
theorem Try.info58p : (Try.prog.info? 58).map (fun i => (i.zero, i.size, i.bytes)) = some (some (.agg #[.int .i64 0, .int .i64 0]), 2, 16) := by kernel_rfl
/-- A row of things of the call's own. -/
def O2 (w : World) (base : Nat) (v : Value) (L : List Pr) : Prop := w.ownsRow base 58 2 v L.length (cells2 L)
/-- The slice x reads as the things L. -/
def B2 (w : World) (x : Value) (L : List Pr) : Prop :=
  (L = [] ∧ ∃ ao cap, x = .slice ao 0 cap ∧ (ao = none → cap = 0)) ∨ ∃ g off cap, x = .slice (some ⟨g, off, none⟩) L.length cap ∧ ∀ (j : Nat) (u : Value), (cells2 L)[j]? = some u → w.cell? ⟨g, off + j, none⟩ = some u
theorem O2.form {base : Nat} (h : O2 w base v L) : ∃ ao cap, v = .slice ao L.length cap := by
  rcases h.2 with ⟨rfl, h0⟩ | ⟨g, cap, cur, rfl, _⟩
  · exact ⟨none, 0, by rw [h0]⟩
  · exact ⟨_, cap, rfl⟩
theorem O2.b2 {base : Nat} (h : O2 w base v L) : B2 w v L := by
  rcases h.2 with ⟨rfl, h0⟩ | ⟨g, cap, cur, rfl, _⟩
  · exact Or.inl ⟨List.eq_nil_of_length_eq_zero h0, none, 0, rfl, fun _ => rfl⟩
  · refine Or.inr ⟨g, 0, cap, rfl, fun j u hu => ?_⟩
    have := World.ownsRow.cells h (g := g) rfl j u hu
    simpa [Addr.add_lit] using this
theorem O2.new (w : World) : O2 (w.alloc (.cells #[] 58)) w.heap.size (.slice (some ⟨w.heap.size, 0, none⟩) 0 0) [] :=
  ⟨rfl, Or.inr ⟨w.heap.size, 0, #[], rfl, Nat.le_refl _, heap_alloc_new w _, Nat.le_refl _, by unfold maxLen; omega, rfl, rfl⟩⟩
theorem B2.keep {x : Value} (h : B2 w x L) (hk : ∀ k, x.ownBlock = some k → k < w.heap.size → w'.heap[k]? = w.heap[k]?) : B2 w' x L := by
  rcases h with h | ⟨g, off, cap, rfl, hc⟩
  · exact Or.inl h
  · refine Or.inr ⟨g, off, cap, rfl, fun j u hu => ?_⟩
    have h1 := hc j u hu
    have hlt := World.block_lt_of_cell? w _ h1
    rw [World.cell?_of_block (w := w) (hk g rfl hlt)]
    exact h1
theorem B2.below {x : Value} (h : B2 w x L) (hb : Below w.heap.size w w') : B2 w' x L := h.keep fun k _ hk => hb.block k hk
theorem run_append_2 (w : World) (base : Nat) (ty : TypeId) (v : Value) (xs : List Pr) (hown : O2 w base v xs) (x : Value) (zs : List Pr) (hb : B2 w x zs) (h63 : xs.length + zs.length ≤ 1000000) (hbase : base ≤ w.heap.size) :
    ∃ ao cap w', (Builtin.append_ #[26, 26] ty #[v, x]).run Try.prog w = .ok (.slice ao (xs.length + zs.length) cap) w' ∧ O2 w' base (.slice ao (xs.length + zs.length) cap) (xs ++ zs) ∧ w.grownBy w' v.ownBlock ∧
      ((Value.slice ao (xs.length + zs.length) cap).ownBlock = v.ownBlock ∨ (Value.slice ao (xs.length + zs.length) cap).ownBlock = some w.heap.size) := by
  obtain ⟨i0, hi, hz0, hz1, hz2⟩ := info_parts Try.info58p
  have key : ∀ a m c, m = zs.length → (∀ (j : Nat) (u : Value), (cells2 zs)[j]? = some u → w.cell? (Addr.add a j) = some u) → x = .slice (some a) m c → ∃ ao cap w', (Builtin.append_ #[26, 26] ty #[v, x]).run Try.prog w = .ok (.slice ao (xs.length + zs.length) cap) w' ∧ O2 w' base (.slice ao (xs.length + zs.length) cap) (xs ++ zs) ∧ w.grownBy w' v.ownBlock ∧
      ((Value.slice ao (xs.length + zs.length) cap).ownBlock = v.ownBlock ∨ (Value.slice ao (xs.length + zs.length) cap).ownBlock = some w.heap.size) := by
    intro a m c hm hc hx
    subst hm; subst hx
    obtain ⟨v', w', hr, h2, h3, _, h5⟩ := run_append_own_at (P := Try.prog) w base 26 ty 58 i0 (.agg #[.int .i64 0, .int .i64 0]) 2 16 Try.underlying26 hi hz0 hz1 hz2 rfl (by decide) v xs.length (cells2 xs) hown a zs.length c (cells2 zs) (cells2_len zs) hc (cells2_one zs) (by unfold maxLen; omega) (by omega) hbase
    have h2' : O2 w' base v' (xs ++ zs) := by
      unfold O2
      rw [cells2_append, List.length_append]
      exact h2
    obtain ⟨ao, cap, rfl⟩ := h2'.form
    rw [List.length_append] at hr h2' h5
    exact ⟨ao, cap, w', hr, h2', h3, h5⟩
  rcases hb with ⟨rfl, ao, cap, rfl, hn⟩ | ⟨g, off, cap, rfl, hcell⟩
  · cases ao with
    | some a => exact key a 0 cap rfl (by intro j u h; simp [cells2] at h) rfl
    | none =>
      obtain rfl := hn rfl
      have hr := run_append_owned_none (P := Try.prog) w base 26 ty 58 i0 2 Try.underlying26 hi v xs.length (cells2 xs) hown
      obtain ⟨ao, cap, hv⟩ := O2.form hown
      refine ⟨ao, cap, w, ?_, ?_, World.grownBy.refl _ _, Or.inl ?_⟩
      · rw [hr]; simp [hv]
      · simpa [hv] using hown
      · simp [hv]
  · exact key ⟨g, off, none⟩ zs.length cap rfl (fun j u h => by rw [Addr.add_lit]; exact hcell j u h) rfl
theorem wpList_append_2 (w : World) {ops : Array Oper} {rest : List Oper} {o : Oper} {a : Act} {Q : Exit → Act → World → Prop} (hgd : o.guard = none) (s x : Operand)
    (ho : o.op = .call { callee := .builtin .append, args := #[s, x], argTypes := #[26, 26] })
    (base : Nat) (v : Value) (xs : List Pr) (hs : a.eval s = v) (hown : O2 w base v xs) (vx : Value) (zs : List Pr) (hx : a.eval x = vx) (hb : B2 w vx zs)
    (h63 : xs.length + zs.length ≤ 1000000) (hbase : base ≤ w.heap.size)
    (h : ∀ ao cap w', O2 w' base (.slice ao (xs.length + zs.length) cap) (xs ++ zs) → w.grownBy w' v.ownBlock →
      ((Value.slice ao (xs.length + zs.length) cap).ownBlock = v.ownBlock ∨ (Value.slice ao (xs.length + zs.length) cap).ownBlock = some w.heap.size) →
      wpList Try.prog ops Q rest (a.put o.dst (.slice ao (xs.length + zs.length) cap)) w') : wpList Try.prog ops Q (o :: rest) a w := by
  obtain ⟨ao, cap, w', hr, h2, h3, h4⟩ := run_append_2 w base o.type v xs hown vx zs hb h63 hbase
  refine wpList_plain hgd fun _ hK => ?_
  unfold Oper.wp execOp
  simp only [ho, resolve, invoke, builtin, Sem.run_bind, Sem.run_pure, Result.andThen_ok, List.map_toArray, List.map_cons, List.map_nil, hs, hx, hr]
  exact hK _ _ (h ao cap w' h2 h3 h4)
section
variable {ops : Array Oper} {o : Oper} {a : Act} {K : Act → World → Prop} {Q : Exit → Act → World → Prop} {E : Prop}
theorem step_append_2 (hgd : o.guard = none) (s x : Operand)
    (ho : o.op = .call { callee := .builtin .append, args := #[s, x], argTypes := #[26, 26] })
    (base : Nat) (v : Value) (xs : List Pr) (hs : a.eval s = v) (hown : O2 w base v xs) (vx : Value) (zs : List Pr) (hx : a.eval x = vx) (hb : B2 w vx zs)
    (h63 : xs.length + zs.length ≤ 1000000) (hbase : base ≤ w.heap.size)
    (h : ∀ ao cap w', O2 w' base (.slice ao (xs.length + zs.length) cap) (xs ++ zs) → w.grownBy w' v.ownBlock →
      ((Value.slice ao (xs.length + zs.length) cap).ownBlock = v.ownBlock ∨ (Value.slice ao (xs.length + zs.length) cap).ownBlock = some w.heap.size) →
      K (a.put o.dst (.slice ao (xs.length + zs.length) cap)) w') : if Region.wanted o (yielded ops a.tmps) = true then Oper.wp Try.prog o a w K Q else E := by
  have hw : Region.wanted o (yielded ops a.tmps) = true := by simp [Region.wanted, hgd]
  rw [if_pos hw]
  obtain ⟨ao, cap, w', hr, h2, h3, h4⟩ := run_append_2 w base o.type v xs hown vx zs hb h63 hbase
  unfold Oper.wp execOp
  simp only [ho, resolve, invoke, builtin, Sem.run_bind, Sem.run_pure, Result.andThen_ok, List.map_toArray, List.map_cons, List.map_nil, hs, hx, hr]
  exact h ao cap w' h2 h3 h4
end
theorem B2.one (w : World) (p : Pr) : B2 (w.alloc (.cells #[.int .i64 p.1, .int .i64 p.2] 58)) (.slice (some ⟨w.heap.size, 0, none⟩) 1 1) [p] := by
  refine Or.inr ⟨w.heap.size, 0, 1, rfl, fun j u hu => ?_⟩
  rw [Nat.zero_add]
  exact ((Cw.new w [.int .i64 p.1, .int .i64 p.2] 58).cell j).trans hu
/-- The row gets another one. -/
theorem Rt.make {w2 : World} {G : Nat → Prop} {v' : Value} {L' s' : List Pr} {m : Value} (hb : Cw w2 rb [m] 28) (ho : O2 w2 0 v' L') (hv : v'.ownBlock ≠ some rb) (hf : L'.length ≤ 4096) (hp : L'.Perm s') (hs : Srt s') (hd : Dis s') (h1 : G rb) (h2 : ∀ k, v'.ownBlock = some k → G k) :
    Rt (w2.setCell ⟨rb, 0, none⟩ v') G rb v' L' s' := by
  refine ⟨hb.set 0 v', ?_, hf, hp, hs, hd, h1, h2⟩
  exact ownsRow_setCell_other ho (a := ⟨rb, 0, none⟩) hv v'
theorem erase_rm {L s : List Pr} {i : Nat} {id d : Int} (hp : L.Perm s) (hd : Dis s) (hi : L[i]? = some (id, d)) : (L.eraseIdx i).Perm (rm s id) := by
  have h1 := get_perm_cons hi
  have h2 := rm_perm (hp.symm.trans h1) id
  have hd2 := dis_perm hd (hp.symm.trans h1)
  rw [show rm ((id, d) :: L.eraseIdx i) id = L.eraseIdx i from rm_cons_eq (p := (id, d)) fun y hy => Ne.symm ((List.pairwise_cons.1 hd2).1 y hy)] at h2
  exact h2.symm
theorem set_put {L s : List Pr} {i : Nat} {id d due : Int} (hp : L.Perm s) (hd : Dis s) (hi : L[i]? = some (id, d)) : (L.set i (id, due)).Perm (put s id due) :=
  (set_perm_cons _ (List.getElem?_eq_some_iff.1 hi).1).trans (((erase_rm hp hd hi).cons _).trans (put_perm s id due).symm)
set_option maxRecDepth 20000 in
set_option maxHeartbeats 1600000 in
theorem rset_any (h : Rm w F rb s) (id due : Int) : Calls Try.prog 10 #[.pointer (some ⟨rb, 0, none⟩), .int .i64 id, .int .i64 due] w fun e w' => e = .returned (.bool (canS s id)) ∧ Rm w' (Pl F w.heap.size) rb (setS s id due) ∧ Grows F w w' := by
  obtain ⟨v, L, h⟩ := h
  have hdL : Dis L := dis_perm h.dis h.perm.symm
  have hgp := get_perm h.perm hdL id
  have hfew := h.few
  have hlen : L.length = s.length := h.perm.length_eq
  have C := find_any h id
  obtain ⟨ao, cap0, hv⟩ := h.slot
  have c0 := h.cell
  rw [hv] at c0
  have f0 := h.blk.frozen 0
  have H := hid_into h
  have HV := hid_into hv
  clear h hv
  cases hg : get s id with
  | some d =>
    rw [canS_some hg, setS_some hg]
    have C2 : Calls Try.prog 22 #[.pointer (some ⟨rb, 0, none⟩), .int .i64 id] w fun e w' => (∃ (i : Nat) (d : Int), e = .returned (.int .i64 (i : Int)) ∧ L[i]? = some (id, d)) ∧ w' = w := C.mono (by
      rintro e w' ⟨⟨h1, _⟩ | ⟨i, d, rfl, h1, _⟩, rfl⟩
      · rw [hgp, hg] at h1; cases h1
      · exact ⟨⟨i, d, rfl, h1⟩, rfl⟩)
    clear C hlen
    have HG := hid_into hg
    clear hg hgp
    go_enter Try.func10, Try.ntmps10
    go_wp2_with (go_at_call 22; refine C2.mono ?_; rintro e w2 ⟨⟨i, d2, rfl, hi⟩, rfl⟩; have hil := (List.getElem?_eq_some_iff.1 hi).1; obtain ⟨g, cap, hv2, hc1, hc2⟩ := H.out.form (by omega); have hv3 := HV.out; rw [hv2] at hv3; simp only [Value.slice.injEq] at hv3; obtain ⟨rfl, -, rfl⟩ := hv3; obtain ⟨a1, a2⟩ := H.out.cells hv2 hi; have hrow := H.out.row; rw [hv2] at hrow; have fz := hrow.frozenAt (i * 2 + 1); unfold maxLen at hc2; replace hi := hid_into hi; replace hrow := hid_into hrow; replace hv2 := hid_into hv2)
    go_ret
    have hgrb : g ≠ rb := fun e => H.out.ne (by rw [hv2.out, e]; rfl)
    refine ⟨rfl, ⟨v, L.set i (id, due), ?_, ?_, by simpa using hfew, set_put H.out.perm H.out.dis hi.out, put_srt H.out.srt _ _, put_dis H.out.dis _ _, Or.inl H.out.fs, fun k hk => Or.inl (H.out.fv k hk)⟩, Grows.setCell _ _ _ (H.out.fv g (by rw [hv2.out]; rfl))⟩
    · exact H.out.blk.keep (Below.heap_setCell _ _ _ _ (Ne.symm hgrb))
    · have h1 := (hrow.out.stored (i * 2 + 1) (.int .i64 due)).1
      rw [cells2_set L i _ due hi.out] at h1
      rw [hv2.out, List.length_set]
      exact h1
  | none =>
    have C2 : Calls Try.prog 22 #[.pointer (some ⟨rb, 0, none⟩), .int .i64 id] w fun e w' => e = .returned (.int .i64 (-1)) ∧ w' = w := C.mono (by
      rintro e w' ⟨⟨_, rfl⟩ | ⟨i, d, _, _, h1⟩, rfl⟩
      · exact ⟨rfl, rfl⟩
      · rw [hgp, hg] at h1; cases h1)
    clear C hgp
    by_cases hf : L.length < 4096
    · have hcan : canS s id = true := by simp only [canS, hg, Option.isSome_none, Bool.false_or, decide_eq_true_eq]; omega
      have hset : setS s id due = put s id due := by simp [setS, hcan]
      rw [hcan, hset]
      have HG := hid_into hg
      have hrow : O2 (w.alloc (.cells #[.int .i64 id, .int .i64 due] 58)) 0 (.slice ao L.length cap0) L := by
        have := H.out.row
        rw [HV.out] at this
        exact this.alloc _
      have hst := H.out.blk.alloc (.cells #[.int .i64 id, .int .i64 due] 58)
      have hb1 := B2.one w (id, due)
      replace hrow := hid_into hrow
      replace hst := hid_into hst
      replace hb1 := hid_into hb1
      have SZ : Hid ((w.alloc (.cells #[.int .i64 id, .int .i64 due] 58)).heap.size = w.heap.size + 1) := World.size_alloc _ _
      have hrl := hid_into H.out.blk.lt
      clear hcan hset hlen hg
      go_enter Try.func10, Try.ntmps10
      go_wp2_with (first
        | (go_at_call 22; refine C2.mono ?_; rintro e w2 ⟨rfl, rfl⟩)
        | (at_builtin; refine wpList_append_2 _ rfl (.tmp 31) (.tmp 35) rfl 0 (.slice ao L.length cap0) L (by rfl) hrow.out (.slice (some ⟨_, 0, none⟩) 1 1) [(id, due)] (by rfl) hb1.out (by simp; omega) (Nat.zero_le _) ?_; intro ao3 cap3 w3 ho3 hg3 hbk3; have hst3 := hst.out.keep (hg3.block rb (by rw [SZ.out]; have := hrl.out; omega) (fun e => H.out.ne (by rw [HV.out]; exact e.symm))); have c3 : w3.cell? ⟨rb, 0, none⟩ = some v := (by rw [hst3.cell]; rfl); have f3 := hst3.frozen 0; replace ho3 := hid_into ho3; replace hg3 := hid_into hg3; replace hbk3 := hid_into hbk3; replace hst3 := hid_into hst3))
      go_ret
      have hvb : (Value.slice ao L.length cap0).ownBlock = v.ownBlock := by rw [HV.out]
      have hb3 := hbk3.out
      have hg3' := hg3.out
      rw [hvb] at hb3 hg3'
      rw [SZ.out] at hb3
      simp only [List.length_cons, List.length_nil, Nat.zero_add] at hb3
      have hrl' := hrl.out
      refine ⟨rfl, ⟨.slice ao3 (L.length + [(id, due)].length) cap3, L ++ [(id, due)], Rt.make hst3.out ho3.out ?_ (by simp; omega) ?_ (put_srt H.out.srt _ _) (put_dis H.out.dis _ _) (Or.inl H.out.fs) ?_⟩, ?_⟩
      · rcases hb3 with e | e
        · rw [e]; exact H.out.ne
        · rw [e]; intro h5; simp at h5; omega
      · refine (List.perm_append_singleton _ _).trans ((H.out.perm.cons _).trans ?_)
        have := put_perm s id due
        rw [rm_none HG.out] at this
        exact this.symm
      · intro k hk
        rcases hb3 with e | e
        · rw [e] at hk; exact Or.inl (H.out.fv k hk)
        · rw [e] at hk; simp at hk; exact Or.inr (by omega)
      · refine ((Grows.alloc F _ _).trans (Grows.grownBy (F := F) hg3' fun k hk => H.out.fv k hk) fun k hk => Or.inl hk).trans (Grows.setCell (F := F) _ ⟨rb, 0, none⟩ _ H.out.fs) fun k hk => Or.inl hk
    · have hcan : canS s id = false := by simp only [canS, hg, Option.isSome_none, Bool.false_or, decide_eq_false_iff_not]; omega
      have hset : setS s id due = s := by simp [setS, hcan]
      rw [hcan, hset]
      have hl5 : L.length = 4096 := by omega
      rw [hl5] at c0
      clear hcan hset hlen hg hf hl5 hfew
      go_enter Try.func10, Try.ntmps10
      go_wp2_with (go_at_call 22; refine C2.mono ?_; rintro e w2 ⟨rfl, rfl⟩)
      go_ret
      exact ⟨rfl, ⟨v, L, H.out.more fun k hk _ => Or.inl hk⟩, Grows.refl _ _⟩
end Go.Proofs.Ytilaankipjcgaaa
