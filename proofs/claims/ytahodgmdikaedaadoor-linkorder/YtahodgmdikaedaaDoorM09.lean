/-
  Joined from: RowsW, FrameEb, LkPkt.
-/
import Derived.Test.YtahodgmdikaedaaDoorM07
import Derived.Test.YtahodgmdikaedaaDoorM08
import Derived.Test.YtahodgmdikaedaaDoorM06
section
/-
  Rows of bytes: such as came in, or can be read (Rs); a row of them of the call's own (Osl), and append to it.
-/
namespace Go.Proofs.YtahodgmdikaedaaDoor
open Go.RowKit

/-- A row: its slice, its bytes. -/
abbrev Rw2 := Value × List Int
/-- What is known of a row that can be read. -/
def RwOk (w : World) (r : Rw2) : Prop := Bs w r.1 r.2 ∧ Byt r.2 ∧ r.2.length ≤ 140737488355328
/-- The slice v reads as the rows rs. -/
def Rs (w : World) (v : Value) (rs : List Rw2) : Prop :=
  ∃ ao cap, v = .slice ao rs.length cap ∧ rs.length ≤ 140737488355328 ∧ (∀ r ∈ rs, RwOk w r) ∧
    (rs ≠ [] → ∃ b off, ao = some ⟨b, off, none⟩ ∧ ∀ i r, rs[i]? = some r → w.cell? ⟨b, off + i, none⟩ = some r.1)
theorem RwOk.below {w w' : World} {r : Rw2} (h : RwOk w r) (hb : Below w.heap.size w w') : RwOk w' r := ⟨h.1.below hb (Nat.le_refl _), h.2⟩
theorem Rs.below {w w' : World} {v : Value} {rs : List Rw2} (h : Rs w v rs) (hb : Below w.heap.size w w') : Rs w' v rs := by
  obtain ⟨ao, cap, hv, hl, hr, hc⟩ := h
  refine ⟨ao, cap, hv, hl, fun r hm => (hr r hm).below hb, fun hne => ?_⟩
  obtain ⟨b, off, e, hcell⟩ := hc hne
  refine ⟨b, off, e, fun i r hi => ?_⟩
  have h1 := hcell i r hi
  rw [World.cell?_of_block (w := w) (hb.block b (World.block_lt_of_cell? w _ h1))]
  exact h1
theorem Rs.form {w : World} {v : Value} {rs : List Rw2} (h : Rs w v rs) : ∃ ao cap, v = .slice ao rs.length cap ∧ rs.length ≤ 140737488355328 ∧ True := by
  obtain ⟨ao, cap, hv, hl, _⟩ := h
  exact ⟨ao, cap, hv, hl, trivial⟩
/-- The i-th row, as a round reads it. -/
theorem Rs.get {w : World} {rs : List Rw2} {ao : Option Addr} {cap : Nat} (h : Rs w (.slice ao rs.length cap) rs) {i : Nat} (hi : i < rs.length) :
    ∃ b off ap cp zs, ao = some ⟨b, off, none⟩ ∧ rs[i]? = some (.slice ap zs.length cp, zs) ∧ w.cell? ⟨b, off + i, none⟩ = some (.slice ap zs.length cp) ∧ Bs w (.slice ap zs.length cp) zs ∧ Byt zs ∧ zs.length ≤ 140737488355328 := by
  obtain ⟨ao', cap', hv, hl, hr, hc⟩ := h
  simp only [Value.slice.injEq] at hv
  obtain ⟨rfl, _, rfl⟩ := hv
  obtain ⟨b, off, e, hcell⟩ := hc (fun e => by rw [e] at hi; simp at hi)
  have hg : rs[i]? = some rs[i] := List.getElem?_eq_getElem hi
  obtain ⟨hb, hby, hlen⟩ := hr _ (List.getElem_mem hi)
  obtain ⟨ap, cp, hsv, _⟩ := hb.len
  generalize rs[i] = r at *
  obtain ⟨v, zs⟩ := r
  simp only at hsv hb hby hlen
  subst hsv
  exact ⟨b, off, ap, cp, zs, e, hg, hcell i _ hg, hb, hby, hlen⟩
/-- The bytes of rows. -/
def bytesOf2 (rs : List Rw2) : List (List Int) := rs.map (·.2)
theorem bytesOf2_len (rs : List Rw2) : (bytesOf2 rs).length = rs.length := by simp [bytesOf2]
theorem bytesOf2_append (a b : List Rw2) : bytesOf2 (a ++ b) = bytesOf2 a ++ bytesOf2 b := by simp [bytesOf2]
theorem bytesOf2_take (a : List Rw2) (n : Nat) : bytesOf2 (a.take n) = (bytesOf2 a).take n := by simp [bytesOf2, List.map_take]
/-- The first n rows. -/
theorem Rs.take {w : World} {b off len cap : Nat} {rs : List Rw2} (h : Rs w (.slice (some ⟨b, off, none⟩) len cap) rs) (n : Nat) (hn : n ≤ rs.length) : Rs w (.slice (some ⟨b, off, none⟩) n cap) (rs.take n) := by
  obtain ⟨ao', cap', hv, hl, hr, hc⟩ := h
  simp only [Value.slice.injEq] at hv
  obtain ⟨rfl, _, rfl⟩ := hv
  have ln : (rs.take n).length = n := by simp; omega
  refine ⟨_, cap, by rw [ln], by omega, fun r hm => hr r (List.mem_of_mem_take hm), fun hne => ?_⟩
  obtain ⟨b', off', e, hcell⟩ := hc (fun e => hne (by rw [e]; simp))
  refine ⟨b', off', e, fun i r hi => hcell i r ?_⟩
  have hlt := (List.getElem?_eq_some_iff.1 hi).1
  rw [List.getElem?_take_of_lt (by omega)] at hi
  exact hi

theorem Tryd.info22 : (Tryd.prog.info? 29).map (fun i => (i.zero, i.size, i.bytes)) = some (some (.slice none 0 0), 1, 24) := by kernel_rfl
def slOf (rs : List Rw2) : List Value := rs.map (·.1)
theorem ownsRow_keep {w w' : World} {base : Nat} {t : TypeId} {sz : Nat} {v : Value} {n : Nat} {cs : List Value} (h : w.ownsRow base t sz v n cs) (hk : ∀ k, v.ownBlock = some k → k < w.heap.size → w'.heap[k]? = w.heap[k]?) : w'.ownsRow base t sz v n cs := by
  refine ⟨h.1, ?_⟩
  rcases h.2 with h2 | ⟨g, cap, cur, rfl, hb, hg, rest⟩
  · exact Or.inl h2
  · exact Or.inr ⟨g, cap, cur, rfl, hb, by rw [hk g rfl (Array.getElem?_eq_some_iff.1 hg).1]; exact hg, rest⟩
/-- The slice v has a row of its own, from block base on, of rows that are the call's own. -/
structure Osl (w : World) (base : Nat) (v : Value) (rs : List Rw2) : Prop where
  row : w.ownsRow base 29 1 v rs.length (slOf rs)
  each : ∀ r ∈ rs, Ow w base r.1 r.2 ∧ Byt r.2 ∧ r.2.length ≤ 140737488355328 ∧ ∀ k, r.1.ownBlock = some k → v.ownBlock ≠ some k
theorem Osl.nil (w : World) (base : Nat) : Osl w base (.slice none 0 0) [] := ⟨World.ownsRow_nil _ _ _ _, fun r h => by cases h⟩
theorem Osl.below {w w' : World} {base : Nat} {v : Value} {rs : List Rw2} (h : Osl w base v rs) (hb : Below w.heap.size w w') : Osl w' base v rs :=
  ⟨ownsRow_keep h.row fun k _ hk => hb.block k hk, fun r hr => ⟨(h.each r hr).1.keep fun k _ hk => hb.block k hk, (h.each r hr).2⟩⟩
theorem Osl.form {w : World} {base : Nat} {v : Value} {rs : List Rw2} (h : Osl w base v rs) : ∃ ao cap, v = .slice ao rs.length cap := by
  rcases h.row.2 with ⟨rfl, h2⟩ | ⟨g, cap, cur, rfl, _⟩
  · exact ⟨none, 0, by rw [h2]⟩
  · exact ⟨_, cap, rfl⟩
theorem Osl.rs {w : World} {base : Nat} {v : Value} {rs : List Rw2} (h : Osl w base v rs) (hl : rs.length ≤ 140737488355328) : Rs w v rs := by
  obtain ⟨ao, cap, hv⟩ := h.form
  refine ⟨ao, cap, hv, hl, fun r hr => ⟨(h.each r hr).1.bs, (h.each r hr).2.1, (h.each r hr).2.2.1⟩, fun hne => ?_⟩
  subst hv
  rcases h.row.2 with ⟨_, h2⟩ | ⟨g, cap', cur, he, hb, hg, hn, hc, hs, ht⟩
  · exact absurd (List.eq_nil_of_length_eq_zero h2) hne
  · simp only [Value.slice.injEq] at he
    obtain ⟨rfl, _, rfl⟩ := he
    refine ⟨g, 0, rfl, fun i r hi => ?_⟩
    have hlt := (List.getElem?_eq_some_iff.1 hi).1
    rw [cell_of_row w g (0 + i) _ _ _ hg, Nat.zero_add, ← Array.getElem?_toList]
    have h3 : (cur.toList.take (rs.length * 1))[i]? = some r.1 := by rw [ht]; simp [slOf, hi]
    rw [List.getElem?_take_of_lt (by omega)] at h3
    exact h3
theorem Osl.from {w : World} {base : Nat} {v : Value} {rs : List Rw2} (h : Osl w base v rs) : ∀ k, v.ownBlock = some k → base ≤ k := fun k hk => (World.ownsRow.lt h.row k hk).1
theorem Osl.lt {w : World} {base : Nat} {v : Value} {rs : List Rw2} (h : Osl w base v rs) : ∀ k, v.ownBlock = some k → k < w.heap.size := fun k hk => (World.ownsRow.lt h.row k hk).2
theorem Ow.lt {w : World} {base : Nat} {v : Value} {zs : List Int} (h : Ow w base v zs) : ∀ k, v.ownBlock = some k → k < w.heap.size := fun k hk => (World.ownsRow.lt h k hk).2

theorem wpList_append_row (w : World) {ops : Array Oper} {rest : List Oper} {o : Oper} {a : Act} {Q : Exit → Act → World → Prop} (hgd : o.guard = none) (s x : Operand)
    (ho : o.op = .call { callee := .builtin .append, args := #[s, x], argTypes := #[33, 33] })
    (base : Nat) (v : Value) (rs : List Rw2) (hs : a.eval s = v) (hown : Osl w base v rs) (B : Nat) (ap : Option Addr) (cp : Nat) (zs : List Int) (hx : a.eval x = .slice (some ⟨B, 0, none⟩) 1 1) (hb : w.cell? ⟨B, 0, none⟩ = some (.slice ap zs.length cp))
    (hr : Ow w base (.slice ap zs.length cp) zs) (hy : Byt zs) (hl : zs.length ≤ 140737488355328) (hsep : ∀ k, (Value.slice ap zs.length cp).ownBlock = some k → v.ownBlock ≠ some k)
    (h63 : rs.length ≤ 1000000000) (hbase : base ≤ w.heap.size)
    (h : ∀ ao cap w', Osl w' base (.slice ao (rs.length + 1) cap) (rs ++ [(.slice ap zs.length cp, zs)]) → w.grownBy w' v.ownBlock →
      wpList Tryd.prog ops Q rest (a.put o.dst (.slice ao (rs.length + 1) cap)) w') : wpList Tryd.prog ops Q (o :: rest) a w := by
  obtain ⟨i0, hi, hz0, hz1, hz2⟩ := info_parts Tryd.info22
  obtain ⟨v', w', hrun, h2, h3, _, h5⟩ := run_append_own_at (P := Tryd.prog) w base 33 o.type 29 i0 (.slice none 0 0) 1 24 Tryd.underlying33 hi hz0 hz1 hz2 rfl (by decide) v rs.length (slOf rs) hown.row ⟨B, 0, none⟩ 1 1 [.slice ap zs.length cp] rfl
    (by intro j u hu
        cases j with
        | zero => rw [Addr.add_lit]; simp at hu; subst hu; exact hb
        | succ j => simp at hu) (by intro u hu; simp at hu; subst hu; rfl) (by unfold maxLen; omega) (by omega) hbase
  have h2' : w'.ownsRow base 29 1 v' (rs ++ [((.slice ap zs.length cp, zs) : Rw2)]).length (slOf (rs ++ [(.slice ap zs.length cp, zs)])) := by
    rw [List.length_append]
    simpa [slOf] using h2
  have hv' : ∃ ao cap, v' = .slice ao (rs.length + 1) cap := by
    rcases h2'.2 with ⟨_, h6⟩ | ⟨g, cap, cur, h6, _⟩
    · simp at h6
    · exact ⟨some ⟨g, 0, none⟩, cap, by rw [h6]; simp⟩
  obtain ⟨ao, cap, rfl⟩ := hv'
  have keep : ∀ (u : Value) (zs' : List Int), Ow w base u zs' → (∀ k, u.ownBlock = some k → v.ownBlock ≠ some k) → Ow w' base u zs' ∧ ∀ k, u.ownBlock = some k → (Value.slice ao (rs.length + 1) cap).ownBlock ≠ some k := by
    intro u zs' hu hne
    refine ⟨hu.keep fun k hk hlt => h3.block k hlt (fun e => hne k hk e.symm), fun k hk e => ?_⟩
    rcases h5 with h5 | h5
    · exact hne k hk (by rw [← h5]; exact e)
    · rw [h5] at e
      have := hu.lt k hk
      have := Option.some.inj e
      omega
  refine wpList_plain hgd fun _ hK => ?_
  unfold Oper.wp execOp
  simp only [ho, resolve, invoke, builtin, Sem.run_bind, Sem.run_pure, Result.andThen_ok, List.map_toArray, List.map_cons, List.map_nil, hs, hx, hrun]
  refine hK _ _ (h ao cap w' ⟨h2', fun r hm => ?_⟩ h3)
  rcases List.mem_append.1 hm with hm | hm
  · obtain ⟨e1, e2, e3, e4⟩ := hown.each r hm
    exact ⟨(keep _ _ e1 e4).1, e2, e3, (keep _ _ e1 e4).2⟩
  · have : r = (.slice ap zs.length cp, zs) := by simpa using hm
    subst this
    exact ⟨(keep _ _ hr hsep).1, hy, hl, (keep _ _ hr hsep).2⟩
end Go.Proofs.YtahodgmdikaedaaDoor
end

section
/-
  frame.Encode, by contract, wherever the slice of no bytes points to.
-/
namespace Go.Proofs.YtahodgmdikaedaaDoor
open Go.RowKit

set_option maxHeartbeats 800000 in
theorem layHeld2_w (b : Nat) (v : Value) (xs : List Int) (sv : Value) (zs : List Int) (w : World) (hw : Wr w b v xs) (hb : Bs w sv zs) (hsep : zs ≠ [] → ∀ k, sv.ownBlock = some k → k ≠ b ∧ some k ≠ v.ownBlock)
    (hn : xs.length ≤ 500000000000) (hz : zs.length ≤ 400000000000) :
    Calls Tryd.prog 83 #[.func (.func 79) #[.pointer (some ⟨b, 0, none⟩)] #[], sv] w fun e w' => e = .returned (.tuple #[]) ∧ ∃ v', Wr w' b v' (xs ++ zs) ∧ Wstep b w v w' v' := by
  obtain ⟨ao, cap, hsv, hm⟩ := hb.len
  subst hsv
  go_enter Tryd.func83, Tryd.ntmps83
  go_wp2
  go_loopw [8] (fun i wr => ∃ (k : Nat) (v1 : Value), k ≤ zs.length ∧ i = .int .i64 k ∧ Wr wr b v1 (xs ++ zs.take k) ∧ Wstep b w v wr v1) (fun i _ => zs.length - (intOf i).toNat)
  case atStart => exact ⟨0, v, Nat.zero_le _, rfl, by simpa using hw, Wstep.refl _ _ _⟩
  case round =>
    obtain ⟨k, v1, hk, rfl, hw1, hs1⟩ := hrel
    by_cases hlt : k < zs.length
    · have hb1 := hb.step hs1 (hsep (fun e => by rw [e] at hlt; simp at hlt))
      rcases hb1 with ⟨h0, _⟩ | ⟨_, b2, off, cap2, he, hc1, hc2, hcell⟩
      · subst h0; simp at hlt
      · simp only [Value.slice.injEq] at he
        obtain ⟨rfl, _, rfl⟩ := he
        have hck := hcell k hlt
        clear hcell
        have hl2 : (xs ++ zs.take k).length ≤ 1000000000000 := by simp; omega
        go_wp2_with (go_at_call 79; refine (byte_w b v1 _ _ _ hw1 hl2).mono ?_; rintro e w' ⟨rfl, v2, hw2, hs2⟩)
        go_roundw
        case rel => exact ⟨k + 1, v2, by omega, by go_num, by simpa using hw2, hs1.trans hs2⟩
        case measure => simp [intOf]; omega
    · have hke : zs.take k = zs := List.take_of_length_le (by omega)
      go_wp2
      go_end0
      rw [hke] at hw1
      exact ⟨rfl, v1, hw1, hs1⟩



set_option maxHeartbeats 3200000 in
set_option maxRecDepth 20000 in
theorem enc_any2 (sv : Value) (zs : List Int) (w : World) (hb : Bs w sv zs) (hy : Byt zs) (hz : zs.length ≤ 65536) (ht : Tab w) :
    Calls Tryd.prog 68 #[sv] w fun e w' => ∃ ao cap, e = .returned (.tuple #[.slice ao (recN zs).length cap, .int .i64 0]) ∧ Ow w' w.heap.size (.slice ao (recN zs).length cap) (recN zs) ∧ Below w.heap.size w w' := by
  have hw0 := Wr_new w
  have B0 : Below w.heap.size w (w.alloc (.cells #[.slice none 0 0] 114)) := (Below.refl _ _).alloc (Nat.le_refl _) _
  have hsl := hb.lt
  have hsep : zs ≠ [] → ∀ (v : Value) (W : World) (xs : List Int), Wr W w.heap.size v xs → ∀ k, sv.ownBlock = some k → k ≠ w.heap.size ∧ some k ≠ v.ownBlock := by
    intro hne v W xs hW k hk
    have := hsl hne k hk
    refine ⟨by omega, fun e => ?_⟩
    have := World.ownsRow.lt hW.2 k e.symm
    omega
  obtain ⟨ao, cap, hsv, hm⟩ := hb.len
  subst hsv
  have HSEP : Hid (zs ≠ [] → ∀ (v : Value) (W : World) (xs : List Int), Wr W w.heap.size v xs → ∀ k, (Value.slice ao zs.length cap).ownBlock = some k → k ≠ w.heap.size ∧ some k ≠ v.ownBlock) := hsep
  clear hsep hsl
  go_enter Tryd.func68, Tryd.ntmps68
  go_wp2_with fail
  refine (layLength_w w.heap.size _ [] _ zs _ hw0 (hb.below B0 (Nat.le_refl _)) (by decide) hz).mono ?_
  rintro e w1 ⟨rfl, v1, hw1, hs1⟩
  have B1 : Below w.heap.size w w1 := B0.trans (hw0.below hs1 (Nat.le_refl _))
  rw [List.nil_append] at hw1
  go_wp2_with fail
  refine (out_w w.heap.size v1 _ _ hw1 (by rw [fourB_len]; decide)).mono ?_
  rintro e w2 ⟨ao2, cap2, rfl, ho2, hb2⟩
  have hw2 := hw1.keepB hb2
  have B2 : Below w.heap.size w w2 := B1.trans (hb2.mono B1.size)
  go_wp2_with fail
  refine (laySum_w w.heap.size v1 _ _ _ _ hw2 ho2.bs (fourB_byt _) (ht.below B2 ht.lt) (by rw [fourB_len]; decide)).mono ?_
  rintro e w3 ⟨rfl, v3, hw3, hs3⟩
  have B3 : Below w.heap.size w w3 := B2.trans (hw2.below hs3 (Nat.le_refl _))
  have hw3' : Wr w3 w.heap.size v3 (headN zs.length) := hw3
  clear hw0 hw1 hw2 hw3 hs1 hs3 ho2 hb2 B0 B1 B2
  go_wp2_with fail
  refine (layHeld2_w w.heap.size v3 _ _ zs _ hw3' (hb.below B3 (Nat.le_refl _)) (fun hne => HSEP.out hne _ _ _ hw3') (by rw [headN_len]; decide) (by omega)).mono ?_
  rintro e w4 ⟨rfl, v4, hw4, hs4⟩
  have B4 : Below w.heap.size w w4 := B3.trans (hw3'.below hs4 (Nat.le_refl _))
  have hl4 : (headN zs.length ++ zs).length ≤ 70000 := by rw [List.length_append, headN_len]; omega
  have hy4 : Byt (headN zs.length ++ zs) := (headN_byt _).app hy
  have HY : Hid (headN zs.length ++ zs ++ fourB (sumOf (headN zs.length ++ zs) : Nat) = recN zs) := rfl
  generalize headN zs.length ++ zs = ys at *
  go_wp2_with fail
  refine (out_w w.heap.size v4 _ _ hw4 (by omega)).mono ?_
  rintro e w5 ⟨ao5, cap5, rfl, ho5, hb5⟩
  have hw5 := hw4.keepB hb5
  have B5 : Below w.heap.size w w5 := B4.trans (hb5.mono B4.size)
  go_wp2_with fail
  refine (laySum_w w.heap.size v4 _ _ _ _ hw5 ho5.bs hy4 (ht.below B5 ht.lt) (by omega)).mono ?_
  rintro e w6 ⟨rfl, v6, hw6, hs6⟩
  have B6 : Below w.heap.size w w6 := B5.trans (hw5.below hs6 (Nat.le_refl _))
  rw [HY.out] at hw6
  have hw6' : Wr w6 w.heap.size v6 (recN zs) := hw6
  clear hw3' hw4 hw5 hw6 hs4 hs6 ho5 hb5 B3 B4 B5
  go_wp2_with fail
  refine (out_w w.heap.size v6 _ _ hw6' (by rw [recN_len]; omega)).mono ?_
  rintro e w7 ⟨ao7, cap7, rfl, ho7, hb7⟩
  have B7 : Below w.heap.size w w7 := B6.trans (hb7.mono B6.size)
  go_wp2
  go_ret2
  exact ⟨ao7, cap7, rfl, ho7.mono B6.size, B7⟩
end Go.Proofs.YtahodgmdikaedaaDoor
end

section
/-
  Packets as bytes, in plain words: what an end of number id tells (encP), what it takes bytes for (rdP), and that what was told is taken.
-/
namespace Go.Proofs.YtahodgmdikaedaaDoor
open Go
/-- What a packet holds. -/
def pkB (id : Int) (p : Pk) : List Int := numOf id ++ numOf p.n ++ numOf p.ack ++ (if 0 < p.n then numOf p.row.length ++ p.row else [])
/-- A packet as it goes out. -/
def encP (id : Int) (p : Pk) : List Int := recN (pkB id p)
/-- A number taken, whatever came ahead. -/
def numE (zs : List Int) (e : Int) : Int × List Int × Int := if e ≠ 0 then (0, zs, e) else numR 10 0 0 zs
theorem numE_err {zs : List Int} {e : Int} (h : e ≠ 0) : numE zs e = (0, zs, e) := if_pos h
theorem numE_ok (zs : List Int) : numE zs 0 = numR 10 0 0 zs := if_neg (by simp)
/-- The parts of a packet: its id, number, ack, row, the error. -/
structure Pt where
  id : Int
  n : Int
  ack : Int
  row : List Int
  e : Int
def ptA (ps : List Int) : Int × List Int × Int := numR 10 0 0 ps
def ptB (ps : List Int) : Int × List Int × Int := numE (ptA ps).2.1 (ptA ps).2.2
def ptC (ps : List Int) : Int × List Int × Int := numE (ptB ps).2.1 (ptB ps).2.2
def ptD (ps : List Int) : List Int × List Int × Int := if 0 < (ptB ps).1 then bytesR (ptC ps).2.1 (ptC ps).2.2 else ([], (ptC ps).2.1, (ptC ps).2.2)
def prs (ps : List Int) : Pt := ⟨(ptA ps).1, (ptB ps).1, (ptC ps).1, (ptD ps).1, endR (ptD ps).2.1 (ptD ps).2.2⟩
/-- May it be a packet, whosever it is? -/
def Pt.ok (t : Pt) : Prop := t.e = 0 ∧ 0 ≤ t.n ∧ 0 ≤ t.ack ∧ t.row.length ≤ 4096
instance (t : Pt) : Decidable t.ok := inferInstanceAs (Decidable (_ ∧ _ ∧ _ ∧ _))
/-- Are bytes one record? -/
def oneB (zs : List Int) : Prop := decE zs = 0 ∧ decN zs = zs.length
instance (zs : List Int) : Decidable (oneB zs) := inferInstanceAs (Decidable (_ ∧ _))
/-- The packet that bytes are, for an end of number id. -/
def rdP (id : Int) (zs : List Int) : Option Pk := if oneB zs ∧ (prs (decP zs)).ok ∧ (prs (decP zs)).id = id then some ⟨(prs (decP zs)).n.toNat, (prs (decP zs)).ack.toNat, (prs (decP zs)).row⟩ else none
/-- A packet that can be told. -/
structure Pk.Good (p : Pk) : Prop where
  n : p.n ≤ 1000000000000000
  a : p.ack ≤ 1000000000000000
  b : Byt p.row
  l : p.row.length ≤ 4096
  z : p.n = 0 → p.row = []
theorem pkB_len (id : Int) (p : Pk) (h : p.Good) : (pkB id p).length ≤ 5000 := by
  have h1 := numOf_length id
  have h2 := numOf_length (p.n : Int)
  have h3 := numOf_length (p.ack : Int)
  have h4 := numOf_length (p.row.length : Int)
  have h5 := h.l
  unfold pkB
  split <;> simp only [List.length_append, List.length_nil] <;> omega
theorem pkB_byt (id : Int) (hi : -9223372036854775808 ≤ id ∧ id ≤ 9223372036854775807) (p : Pk) (h : p.Good) : Byt (pkB id p) := by
  have h1 := h.n
  have h2 := h.a
  have h5 := h.l
  unfold pkB
  refine (((numOf_byt id hi.1 hi.2).app (numOf_byt _ (by omega) (by omega))).app (numOf_byt _ (by omega) (by omega))).app ?_
  split
  · exact (numOf_byt _ (by omega) (by omega)).app h.b
  · intro z hz; cases hz
theorem encP_len (id : Int) (p : Pk) (h : p.Good) : (encP id p).length ≤ 5012 := by
  have := pkB_len id p h
  unfold encP
  rw [recN_len]
  omega
theorem encP_byt (id : Int) (hi : -9223372036854775808 ≤ id ∧ id ≤ 9223372036854775807) (p : Pk) (h : p.Good) : Byt (encP id p) := recN_byt (pkB_byt id hi p h)
theorem prs_pkB (id : Int) (hi : -9223372036854775808 ≤ id ∧ id ≤ 9223372036854775807) (p : Pk) (h : p.Good) : prs (pkB id p) = ⟨id, p.n, p.ack, p.row, 0⟩ := by
  have h1 := h.n
  have h2 := h.a
  have h5 := h.l
  have eA : ptA (pkB id p) = (id, numOf p.n ++ (numOf p.ack ++ (if 0 < p.n then numOf p.row.length ++ p.row else [])), 0) := by
    unfold ptA pkB
    rw [List.append_assoc, List.append_assoc, numR_numOf id _ hi.1 hi.2]
  have eB : ptB (pkB id p) = ((p.n : Int), numOf p.ack ++ (if 0 < p.n then numOf p.row.length ++ p.row else []), 0) := by
    unfold ptB
    rw [eA, numE_ok, numR_numOf _ _ (by omega) (by omega)]
  have eC : ptC (pkB id p) = ((p.ack : Int), (if 0 < p.n then numOf p.row.length ++ p.row else []), 0) := by
    unfold ptC
    rw [eB, numE_ok, numR_numOf _ _ (by omega) (by omega)]
  have eD : ptD (pkB id p) = (p.row, [], 0) := by
    unfold ptD
    rw [eB, eC]
    by_cases c : 0 < p.n
    · rw [if_pos (show (0 : Int) < (p.n : Int) by omega), if_pos c]
      have e := numR_numOf (p.row.length : Int) p.row (by omega) (by omega)
      unfold bytesR
      rw [if_neg (by simp), e, if_neg (by simp), if_neg (by simp; omega), if_neg (by simp)]
      simp
    · rw [if_neg (show ¬ (0 : Int) < (p.n : Int) by omega), if_neg c, h.z (by omega)]
  unfold prs
  rw [eA, eB, eC, eD]
  rfl
theorem one_enc (id : Int) (hi : -9223372036854775808 ≤ id ∧ id ≤ 9223372036854775807) (p : Pk) (h : p.Good) : oneB (encP id p) ∧ decP (encP id p) = pkB id p := by
  have hl := pkB_len id p h
  have := dec_rec (pkB id p) [] (pkB_byt id hi p h) (by omega)
  rw [List.append_nil] at this
  exact ⟨⟨this.1, by rw [show encP id p = recN (pkB id p) from rfl, this.2.2, recN_len]⟩, this.2.1⟩
/-- What was told is taken; by an end of another number it isn't. -/
theorem rd_enc (id jd : Int) (hi : -9223372036854775808 ≤ id ∧ id ≤ 9223372036854775807) (p : Pk) (h : p.Good) : rdP jd (encP id p) = if id = jd then some p else none := by
  obtain ⟨h1, h2⟩ := one_enc id hi p h
  unfold rdP
  rw [h2, prs_pkB id hi p h]
  have ok : (⟨id, p.n, p.ack, p.row, 0⟩ : Pt).ok := ⟨rfl, by show (0 : Int) ≤ (p.n : Int); omega, by show (0 : Int) ≤ (p.ack : Int); omega, h.l⟩
  by_cases c : id = jd
  · rw [if_pos c, if_pos ⟨h1, ok, c⟩]
    rfl
  · rw [if_neg c, if_neg fun h => c h.2.2]
theorem rdP_row {id : Int} {zs : List Int} {p : Pk} (h : rdP id zs = some p) : p.row.length ≤ 4096 ∧ oneB zs ∧ p.row = (prs (decP zs)).row := by
  unfold rdP at h
  split at h
  · next c =>
    obtain rfl := Option.some.inj h
    exact ⟨c.2.1.2.2.2, c.1, rfl⟩
  · cases h
end Go.Proofs.YtahodgmdikaedaaDoor
end
