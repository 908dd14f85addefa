/-
  The document's Link that has Sent nothing: New, goes, packet, by contracts.
-/
import Derived.Test.YtahodgmdikaedaaDoorDcOpen
import Derived.Test.YtahodgmdikaedaaDoorM11
import Derived.Test.YtahodgmdikaedaaDoorM07
import Derived.Test.YtahodgmdikaedaaDoorM05
namespace Go.Proofs.YtahodgmdikaedaaDoor
open Go.RowKit
/-- The document's Link's cells. -/
def dkC (id : Int) (v : Value) (s : Lk) : List Value := [.int .i64 id, v, .int .i64 (s.way : Int), .int .i64 (s.first : Int), .int .i64 (s.came : Int), .int .i64 (s.since : Int), .int .i64 (s.sent : Int), .int .i64 (s.vain : Int)]
/-- One at rest: nothing was Sent at it. -/
structure Dq (w : World) (lb : Nat) (id : Int) (s : Lk) : Prop where
  q : Cw w lb (dkC id (.slice none 0 0) s) 63
  l : s.L = []
  w0 : s.way = 0
  f : s.first = 1
  i : -9223372036854775808 ≤ id ∧ id ≤ 9223372036854775807
  bc : s.came ≤ 100000000000000
  bs : s.sent ≤ 100000000000000
  bv : s.vain ≤ 100000000000000
section
variable {w w' : World} {lb : Nat} {id : Int} {s : Lk}
theorem Dq.keep (h : Dq w lb id s) (hk : w'.heap[lb]? = w.heap[lb]?) : Dq w' lb id s := ⟨h.q.keep hk, h.l, h.w0, h.f, h.i, h.bc, h.bs, h.bv⟩
theorem Dq.cells (h : Dq w lb id s) : w.cell? ⟨lb, 0, none⟩ = some (.int .i64 id) ∧ w.cell? ⟨lb, 1, none⟩ = some (.slice none 0 0) ∧ w.cell? ⟨lb, 2, none⟩ = some (.int .i64 0) ∧ w.cell? ⟨lb, 3, none⟩ = some (.int .i64 1) ∧ w.cell? ⟨lb, 4, none⟩ = some (.int .i64 (s.came : Int)) ∧ w.cell? ⟨lb, 6, none⟩ = some (.int .i64 (s.sent : Int)) ∧ w.cell? ⟨lb, 7, none⟩ = some (.int .i64 (s.vain : Int)) ∧ ∀ i, w.frozen? ⟨lb, i, none⟩ = false := by
  have h2 : w.cell? ⟨lb, 2, none⟩ = some (.int .i64 (s.way : Int)) := h.q.cell 2
  have h3 : w.cell? ⟨lb, 3, none⟩ = some (.int .i64 (s.first : Int)) := h.q.cell 3
  rw [h.w0] at h2
  rw [h.f] at h3
  exact ⟨h.q.cell 0, h.q.cell 1, h2, h3, h.q.cell 4, h.q.cell 6, h.q.cell 7, h.q.frozen⟩
set_option maxRecDepth 20000 in
theorem dnew_any (w : World) (id : Int) (hi : -9223372036854775808 ≤ id ∧ id ≤ 9223372036854775807) : Calls Tryd.prog 21 #[.int .i64 id] w fun e w' => e = .returned (.pointer (some ⟨w.heap.size, 0, none⟩)) ∧ Dq w' w.heap.size id newL ∧ Below w.heap.size w w' ∧ w'.heap.size = w.heap.size + 1 := by
  go_enter Tryd.func21, Tryd.ntmps21
  go_wp2_with fail
  go_ret
  exact ⟨rfl, ⟨Cw.new w (dkC id (.slice none 0 0) newL) 63, rfl, rfl, rfl, hi, Nat.zero_le _, Nat.zero_le _, Nat.zero_le _⟩, (Below.refl _ _).alloc (Nat.le_refl _) _, World.size_alloc _ _⟩
set_option maxHeartbeats 1600000 in
set_option maxRecDepth 20000 in
theorem dgoes0 (h : Dq w lb id s) : Calls Tryd.prog 46 #[.pointer (some ⟨lb, 0, none⟩)] w fun e w' => e = .returned (.slice none 0 0) ∧ Sm w w' := by
  obtain ⟨_, c1, c2, _⟩ := h.cells
  clear h
  go_enter Tryd.func46, Tryd.ntmps46
  go_wp2_with fail
  refine wp_loop_rounds 1 ?_
  rw [rounds_succ]
  go_wp2_with fail
  go_quiet (fail)
  go_wp2_with fail
  go_ret
  exact ⟨rfl, Sm.drewN _ _⟩
set_option maxHeartbeats 3200000 in
set_option maxRecDepth 20000 in
theorem dpacket0 (h : Dq w lb id s) (hs : s.sent < 100000000000000) : Calls Tryd.prog 47 #[.pointer (some ⟨lb, 0, none⟩), .int .i64 0] w fun e w' => ∃ ao cap, e = .returned (.slice ao (encP id ⟨0, s.came, []⟩).length cap) ∧ Ow w' w.heap.size (.slice ao (encP id ⟨0, s.came, []⟩).length cap) (encP id ⟨0, s.came, []⟩) ∧ Dq w' lb id s.sent1 ∧ Gr (fun k => k = lb) w w' := by
  have hI := hid_into h.i
  have hC := h.bc
  have hQ := hid_into h
  have hlt := hid_into h.q.lt
  have l1 := hid_into (numOf_length id)
  have l2 := hid_into (numOf_length 0)
  have l3 := hid_into (numOf_length (s.came : Int))
  have hgd : Pk.Good ⟨0, s.came, []⟩ := ⟨Nat.zero_le _, (by show s.came ≤ _; omega), (fun z hz => by cases hz), Nat.zero_le _, fun _ => rfl⟩
  have hY := hid_into (pkB_byt id h.i _ hgd)
  have hL := hid_into (pkB_len id _ hgd)
  have hP : Hid (numOf id ++ numOf 0 ++ numOf (s.came : Int) = pkB id ⟨0, s.came, []⟩) := by
    show _ = _
    unfold pkB
    rw [if_neg (by simp), List.append_nil]
    rfl
  obtain ⟨c0, _, _, _, c4, c6, _, fz⟩ := h.cells
  have N1 : Hid (∀ W, Calls Tryd.prog 31 #[.int .i64 id] W fun e w' => ∃ ao cap, e = .returned (.slice ao (numOf id).length cap) ∧ Ow w' W.heap.size (.slice ao (numOf id).length cap) (numOf id) ∧ Below W.heap.size W w') := fun W => refNum_any id W hI.out.1 hI.out.2
  have N2 : Hid (∀ W, Calls Tryd.prog 31 #[.int .i64 0] W fun e w' => ∃ ao cap, e = .returned (.slice ao (numOf 0).length cap) ∧ Ow w' W.heap.size (.slice ao (numOf 0).length cap) (numOf 0) ∧ Below W.heap.size W w') := fun W => refNum_any 0 W (by decide) (by decide)
  have N3 : Hid (∀ W, Calls Tryd.prog 31 #[.int .i64 (s.came : Int)] W fun e w' => ∃ ao cap, e = .returned (.slice ao (numOf (s.came : Int)).length cap) ∧ Ow w' W.heap.size (.slice ao (numOf (s.came : Int)).length cap) (numOf (s.came : Int)) ∧ Below W.heap.size W w') := fun W => refNum_any (s.came : Int) W (by omega) (by omega)
  have NE : Hid (∀ sv W, Bs W sv (pkB id ⟨0, s.came, []⟩) → Calls Tryd.prog 33 #[sv] W fun e w' => ∃ ao cap, e = .returned (.tuple #[.slice ao (encP id ⟨0, s.came, []⟩).length cap, .int .i64 0]) ∧ Ow w' W.heap.size (.slice ao (encP id ⟨0, s.came, []⟩).length cap) (encP id ⟨0, s.came, []⟩) ∧ Below W.heap.size W w') := fun sv W hb => renc_any sv (pkB id ⟨0, s.came, []⟩) W hb hY.out (by have := hL.out; omega)
  clear h hgd hI hC hY hL
  generalize encP id ⟨0, s.came, []⟩ = EP at *
  generalize pkB id ⟨0, s.came, []⟩ = PP at *
  generalize numOf id = A at *
  generalize numOf 0 = B0 at *
  generalize numOf (s.came : Int) = C0 at *
  generalize hD : A ++ B0 = D at *
  have lD : Hid (D.length = A.length + B0.length) := by show _ = _; rw [← hD, List.length_append]
  have lP : Hid (PP.length = D.length + C0.length) := by show _ = _; rw [← hP.out, List.length_append]
  replace hD := hid_into hD
  go_enter Tryd.func47, Tryd.ntmps47
  go_wp2_with fail
  refine (N1.out _).mono ?_
  rintro e w1 ⟨ao1, cap1, rfl, ho1, hb1⟩
  go_wp2_with fail
  refine (N2.out _).mono ?_
  rintro e w2 ⟨ao2, cap2, rfl, ho2, hb2⟩
  have B2 : Below w.heap.size w w2 := hb1.trans (hb2.mono hb1.size)
  have ho1' : Ow w2 w.heap.size (.slice ao1 A.length cap1) A := ho1.keep fun k hk hlt => hb2.block k hlt
  go_wp2_with (at_builtin; refine wpList_append_bs _ rfl (.tmp 12) (.tmp 14) rfl w.heap.size _ A rfl ho1' _ B0 rfl ho2.bs (by have := l1.out; have := l2.out; omega) B2.size ?_)
  intro ao3 cap3 w3 ho3 hg3 hat3
  have B3 : Below w.heap.size w w3 := B2.trans (grown_below hg3 B2.size ho1'.from)
  rw [hD.out, ← lD.out] at ho3
  rw [← lD.out]
  have c4' : w3.cell? ⟨lb, 4, none⟩ = some (.int .i64 (s.came : Int)) := by rw [← c4]; exact World.cell?_of_block (B3.block lb hlt.out)
  clear ho1 ho1' ho2 hg3 hat3 hb1 hb2 B2 N1 N2
  go_wp2_with fail
  refine (N3.out _).mono ?_
  rintro e w4 ⟨ao4, cap4, rfl, ho4, hb4⟩
  have B4 : Below w.heap.size w w4 := B3.trans (hb4.mono B3.size)
  have ho3' : Ow w4 w.heap.size (.slice ao3 D.length cap3) D := ho3.keep fun k hk hlt => hb4.block k hlt
  go_wp2_with (at_builtin; refine wpList_append_bs _ rfl (.tmp 16) (.tmp 21) rfl w.heap.size _ D rfl ho3' _ C0 rfl ho4.bs (by have := l1.out; have := l2.out; have := l3.out; have := lD.out; omega) B4.size ?_)
  intro ao5 cap5 w5 ho5 hg5 hat5
  have B5 : Below w.heap.size w w5 := B4.trans (grown_below hg5 B4.size ho3'.from)
  rw [← lP.out] at ho5 ⊢
  rw [hP.out] at ho5
  have Q5 : Dq w5 lb id s := hQ.out.keep (B5.block lb hlt.out)
  have c6' : w5.cell? ⟨lb, 6, none⟩ = some (.int .i64 (s.sent : Int)) := Q5.cells.2.2.2.2.2.1
  have fz' := Q5.q.frozen
  clear ho3 ho3' ho4 hg5 hat5 hb4 B3 B4 c4'
  have Q6 : Dq (w5.setCell ⟨lb, 6, none⟩ (.int .i64 ((s.sent : Int) + 1))) lb id s.sent1 := ⟨Q5.q.set 6 _, Q5.l, Q5.w0, Q5.f, Q5.i, Q5.bc, hs, Q5.bv⟩
  have G6 : Gr (fun k => k = lb) w (w5.setCell ⟨lb, 6, none⟩ (.int .i64 ((s.sent : Int) + 1))) := (Gr.of_below B5 (fun k => k = lb) fun k hk hb => by omega).trans (Gr.setCell (F := fun k => k = lb) _ _ _ rfl) fun k hk => Or.inl hk
  have ho6 : Ow (w5.setCell ⟨lb, 6, none⟩ (.int .i64 ((s.sent : Int) + 1))) w.heap.size (.slice ao5 PP.length cap5) PP := ho5.keep fun k hk hl => Below.heap_setCell _ _ _ _ fun e => by
    have h1 := (World.ownsRow.lt ho5 k hk).1
    have h2 := hlt.out
    have h3 : k = lb := e
    omega
  clear ho5 Q5
  go_wp2_with fail
  refine (NE.out _ _ ho6.bs).mono ?_
  rintro e w7 ⟨ao7, cap7, rfl, ho7, hb7⟩
  have sz6 : Hid (w.heap.size ≤ (w5.setCell ⟨lb, 6, none⟩ (.int .i64 ((s.sent : Int) + 1))).heap.size) := G6.size
  have Q7 : Dq w7 lb id s.sent1 := Q6.keep (hb7.block lb Q6.q.lt)
  have G7 : Gr (fun k => k = lb) w w7 := G6.trans (Gr.of_below hb7 (fun _ => False) fun k hk hb => by omega) fun k hk => hk.elim
  clear Q6 G6 ho6 hb7
  go_wp2_with fail
  go_ret
  exact ⟨ao7, cap7, rfl, ho7.mono sz6.out, Q7, G7⟩
end
end Go.Proofs.YtahodgmdikaedaaDoor
