/-
  Joined from: LkQue, DcOpen, DcPkt, HeldL.
-/
import Derived.Test.YtahodgmdikaedaaDoorM10
import Derived.ArgAppend
import Derived.Test.YtahodgmdikaedaaDoorM12
import Derived.Test.YtahodgmdikaedaaDoorM16
import Derived.Test.YtahodgmdikaedaaDoorM11
import Derived.Test.YtahodgmdikaedaaDoorM07
import Derived.Test.YtahodgmdikaedaaDoorM05
import Derived.Deep.RegionHeld3
section
/-
  A row of one's own that may begin behind its block's start (a queue): read, shortened in front, appended to.
-/
namespace Go.Proofs.YtahodgmdikaedaaDoor
open Go.RowKit
/-- v is a row of n elements of the given size, its cells xs, in a block of one's own from base on. -/
def Qr (w : World) (base : Nat) (e : TypeId) (size : Nat) (v : Value) (n : Nat) (xs : List Value) : Prop :=
  xs.length = n * size ∧ ((v = .slice none 0 0 ∧ n = 0) ∨
    ∃ g off cap cur, v = .slice (some ⟨g, off, none⟩) n cap ∧ base ≤ g ∧ w.heap[g]? = some (.cells cur e (0, 0)) ∧ n ≤ cap ∧ cap ≤ maxLen ∧ off + cap * size ≤ cur.size ∧ (cur.toList.drop off).take (n * size) = xs)
section
variable {w w' : World} {base : Nat} {e : TypeId} {size : Nat} {v : Value} {n : Nat} {xs : List Value}
theorem Qr.nil (w : World) (base : Nat) (e : TypeId) (size : Nat) : Qr w base e size (.slice none 0 0) 0 [] := ⟨by simp, Or.inl ⟨rfl, rfl⟩⟩
theorem Qr.own (h : w.ownsRow base e size v n xs) : Qr w base e size v n xs := by
  obtain ⟨h1, h2⟩ := h
  refine ⟨h1, ?_⟩
  rcases h2 with h2 | ⟨g, cap, cur, a1, a2, a3, a4, a5, a6, a7⟩
  · exact Or.inl h2
  · exact Or.inr ⟨g, 0, cap, cur, a1, a2, a3, a4, a5, by omega, by rw [List.drop_zero]; exact a7⟩
theorem Qr.lt (h : Qr w base e size v n xs) : ∀ k, v.ownBlock = some k → base ≤ k ∧ k < w.heap.size := fun k hk => by
  rcases h.2 with ⟨rfl, _⟩ | ⟨g, off, cap, cur, rfl, a2, a3, _⟩
  · cases hk
  · have : g = k := Option.some.inj hk
    subst this
    exact ⟨a2, (Array.getElem?_eq_some_iff.1 a3).1⟩
theorem Qr.keep (h : Qr w base e size v n xs) (hk : ∀ k, v.ownBlock = some k → k < w.heap.size → w'.heap[k]? = w.heap[k]?) : Qr w' base e size v n xs := by
  obtain ⟨h1, h2⟩ := h
  refine ⟨h1, ?_⟩
  rcases h2 with h2 | ⟨g, off, cap, cur, rfl, a2, a3, a4⟩
  · exact Or.inl h2
  · exact Or.inr ⟨g, off, cap, cur, rfl, a2, (hk g rfl (Array.getElem?_eq_some_iff.1 a3).1).trans a3, a4⟩
theorem Qr.mono {base' : Nat} (h : Qr w base e size v n xs) (hb : base' ≤ base) : Qr w base' e size v n xs := by
  obtain ⟨h1, h2⟩ := h
  refine ⟨h1, ?_⟩
  rcases h2 with h2 | ⟨g, off, cap, cur, a1, a2, a3⟩
  · exact Or.inl h2
  · exact Or.inr ⟨g, off, cap, cur, a1, Nat.le_trans hb a2, a3⟩
theorem Qr.form (h : Qr w base e size v n xs) : ∃ ao cap, v = .slice ao n cap := by
  rcases h.2 with ⟨rfl, h0⟩ | ⟨g, off, cap, cur, rfl, _⟩
  · exact ⟨none, 0, by rw [h0]⟩
  · exact ⟨_, cap, rfl⟩
/-- A cell of the row. -/
theorem Qr.cell (h : Qr w base e size v n xs) (hn : 0 < n) : ∃ g off cap, v = .slice (some ⟨g, off, none⟩) n cap ∧ base ≤ g ∧ n ≤ cap ∧ cap ≤ maxLen ∧ g < w.heap.size ∧ (∀ j u, xs[j]? = some u → w.cell? ⟨g, off + j, none⟩ = some u) ∧ ∀ j, w.frozen? ⟨g, j, none⟩ = false := by
  rcases h.2 with ⟨_, h0⟩ | ⟨g, off, cap, cur, rfl, a2, a3, a4, a5, a6, a7⟩
  · omega
  · refine ⟨g, off, cap, rfl, a2, a4, a5, (Array.getElem?_eq_some_iff.1 a3).1, fun j u hu => ?_, fun j => by simp only [World.frozen?, a3]; simp⟩
    rw [cell_of_row w g (off + j) _ _ _ a3, ← Array.getElem?_toList]
    rw [← a7] at hu
    have hj : j < n * size := by
      have := (List.getElem?_eq_some_iff.1 hu).1
      rw [List.length_take] at this
      omega
    rw [List.getElem?_take_of_lt hj, List.getElem?_drop] at hu
    exact hu
/-- Without the first one. -/
theorem Qr.tail (h : Qr w base e size v (n + 1) xs) : ∃ g off cap, v = .slice (some ⟨g, off, none⟩) (n + 1) cap ∧ n + 1 ≤ cap ∧ cap ≤ maxLen ∧ Qr w base e size (.slice (if cap = 1 then some ⟨g, off, none⟩ else some ⟨g, off + size, none⟩) n (cap - 1)) n (xs.drop size) := by
  obtain ⟨h1, h2⟩ := h
  rcases h2 with ⟨_, h0⟩ | ⟨g, off, cap, cur, rfl, a2, a3, a4, a5, a6, a7⟩
  · omega
  · refine ⟨g, off, cap, rfl, a4, a5, by rw [List.length_drop, h1, Nat.add_mul]; omega, Or.inr ?_⟩
    have a8 : (cap - 1) * size + size = cap * size := by
      have : cap = (cap - 1) + 1 := by omega
      rw [this, Nat.add_mul]
      simp
    by_cases c : cap = 1
    · have hn0 : n = 0 := by omega
      subst hn0
      refine ⟨g, off, cap - 1, cur, by rw [if_pos c], a2, a3, by omega, by omega, ?_, ?_⟩
      · rw [c, Nat.sub_self, Nat.zero_mul]; omega
      · rw [Nat.zero_mul, List.take_zero]
        refine (List.eq_nil_of_length_eq_zero ?_).symm
        rw [List.length_drop, h1]; omega
    · refine ⟨g, off + size, cap - 1, cur, by rw [if_neg c], a2, a3, by omega, by omega, by omega, ?_⟩
      rw [← a7, List.drop_take, List.drop_drop]
      congr 1
      rw [Nat.add_mul]; omega
end
/-- Appended to. -/
theorem Qr.append {w : World} {base : Nat} {e : TypeId} {size bytes : Nat} {v : Value} {n : Nat} {xs : List Value} (h : Qr w base e size v n xs) (t : TypeId) (z : Value) (ht : Tryd.prog.underlying t = some (.slice e))
    (hi : (Tryd.prog.info? e).map (fun i => (i.zero, i.size, i.bytes)) = some (some z, size, bytes)) (hzs : z.cells.size = size) (hsz : 0 < size)
    (a : Addr) (m c : Nat) (news : List Value) (hl : news.length = m * size) (hnews : ∀ j u, news[j]? = some u → w.cell? (a.add j) = some u) (h1 : ∀ u ∈ news, u.oneCell' = true)
    (h63 : n + m ≤ maxLen) (hbytes : (n + m) * bytes ≤ 140737488355328) (hbase : base ≤ w.heap.size) :
    ∃ ao cap w', (∀ ty, (Builtin.append_ #[t, t] ty #[v, .slice (some a) m c]).run Tryd.prog w = .ok (.slice ao (n + m) cap) w') ∧ Qr w' base e size (.slice ao (n + m) cap) (n + m) (xs ++ news) ∧ w.grownBy w' v.ownBlock ∧ ((Value.slice ao (n + m) cap).ownBlock = v.ownBlock ∨ ∃ k, (Value.slice ao (n + m) cap).ownBlock = some k ∧ w.heap.size ≤ k) := by
  obtain ⟨i0, hi0, hzz⟩ := Option.map_eq_some_iff.1 hi
  simp only [Prod.mk.injEq] at hzz
  obtain ⟨hz0, hz1, hz2⟩ := hzz
  obtain ⟨g1, h2⟩ := h
  have hlen : (xs ++ news).length = (n + m) * size := by rw [List.length_append, g1, hl, Nat.add_mul]
  rcases h2 with ⟨rfl, rfl⟩ | ⟨g, off, cap, cur, rfl, a2, a3, a4, a5, a6, a7⟩
  · obtain rfl : xs = [] := List.eq_nil_of_length_eq_zero (by rw [g1, Nat.zero_mul])
    obtain ⟨v', w', hrun, hown, hg, _, hat⟩ := run_append_own_at (P := Tryd.prog) w base t 0 e i0 z size bytes ht hi0 hz0 hz1 hz2 hzs hsz (.slice none 0 0) 0 [] ⟨by simp, Or.inl ⟨rfl, rfl⟩⟩ a m c news hl hnews h1 h63 hbytes hbase
    obtain ⟨ao, cap, rfl⟩ := (Qr.own hown).form
    exact ⟨ao, cap, w', fun ty => hrun, Qr.own hown, hg, hat.imp id fun e => ⟨_, e, Nat.le_refl _⟩⟩
  · have hcellg : ∀ j, w.cell? ⟨g, j, none⟩ = cur[j]? := fun j => cell_of_row w g j _ _ _ a3
    by_cases hr : n + m ≤ cap
    · have hcs : n * size + m * size ≤ cap * size := by rw [← Nat.add_mul]; exact Nat.mul_le_mul_right _ hr
      have hst : ∀ j, j < news.length → off + n * size + j < cur.size := fun j hj => by omega
      have hrun := fun ty => run_append_room_cells (P := Tryd.prog) w t ty e i0 ht hi0 g off n cap a m c news (by rw [hz1]; exact hl) hnews h1 hr (fun j hj => by rw [hz1, hcellg, Array.getElem?_eq_getElem (hst j hj)]; rfl) (fun j hj => by simp only [World.frozen?, a3]; simp)
      rw [hz1] at hrun
      have hs1 : cur.toList.length = cur.size := Array.length_toList
      have hcw : Cw w g (cur.toList.take (off + n * size) ++ (cur.toList.drop (off + n * size)).take news.length ++ (cur.toList.drop (off + n * size)).drop news.length) e := by
        rw [List.append_assoc, List.take_append_drop, List.take_append_drop]
        show w.heap[g]? = _
        rw [Array.toArray_toList]
        exact a3
      have hset := setCells_mid g e ((cur.toList.drop (off + n * size)).drop news.length) news (cur.toList.take (off + n * size)) ((cur.toList.drop (off + n * size)).take news.length) w hcw (by rw [List.length_take, List.length_drop]; omega)
      rw [show (cur.toList.take (off + n * size)).length = off + n * size by rw [List.length_take]; omega] at hset
      refine ⟨some ⟨g, off, none⟩, cap, _, hrun, ⟨hlen, Or.inr ⟨g, off, cap, _, rfl, a2, hset, hr, a5, ?_, ?_⟩⟩, ?_, Or.inl rfl⟩
      · simp only [List.size_toArray, List.length_append, List.length_take, List.length_drop]
        omega
      · simp only [List.append_assoc]
        rw [List.drop_append_of_le_length (by rw [List.length_take]; omega), List.drop_take, Nat.add_sub_cancel_left, a7, ← List.append_assoc, ← hlen]
        exact List.take_left
      · have := Only.sets g (off + n * size) w news
        exact ⟨this.os, this.tape, this.output, by rw [this.size]; exact Nat.le_refl _, fun k hk hne => this.block k fun e => hne (by rw [e]; rfl)⟩
    · have holds : ∀ j u, xs[j]? = some u → w.cell? ((⟨g, off, none⟩ : Addr).add j) = some u := fun j u hu => by
        rw [Addr.add_lit, hcellg, ← Array.getElem?_toList]
        rw [← a7] at hu
        have hj : j < n * size := by
          have := (List.getElem?_eq_some_iff.1 hu).1
          rw [List.length_take] at this
          omega
        rw [List.getElem?_take_of_lt hj, List.getElem?_drop] at hu
        exact hu
      obtain ⟨v', w', hrun, hown, hg⟩ := run_append_arg_grows (P := Tryd.prog) w t 0 e i0 z size bytes ht hi0 hz0 hz1 hz2 hzs hsz ⟨g, off, none⟩ n cap xs g1 holds a m c news hl hnews (by omega) h63 hbytes
      obtain ⟨ao, cap', rfl⟩ := (Qr.own hown).form
      have hlt := World.ownsRow.lt hown
      refine ⟨ao, cap', w', fun ty => hrun, (Qr.own hown).mono hbase, ⟨hg.os, hg.tape, hg.output, hg.size, fun k hk _ => hg.block k hk (by simp)⟩, Or.inr ?_⟩
      rcases hown.2 with ⟨_, h0⟩ | ⟨g', _, _, e1, _⟩
      · omega
      · simp only [Value.slice.injEq] at e1
        obtain ⟨rfl, _, _⟩ := e1
        exact ⟨g', rfl, (hlt g' rfl).1⟩
end Go.Proofs.YtahodgmdikaedaaDoor
end

section
/-
  The document's Open and its Reader's Num whatever came ahead, by contracts.
-/
namespace Go.Proofs.YtahodgmdikaedaaDoor
open Go.RowKit
/-- What Open holds, and its error. -/
def opP (zs : List Int) : List Int := if oneB zs then decP zs else []
def opE (zs : List Int) : Int := if decE zs ≠ 0 then decE zs else if decN zs = zs.length then 0 else 3
theorem opE_one (zs : List Int) : opE zs = 0 ↔ oneB zs := by
  unfold opE oneB
  by_cases h1 : decE zs = 0
  · rw [if_neg (fun h => h h1)]
    by_cases h2 : decN zs = zs.length
    · rw [if_pos h2]; exact ⟨fun _ => ⟨h1, h2⟩, fun _ => rfl⟩
    · rw [if_neg h2]; exact ⟨fun h => absurd h (by decide), fun h => absurd h.2 h2⟩
  · rw [if_pos h1]; exact ⟨fun h => absurd h h1, fun h => absurd h.1 h1⟩
theorem opP_byt {zs : List Int} (h : Byt zs) : Byt (opP zs) := by
  unfold opP
  split
  · exact decP_byt h
  · intro z hz; cases hz
theorem opP_len (zs : List Int) : (opP zs).length ≤ zs.length := by
  unfold opP
  split
  · exact decP_len
  · simp
section
variable {w : World} {sv : Value} {zs : List Int}
set_option maxHeartbeats 1600000 in
set_option maxRecDepth 20000 in
theorem dopen_any (hb : Bs w sv zs) (hy : Byt zs) (hz : zs.length ≤ 1000000) :
    Calls Tryd.prog 42 #[sv] w fun e w' => ∃ ao cap, e = .returned (.tuple #[.slice ao (opP zs).length cap, .int .i64 (opE zs)]) ∧ Ow w' w.heap.size (.slice ao (opP zs).length cap) (opP zs) ∧ Below w.heap.size w w' := by
  have C := hid_into (show Calls Tryd.prog 54 #[sv] w (fun e w' => ∃ ao cap, e = .returned (.tuple #[.slice ao (decP zs).length cap, .int .i64 (decN zs), .int .i64 (decE zs)]) ∧ Ow w' w.heap.size (.slice ao (decP zs).length cap) (decP zs) ∧ Below w.heap.size w w') from rdec_any sv zs w hb hy (by omega))
  obtain ⟨ao, cap, rfl, hm⟩ := hb.len
  clear hb hy hz
  by_cases c1 : decE zs = 0
  · by_cases c2 : decN zs = zs.length
    · have e1 : opE zs = 0 := (opE_one zs).2 ⟨c1, c2⟩
      have e2 : opP zs = decP zs := if_pos ⟨c1, c2⟩
      rw [e1, e2]
      rw [c1, c2] at C
      clear e1 e2 c1 c2
      generalize decP zs = P at *
      go_enter Tryd.func42, Tryd.ntmps42
      go_wp2_with (go_at_call 54; refine C.out.mono ?_; rintro e w1 ⟨ao1, cap1, rfl, ho, hB⟩)
      go_ret2
      exact ⟨ao1, cap1, rfl, ho, hB⟩
    · have e1 : opE zs = 3 := by unfold opE; rw [if_neg (fun h => h c1), if_neg c2]
      have e2 : opP zs = [] := if_neg fun h => c2 h.2
      have c2' : ¬ ((decN zs : Nat) : Int) = (zs.length : Int) := by omega
      rw [e1, e2]
      rw [c1] at C
      clear e1 e2 c1 c2
      generalize decP zs = P at *
      generalize decN zs = N at *
      go_enter Tryd.func42, Tryd.ntmps42
      go_wp2_with (go_at_call 54; refine C.out.mono ?_; rintro e w1 ⟨ao1, cap1, rfl, ho, hB⟩)
      go_ret2
      exact ⟨none, 0, rfl, World.ownsRow_nil _ _ _ _, hB⟩
  · have e1 : opE zs = decE zs := if_pos c1
    have e2 : opP zs = [] := if_neg fun h => c1 h.1
    rw [e1, e2]
    clear e1 e2
    generalize decP zs = P at *
    generalize decN zs = N at *
    generalize decE zs = E at *
    go_enter Tryd.func42, Tryd.ntmps42
    go_wp2_with (go_at_call 54; refine C.out.mono ?_; rintro e w1 ⟨ao1, cap1, rfl, ho, hB⟩)
    go_ret2
    exact ⟨none, 0, rfl, World.ownsRow_nil _ _ _ _, hB⟩
end
set_option maxHeartbeats 1600000 in
theorem fnumE_any (b : Nat) (v : Value) (zs : List Int) (e : Int) (w : World) (hr : Rf w b v zs e) (hi : Inv zs e) (hz : Byt zs) :
    Calls Tryd.prog 43 #[.pointer (some ⟨b, 0, none⟩)] w fun r w' => r = .returned (.int .i64 (numE zs e).1) ∧ Fleft w b v w' (numE zs e).2.1 (numE zs e).2.2 := by
  by_cases he : e = 0
  · subst he
    rw [numE_ok]
    exact fnum_any b v zs w hr hz
  · rw [numE_err he]
    have C := fbyte_u b v zs e w hr hi
    rw [rowR_err he] at C
    have C := hid_into C
    clear hr hi hz
    go_enter Tryd.func43, Tryd.ntmps43
    go_wp2
    refine wp_loop_rounds 1 ?_
    rw [rounds_succ]
    go_wp2_with (go_at_call 55; refine C.out.mono ?_; rintro r w1 ⟨rfl, v1, hr1, hs1, ho1⟩; have hc1 := hr1.cell1)
    go_ret
    exact ⟨rfl, v1, hr1, hs1, ho1⟩
theorem numE_inv (zs : List Int) (e : Int) (h : Inv zs e) : Inv (numE zs e).2.1 (numE zs e).2.2 := by
  unfold numE
  split
  · exact h
  · exact numR_inv 10 0 0 zs
end Go.Proofs.YtahodgmdikaedaaDoor
end

section
/-
  The document's Link that has Sent nothing: New, goes, packet, by contracts.
-/
namespace Go.Proofs.YtahodgmdikaedaaDoor
open Go.RowKit
/-- The document's Link's cells. -/
def dkC (id : Int) (v : Value) (s : Lk) : List Value := [.int .i64 id, v, .int .i64 (s.way : Int), .int .i64 (s.first : Int), .int .i64 (s.came : Int), .int .i64 (s.since : Int), .int .i64 (s.sent : Int), .int .i64 (s.vain : Int)]
/-- One at rest: nothing was Sent at it. -/
structure Dq (w : World) (lb : Nat) (id : Int) (s : Lk) : Prop where
  q : Cw w lb (dkC id (.slice none 0 0) s) 63
  l : s.L = []
  w0 : s.way = 0
  f : s.first = 1
  i : -9223372036854775808 ≤ id ∧ id ≤ 9223372036854775807
  bc : s.came ≤ 100000000000000
  bs : s.sent ≤ 100000000000000
  bv : s.vain ≤ 100000000000000
section
variable {w w' : World} {lb : Nat} {id : Int} {s : Lk}
theorem Dq.keep (h : Dq w lb id s) (hk : w'.heap[lb]? = w.heap[lb]?) : Dq w' lb id s := ⟨h.q.keep hk, h.l, h.w0, h.f, h.i, h.bc, h.bs, h.bv⟩
theorem Dq.cells (h : Dq w lb id s) : w.cell? ⟨lb, 0, none⟩ = some (.int .i64 id) ∧ w.cell? ⟨lb, 1, none⟩ = some (.slice none 0 0) ∧ w.cell? ⟨lb, 2, none⟩ = some (.int .i64 0) ∧ w.cell? ⟨lb, 3, none⟩ = some (.int .i64 1) ∧ w.cell? ⟨lb, 4, none⟩ = some (.int .i64 (s.came : Int)) ∧ w.cell? ⟨lb, 6, none⟩ = some (.int .i64 (s.sent : Int)) ∧ w.cell? ⟨lb, 7, none⟩ = some (.int .i64 (s.vain : Int)) ∧ ∀ i, w.frozen? ⟨lb, i, none⟩ = false := by
  have h2 : w.cell? ⟨lb, 2, none⟩ = some (.int .i64 (s.way : Int)) := h.q.cell 2
  have h3 : w.cell? ⟨lb, 3, none⟩ = some (.int .i64 (s.first : Int)) := h.q.cell 3
  rw [h.w0] at h2
  rw [h.f] at h3
  exact ⟨h.q.cell 0, h.q.cell 1, h2, h3, h.q.cell 4, h.q.cell 6, h.q.cell 7, h.q.frozen⟩
set_option maxRecDepth 20000 in
theorem dnew_any (w : World) (id : Int) (hi : -9223372036854775808 ≤ id ∧ id ≤ 9223372036854775807) : Calls Tryd.prog 21 #[.int .i64 id] w fun e w' => e = .returned (.pointer (some ⟨w.heap.size, 0, none⟩)) ∧ Dq w' w.heap.size id newL ∧ Below w.heap.size w w' ∧ w'.heap.size = w.heap.size + 1 := by
  go_enter Tryd.func21, Tryd.ntmps21
  go_wp2_with fail
  go_ret
  exact ⟨rfl, ⟨Cw.new w (dkC id (.slice none 0 0) newL) 63, rfl, rfl, rfl, hi, Nat.zero_le _, Nat.zero_le _, Nat.zero_le _⟩, (Below.refl _ _).alloc (Nat.le_refl _) _, World.size_alloc _ _⟩
set_option maxHeartbeats 1600000 in
set_option maxRecDepth 20000 in
theorem dgoes0 (h : Dq w lb id s) : Calls Tryd.prog 46 #[.pointer (some ⟨lb, 0, none⟩)] w fun e w' => e = .returned (.slice none 0 0) ∧ Sm w w' := by
  obtain ⟨_, c1, c2, _⟩ := h.cells
  clear h
  go_enter Tryd.func46, Tryd.ntmps46
  go_wp2_with fail
  refine wp_loop_rounds 1 ?_
  rw [rounds_succ]
  go_wp2_with fail
  go_quiet (fail)
  go_wp2_with fail
  go_ret
  exact ⟨rfl, Sm.drewN _ _⟩
set_option maxHeartbeats 3200000 in
set_option maxRecDepth 20000 in
theorem dpacket0 (h : Dq w lb id s) (hs : s.sent < 100000000000000) : Calls Tryd.prog 47 #[.pointer (some ⟨lb, 0, none⟩), .int .i64 0] w fun e w' => ∃ ao cap, e = .returned (.slice ao (encP id ⟨0, s.came, []⟩).length cap) ∧ Ow w' w.heap.size (.slice ao (encP id ⟨0, s.came, []⟩).length cap) (encP id ⟨0, s.came, []⟩) ∧ Dq w' lb id s.sent1 ∧ Gr (fun k => k = lb) w w' := by
  have hI := hid_into h.i
  have hC := h.bc
  have hQ := hid_into h
  have hlt := hid_into h.q.lt
  have l1 := hid_into (numOf_length id)
  have l2 := hid_into (numOf_length 0)
  have l3 := hid_into (numOf_length (s.came : Int))
  have hgd : Pk.Good ⟨0, s.came, []⟩ := ⟨Nat.zero_le _, (by show s.came ≤ _; omega), (fun z hz => by cases hz), Nat.zero_le _, fun _ => rfl⟩
  have hY := hid_into (pkB_byt id h.i _ hgd)
  have hL := hid_into (pkB_len id _ hgd)
  have hP : Hid (numOf id ++ numOf 0 ++ numOf (s.came : Int) = pkB id ⟨0, s.came, []⟩) := by
    show _ = _
    unfold pkB
    rw [if_neg (by simp), List.append_nil]
    rfl
  obtain ⟨c0, _, _, _, c4, c6, _, fz⟩ := h.cells
  have N1 : Hid (∀ W, Calls Tryd.prog 31 #[.int .i64 id] W fun e w' => ∃ ao cap, e = .returned (.slice ao (numOf id).length cap) ∧ Ow w' W.heap.size (.slice ao (numOf id).length cap) (numOf id) ∧ Below W.heap.size W w') := fun W => refNum_any id W hI.out.1 hI.out.2
  have N2 : Hid (∀ W, Calls Tryd.prog 31 #[.int .i64 0] W fun e w' => ∃ ao cap, e = .returned (.slice ao (numOf 0).length cap) ∧ Ow w' W.heap.size (.slice ao (numOf 0).length cap) (numOf 0) ∧ Below W.heap.size W w') := fun W => refNum_any 0 W (by decide) (by decide)
  have N3 : Hid (∀ W, Calls Tryd.prog 31 #[.int .i64 (s.came : Int)] W fun e w' => ∃ ao cap, e = .returned (.slice ao (numOf (s.came : Int)).length cap) ∧ Ow w' W.heap.size (.slice ao (numOf (s.came : Int)).length cap) (numOf (s.came : Int)) ∧ Below W.heap.size W w') := fun W => refNum_any (s.came : Int) W (by omega) (by omega)
  have NE : Hid (∀ sv W, Bs W sv (pkB id ⟨0, s.came, []⟩) → Calls Tryd.prog 33 #[sv] W fun e w' => ∃ ao cap, e = .returned (.tuple #[.slice ao (encP id ⟨0, s.came, []⟩).length cap, .int .i64 0]) ∧ Ow w' W.heap.size (.slice ao (encP id ⟨0, s.came, []⟩).length cap) (encP id ⟨0, s.came, []⟩) ∧ Below W.heap.size W w') := fun sv W hb => renc_any sv (pkB id ⟨0, s.came, []⟩) W hb hY.out (by have := hL.out; omega)
  clear h hgd hI hC hY hL
  generalize encP id ⟨0, s.came, []⟩ = EP at *
  generalize pkB id ⟨0, s.came, []⟩ = PP at *
  generalize numOf id = A at *
  generalize numOf 0 = B0 at *
  generalize numOf (s.came : Int) = C0 at *
  generalize hD : A ++ B0 = D at *
  have lD : Hid (D.length = A.length + B0.length) := by show _ = _; rw [← hD, List.length_append]
  have lP : Hid (PP.length = D.length + C0.length) := by show _ = _; rw [← hP.out, List.length_append]
  replace hD := hid_into hD
  go_enter Tryd.func47, Tryd.ntmps47
  go_wp2_with fail
  refine (N1.out _).mono ?_
  rintro e w1 ⟨ao1, cap1, rfl, ho1, hb1⟩
  go_wp2_with fail
  refine (N2.out _).mono ?_
  rintro e w2 ⟨ao2, cap2, rfl, ho2, hb2⟩
  have B2 : Below w.heap.size w w2 := hb1.trans (hb2.mono hb1.size)
  have ho1' : Ow w2 w.heap.size (.slice ao1 A.length cap1) A := ho1.keep fun k hk hlt => hb2.block k hlt
  go_wp2_with (at_builtin; refine wpList_append_bs _ rfl (.tmp 12) (.tmp 14) rfl w.heap.size _ A rfl ho1' _ B0 rfl ho2.bs (by have := l1.out; have := l2.out; omega) B2.size ?_)
  intro ao3 cap3 w3 ho3 hg3 hat3
  have B3 : Below w.heap.size w w3 := B2.trans (grown_below hg3 B2.size ho1'.from)
  rw [hD.out, ← lD.out] at ho3
  rw [← lD.out]
  have c4' : w3.cell? ⟨lb, 4, none⟩ = some (.int .i64 (s.came : Int)) := by rw [← c4]; exact World.cell?_of_block (B3.block lb hlt.out)
  clear ho1 ho1' ho2 hg3 hat3 hb1 hb2 B2 N1 N2
  go_wp2_with fail
  refine (N3.out _).mono ?_
  rintro e w4 ⟨ao4, cap4, rfl, ho4, hb4⟩
  have B4 : Below w.heap.size w w4 := B3.trans (hb4.mono B3.size)
  have ho3' : Ow w4 w.heap.size (.slice ao3 D.length cap3) D := ho3.keep fun k hk hlt => hb4.block k hlt
  go_wp2_with (at_builtin; refine wpList_append_bs _ rfl (.tmp 16) (.tmp 21) rfl w.heap.size _ D rfl ho3' _ C0 rfl ho4.bs (by have := l1.out; have := l2.out; have := l3.out; have := lD.out; omega) B4.size ?_)
  intro ao5 cap5 w5 ho5 hg5 hat5
  have B5 : Below w.heap.size w w5 := B4.trans (grown_below hg5 B4.size ho3'.from)
  rw [← lP.out] at ho5 ⊢
  rw [hP.out] at ho5
  have Q5 : Dq w5 lb id s := hQ.out.keep (B5.block lb hlt.out)
  have c6' : w5.cell? ⟨lb, 6, none⟩ = some (.int .i64 (s.sent : Int)) := Q5.cells.2.2.2.2.2.1
  have fz' := Q5.q.frozen
  clear ho3 ho3' ho4 hg5 hat5 hb4 B3 B4 c4'
  have Q6 : Dq (w5.setCell ⟨lb, 6, none⟩ (.int .i64 ((s.sent : Int) + 1))) lb id s.sent1 := ⟨Q5.q.set 6 _, Q5.l, Q5.w0, Q5.f, Q5.i, Q5.bc, hs, Q5.bv⟩
  have G6 : Gr (fun k => k = lb) w (w5.setCell ⟨lb, 6, none⟩ (.int .i64 ((s.sent : Int) + 1))) := (Gr.of_below B5 (fun k => k = lb) fun k hk hb => by omega).trans (Gr.setCell (F := fun k => k = lb) _ _ _ rfl) fun k hk => Or.inl hk
  have ho6 : Ow (w5.setCell ⟨lb, 6, none⟩ (.int .i64 ((s.sent : Int) + 1))) w.heap.size (.slice ao5 PP.length cap5) PP := ho5.keep fun k hk hl => Below.heap_setCell _ _ _ _ fun e => by
    have h1 := (World.ownsRow.lt ho5 k hk).1
    have h2 := hlt.out
    have h3 : k = lb := e
    omega
  clear ho5 Q5
  go_wp2_with fail
  refine (NE.out _ _ ho6.bs).mono ?_
  rintro e w7 ⟨ao7, cap7, rfl, ho7, hb7⟩
  have sz6 : Hid (w.heap.size ≤ (w5.setCell ⟨lb, 6, none⟩ (.int .i64 ((s.sent : Int) + 1))).heap.size) := G6.size
  have Q7 : Dq w7 lb id s.sent1 := Q6.keep (hb7.block lb Q6.q.lt)
  have G7 : Gr (fun k => k = lb) w w7 := G6.trans (Gr.of_below hb7 (fun _ => False) fun k hk hb => by omega) fun k hk => hk.elim
  clear Q6 G6 ho6 hb7
  go_wp2_with fail
  go_ret
  exact ⟨ao7, cap7, rfl, ho7.mono sz6.out, Q7, G7⟩
end
end Go.Proofs.YtahodgmdikaedaaDoor
end

section
/-
  A region that draws its order and ends in a store into a cell that it has read: what is held (S) need not hold behind the last operation, z, which waits for all others that lean on S.
-/
namespace Go.Proofs.YtahodgmdikaedaaDoor
open Go.RowKit
section
variable {P : Program} {md : Region.Mode} {ops : Array Oper} {Q : Exit → Act → World → Prop} {z : Nat} {S : World → Prop}
/-- Whatever order is picked from here on; S holds behind each operation but z. -/
def wpL (P : Program) (md : Region.Mode) (ops : Array Oper) (Q : Exit → Act → World → Prop) (z : Nat) (S : World → Prop) : Nat → Array Bool → Act → World → Prop
  | 0, listed, a, w => Region.ready md ops listed = [] ∧ Q .normal a w
  | n + 1, listed, a, w => (Region.ready md ops listed = [] → Q .normal a w) ∧
      ∀ i ∈ Region.ready md ops listed, wpOp P ops Q i (fun b u => (i ≠ z → S u) ∧ wpL P md ops Q z S n (listed.setIfInBounds i true) b u) a w
theorem wpL_any : ∀ (n : Nat) (listed : Array Bool) (a : Act) (w : World), wpL P md ops Q z S n listed a w → wpAny P md ops Q n listed a w
  | 0, _, _, _, h => h
  | n + 1, _, _, _, h => ⟨h.1, fun i hi => wpOp_mono (fun b u k => wpL_any n _ b u k.2) (h.2 i hi)⟩
/-- z waits for i. -/
def waitsB (md : Region.Mode) (ops : Array Oper) (z i : Nat) : Bool := match ops[z]? with | some o => o.after.any fun e => Region.binds md e && e.on == i | none => false
theorem wpL_first {i : Nat} {oi : Oper} {v : Value} (hi : ops[i]? = some oi) (hz : waitsB md ops z i = true) (hsel : ∀ (j : Nat) (o : Oper) cs b, ops[j]? = some o → o.op ≠ .select cs b) (hQ : ∀ c a w, Q (.panic c) (a.put oi.dst v) w → Q (.panic c) a w) :
    ∀ (n : Nat) (listed : Array Bool) (a : Act) (w : World),
      (∀ j oj, ops[j]? = some oj → j ≠ i → listed.getD j true = false → (∀ e ∈ oj.after, Region.binds md e = true → e.on ≠ i) → oi.apart ops oj = true) →
      i ∈ Region.ready md ops listed → YieldsIf P ops S oi v a → S w → wpL P md ops Q z S n (listed.setIfInBounds i true) (a.put oi.dst v) w → wpL P md ops Q z S (n + 1) listed a w
  | 0, listed, a, w, _, hr, hy, hS, H => by
    refine ⟨fun h => (by rw [h] at hr; cases hr), fun j hj => ?_⟩
    by_cases e : j = i
    · rw [e]; exact hy.wpOp hi hS ⟨fun _ => hS, H⟩
    · have h0 := ready_mono hj e
      rw [H.1] at h0
      cases h0
  | n + 1, listed, a, w, hfree, hr, hy, hS, H => by
    refine ⟨fun h => (by rw [h] at hr; cases hr), fun j hj => ?_⟩
    by_cases e : j = i
    · rw [e]; exact hy.wpOp hi hS ⟨fun _ => hS, H⟩
    · obtain ⟨hjun, oj, hoj, hall⟩ := mem_ready.1 hj
      have hnot : ∀ d ∈ oj.after, Region.binds md d = true → d.on ≠ i := fun d hd hb heq => by
        have k1 := hall d hd hb
        have k0 := (mem_ready.1 hr).1
        rw [heq] at k1
        rcases Nat.lt_or_ge i listed.size with hl | hl
        · simp [hl] at k0 k1
          rw [k0] at k1
          cases k1
        · simp [Array.getElem?_eq_none hl] at k1
      have hjz : j ≠ z := fun h => by
        subst h
        simp only [waitsB, hoj, Array.any_eq_true, Bool.and_eq_true, beq_iff_eq] at hz
        obtain ⟨x, hx, hb, ho⟩ := hz
        exact hnot _ (Array.getElem_mem hx) hb ho
      have hr' : i ∈ Region.ready md ops (listed.setIfInBounds j true) := ready_mono hr (Ne.symm e)
      have step := wpOp_putIf hoj (hfree j oj hoj e hjun hnot) (fun cs b => hsel i oi cs b hi) (fun cs b => hsel j oj cs b hoj) hQ hy (H.2 j (ready_mono hj e))
      refine wpOp_mono (fun b u k => ?_) step
      obtain ⟨k1, k2, k3⟩ := k
      rw [Array.setIfInBounds_comm _ _ (Ne.symm e)] at k3
      have hSu : S u := k2 hjz
      refine ⟨fun _ => hSu, wpL_first hi hz hsel hQ n (listed.setIfInBounds j true) b u ?_ hr' k1 hSu k3⟩
      intro k ok hk hki hun hno
      refine hfree k ok hk hki ?_ hno
      by_cases hjk : j = k
      · rw [← hjk]; exact hjun
      · rw [getD_set_ne true hjk] at hun; exact hun
/-- Number i may be taken first: it yields v in every world that meets S. -/
theorem wpL_take (i d : Nat) {oi : Oper} {v : Value} {n : Nat} {listed : Array Bool} {a : Act} {w : World} (hi : ops[i]? = some oi) (hd : oi.dst = some d) (hs : Region.noSelect ops = true) (hf : Region.free md ops listed i = true) (hr : (Region.ready md ops listed).contains i = true) (hz : waitsB md ops z i = true)
    (hQ : ∀ c a w, Q (.panic c) (a.put (some d) v) w → Q (.panic c) a w) (hw : Region.wanted oi (yielded ops a.tmps) = true) (hS : S w) (hy : ∀ u, S u → (execOp a.eval oi).run P u = .ok (.value v) u)
    (h : wpL P md ops Q z S n (listed.setIfInBounds i true) (a.put (some d) v) w) : wpL P md ops Q z S (n + 1) listed a w := by
  rw [← hd] at hQ h
  exact wpL_first hi hz (Region.noSelect_spec hs) hQ n listed a w (Region.free_spec hi hf) (by simpa using hr) (Or.inl ⟨hw, hy⟩) hS h
theorem wpL_takeY (i d : Nat) {oi : Oper} {v : Value} {n : Nat} {listed : Array Bool} {a : Act} {w : World} (hi : ops[i]? = some oi) (hd : oi.dst = some d) (hs : Region.noSelect ops = true) (hf : Region.free md ops listed i = true) (hr : (Region.ready md ops listed).contains i = true) (hz : waitsB md ops z i = true)
    (hQ : ∀ c a w, Q (.panic c) (a.put (some d) v) w → Q (.panic c) a w) (hS : S w) (hy : YieldsIf P ops S oi v a)
    (h : wpL P md ops Q z S n (listed.setIfInBounds i true) (a.put (some d) v) w) : wpL P md ops Q z S (n + 1) listed a w := by
  rw [← hd] at hQ h
  exact wpL_first hi hz (Region.noSelect_spec hs) hQ n listed a w (Region.free_spec hi hf) (by simpa using hr) hy hS h
/-- One alone may come up. -/
theorem wpL_one {i : Nat} {o : Oper} {n : Nat} {listed : Array Bool} {a : Act} {w : World} (hr : Region.ready md ops listed = [i]) (ho : ops[i]? = some o)
    (h : ∀ K : Act → World → Prop, Hid (∀ b u, (i ≠ z → S u) → wpL P md ops Q z S n (listed.setIfInBounds i true) b u → K b u) → if Region.wanted o (yielded ops a.tmps) = true then Oper.wp P o a w K Q else K (a.put o.dst undef) w) : wpL P md ops Q z S (n + 1) listed a w := by
  refine ⟨fun e => (by rw [hr] at e; cases e), fun j hj => ?_⟩
  rw [hr] at hj
  have e : j = i := by simpa using hj
  subst e
  exact wpOp_step ho (fun K hK => h K (fun b u k1 k2 => hK b u ⟨k1, k2⟩))
/-- Two may come up. -/
theorem wpL_two {i j : Nat} {oi oj : Oper} {n : Nat} {listed : Array Bool} {a : Act} {w : World} (hr : Region.ready md ops listed = [i, j]) (hi : ops[i]? = some oi) (hj : ops[j]? = some oj)
    (h1 : ∀ K : Act → World → Prop, Hid (∀ b u, (i ≠ z → S u) → wpL P md ops Q z S n (listed.setIfInBounds i true) b u → K b u) → if Region.wanted oi (yielded ops a.tmps) = true then Oper.wp P oi a w K Q else K (a.put oi.dst undef) w)
    (h2 : ∀ K : Act → World → Prop, Hid (∀ b u, (j ≠ z → S u) → wpL P md ops Q z S n (listed.setIfInBounds j true) b u → K b u) → if Region.wanted oj (yielded ops a.tmps) = true then Oper.wp P oj a w K Q else K (a.put oj.dst undef) w) : wpL P md ops Q z S (n + 1) listed a w := by
  refine ⟨fun e => (by rw [hr] at e; cases e), fun k hk => ?_⟩
  rw [hr] at hk
  have e : k = i ∨ k = j := by simpa using hk
  rcases e with e | e
  · subst e
    exact wpOp_step hi (fun K hK => h1 K (fun b u k1 k2 => hK b u ⟨k1, k2⟩))
  · subst e
    exact wpOp_step hj (fun K hK => h2 K (fun b u k1 k2 => hK b u ⟨k1, k2⟩))
theorem wpL_done {listed : Array Bool} {a : Act} {w : World} (hr : Region.ready md ops listed = []) (h : Q .normal a w) : ∀ n, wpL P md ops Q z S n listed a w
  | 0 => ⟨hr, h⟩
  | _ + 1 => ⟨fun _ => h, fun i hi => by rw [hr] at hi; cases hi⟩
theorem wp_region_L {id : Nat} {a : Act} {w : World} (z : Nat) (S : World → Prop) (hm : P.follows .mixedOrders = true) (h : wpL P .any ops Q z S ops.size (Array.replicate ops.size false) a w.drew) : (Code.region id ops true).wp P Q a w :=
  wp_region_any hm (wpL_any _ _ _ _ h)
end
end Go.Proofs.YtahodgmdikaedaaDoor
end
