/-
  Joined from: LkDel, LkTell, LkFill, LkRel, LkAcc.
-/
import Derived.Test.YtahodgmdikaedaaDoorM10
section
/-
  slices.Delete of the first rows, by contract.
-/
namespace Go.Proofs.YtahodgmdikaedaaDoor
open Go.RowKit
/-- A row of a call's own, opened. -/
theorem row_open {w : World} {v : Value} {us : List Value} (h : w.ownsRow 0 29 1 v us.length us) (h0 : us ≠ []) : ∃ g cap rest, v = .slice (some ⟨g, 0, none⟩) us.length cap ∧ Cw w g (us ++ rest) 29 ∧ us.length + rest.length = cap ∧ cap ≤ maxLen := by
  rcases h.2 with ⟨_, h1⟩ | ⟨g, cap, cur, he, hb, hg, hn, hc, hs, ht⟩
  · exact absurd (List.eq_nil_of_length_eq_zero h1) h0
  · have hl : cur.toList.length = cap := by rw [Array.length_toList, hs, Nat.mul_one]
    have e : us ++ cur.toList.drop us.length = cur.toList := by
      conv => rhs; rw [← List.take_append_drop us.length cur.toList]
      rw [Nat.mul_one] at ht
      rw [ht]
    refine ⟨g, cap, cur.toList.drop us.length, he, ?_, by rw [List.length_drop]; omega, hc⟩
    show w.heap[g]? = _
    rw [e, hg, Array.toArray_toList]
theorem row_close {w : World} {g cap : Nat} {us rest : List Value} (hc : Cw w g (us ++ rest) 29) (hl : us.length + rest.length = cap) (hm : cap ≤ maxLen) : w.ownsRow 0 29 1 (.slice (some ⟨g, 0, none⟩) us.length cap) us.length us :=
  ⟨by rw [Nat.mul_one], Or.inr ⟨g, cap, (us ++ rest).toArray, rfl, Nat.zero_le _, hc, by omega, hm, by simp; omega, by simp⟩⟩
theorem del_zero {w : World} {v : Value} {us : List Value} (h : w.ownsRow 0 29 1 v us.length us) : Calls Tryd.prog 53 #[v, .int .i64 0, .int .i64 0] w fun e w' => e = .returned v ∧ w' = w := by
  rcases h.2 with ⟨rfl, h1⟩ | ⟨g, cap, cur, rfl, hb, hg, hn, hc, hs, ht⟩
  · clear h
    go_enter Tryd.func53, Tryd.ntmps53
    go_wp2_with fail
    go_ret
    exact ⟨rfl, rfl⟩
  · clear h hg hb ht
    unfold maxLen at hc
    go_enter Tryd.func53, Tryd.ntmps53
    go_wp2_with fail
    all_goals (go_ret; exact ⟨rfl, rfl⟩)
set_option maxHeartbeats 4000000 in
set_option maxRecDepth 20000 in
theorem del_any {w : World} {v : Value} {us : List Value} (h : w.ownsRow 0 29 1 v us.length us) (h1 : ∀ u ∈ us, u.oneCell' = true) (n : Nat) (hn : n ≤ us.length) (hl : us.length ≤ 1000) :
    Calls Tryd.prog 53 #[v, .int .i64 0, .int .i64 n] w fun e w' => ∃ v', e = .returned v' ∧ w'.ownsRow 0 29 1 v' (us.length - n) (us.drop n) ∧ v'.ownBlock = v.ownBlock ∧ Gr (fun k => v.ownBlock = some k) w w' ∧ w'.heap.size = w.heap.size := by
  by_cases h0 : n = 0
  · subst h0
    refine (del_zero h).mono ?_
    rintro e w' ⟨rfl, rfl⟩
    exact ⟨v, rfl, h, rfl, Gr.refl _ _, rfl⟩
  obtain ⟨g, cap, rest, rfl, hc, hcl, hcm⟩ := row_open h (by intro e; subst e; simp at hn; exact h0 hn)
  clear h
  obtain ⟨A, hA⟩ : ∃ A, A = us.take n := ⟨_, rfl⟩
  obtain ⟨B, hB⟩ : ∃ B, B = us.drop n := ⟨_, rfl⟩
  have hAB : us = A ++ B := by rw [hA, hB, List.take_append_drop]
  have hlA : A.length = n := by rw [hA, List.length_take]; omega
  have hlB : B.length = us.length - n := by rw [hB, List.length_drop]
  rw [← hB, ← hlB]
  -- the cells behind the copy
  obtain ⟨x, hx, hc1⟩ : ∃ x : List Value, x.length = n ∧ Cw (w.drew.setCells g 0 B) g (B ++ x ++ rest) 29 := by
    refine ⟨us.drop B.length, by rw [List.length_drop]; omega, ?_⟩
    have e : us ++ rest = [] ++ us.take B.length ++ (us.drop B.length ++ rest) := by
      rw [List.nil_append, ← List.append_assoc, List.take_append_drop]
    have hc' : Cw w.drew g ([] ++ us.take B.length ++ (us.drop B.length ++ rest)) 29 := by rw [← e]; exact hc
    have := setCells_mid g 29 (us.drop B.length ++ rest) B [] (us.take B.length) w.drew hc' (by rw [List.length_take]; omega)
    simpa only [List.nil_append, List.append_assoc, List.length_nil] using this
  have hc2 : Cw ((w.drew.setCells g 0 B).setCells g B.length (List.replicate n (.slice none 0 0))) g (B ++ (List.replicate n (.slice none 0 0) ++ rest)) 29 := by
    have := setCells_mid g 29 rest (List.replicate n (.slice none 0 0)) B x _ hc1 (by rw [hx, List.length_replicate])
    simpa only [List.append_assoc] using this
  have hfin := row_close (cap := cap) hc2 (by rw [List.length_append, List.length_replicate]; omega) hcm
  have hgr : Gr (fun k => (Value.slice (some ⟨g, 0, none⟩) us.length cap).ownBlock = some k) w ((w.drew.setCells g 0 B).setCells g B.length (List.replicate n (.slice none 0 0))) :=
    ((Gr.drew _ w).trans (Gr.setCells _ g _ _ (F := fun k => k = g) rfl) (fun k hk => Or.inl (by rw [hk]; rfl))).trans (Gr.setCells _ g _ _ (F := fun k => k = g) rfl) (fun k hk => Or.inl (by rw [hk]; rfl))
  have hsz : ((w.drew.setCells g 0 B).setCells g B.length (List.replicate n (.slice none 0 0))).heap.size = w.heap.size := by
    rw [(setCells_rest _ _ _ _).2.2.2, (setCells_rest _ _ _ _).2.2.2]; rfl
  have hcs : ∀ i, i < cap → (w.cell? ⟨g, i, none⟩).isSome = true := fun i hi => by
    rw [hc.cell, List.getElem?_eq_getElem (by rw [List.length_append]; omega)]; rfl
  -- what the append asks
  obtain ⟨ad, had, hsrc⟩ : ∃ ad : Addr, (if cap = n then some (⟨g, 0, none⟩ : Addr) else some ⟨g, n, none⟩) = some ad ∧ Hid (∀ j u, B[j]? = some u → w.drew.cell? (ad.add j) = some u) := by
    by_cases c : cap = n
    · refine ⟨⟨g, 0, none⟩, by simp [c], fun j u hu => ?_⟩
      have : B = [] := List.eq_nil_of_length_eq_zero (by omega)
      subst this
      cases hu
    · refine ⟨⟨g, n, none⟩, by simp [c], fun j u hu => ?_⟩
      rw [Addr.add_lit]
      show w.cell? _ = _
      rw [hc.cell, hAB, List.append_assoc, List.getElem?_append_right (by omega), hlA, Nat.add_sub_cancel_left, List.getElem?_append_left (List.getElem?_eq_some_iff.1 hu).1]
      exact hu
  have s1 : Hid (B.length = B.length * 1) := (Nat.mul_one _).symm
  have s2 : Hid (∀ u ∈ B, u.oneCell' = true) := fun u hu => h1 u (by rw [hAB]; exact List.mem_append_right _ hu)
  have s3 : Hid (∀ t, t < B.length → (w.drew.cell? ⟨g, 0 + 0 * 1 + t, none⟩).isSome = true ∧ w.drew.frozen? ⟨g, 0 + 0 * 1 + t, none⟩ = false) := by
    intro t ht
    rw [Nat.zero_mul, Nat.add_zero, Nat.zero_add]
    exact ⟨hcs t (by omega), hc.frozen t⟩
  obtain ⟨i0, hi0, hz0, hz1, hz2⟩ := info_parts Tryd.info22
  obtain ⟨W1, hW1⟩ : ∃ W1, W1 = w.drew.setCells g (0 + 0 * 1) B := ⟨_, rfl⟩
  have hW1' : W1 = w.drew.setCells g 0 B := hW1
  have hcl3 : ∀ ty, (Builtin.clear_ #[33] ty #[.slice (some ⟨g, B.length, none⟩) n (cap - B.length)]).run Tryd.prog W1 = .ok (.tuple #[]) (W1.setCells g B.length (List.replicate n (.slice none 0 0))) := fun ty =>
    Lib.run_clear_slice W1 33 29 ty _ Tryd.underlying33 Tryd.zeroValue29 rfl rfl g B.length n _ (by omega)
      (fun j hj => by rw [hW1', hc1.cell, List.getElem?_eq_getElem (by rw [List.length_append, List.length_append]; omega)]; rfl) (fun j hj => by rw [hW1']; exact hc1.frozen _)
  have hW : Hid (W1 = w.drew.setCells g (0 + 0 * 1) B) := hW1
  have hac1 : n ≤ cap := by omega
  have hne : ¬ (0 : Int) = (n : Int) := by omega
  have hne2 : ¬ (n : Int) = 0 := by omega
  have hlu : us.length = B.length + n := by omega
  unfold maxLen at hcm
  rw [← hW1'] at hfin hgr hsz
  rw [hlu] at hgr ⊢
  rw [hlu] at hcl hl
  clear hc hc1 hc2 hW1 hW1' hlA hlB hAB hA hB h1 hx hcs hlu hn
  generalize hBl : B.length = b at *
  have q1 : b + n ≤ cap := by omega
  have q2 : (n : Int) ≤ (b : Int) + (n : Int) := by omega
  have q5 : n ≤ b + n := by omega
  have q6 : (b : Int) + (n : Int) ≤ (cap : Int) := by omega
  have mixed : Tryd.prog.follows .mixedOrders = true := by kernel_rfl
  go_enter Tryd.func53, Tryd.ntmps53
  go_wp2_with fail
  go_region_law_o (refine step_append_room rfl (.tmp 22) (.tmp 25) 33 rfl 29 i0 1 Tryd.underlying33 hi0 hz1 g 0 0 cap (by simp [Act.eval, Act.put]) ad b (cap - n) B (by simp [Act.eval, Act.put]) (by rw [hBl, Nat.mul_one]) hsrc.out s2.out (by omega) (fun t ht => s3.out t (by omega)) ?_; rw [← hW.out])
  go_wp2_with fail
  go_ret
  exact ⟨_, rfl, hfin, rfl, hgr, hsz⟩
end Go.Proofs.YtahodgmdikaedaaDoor
end

section
/-
  The program's Link: tell, by contract: rows from one place to below another go out.
-/
namespace Go.Proofs.YtahodgmdikaedaaDoor
open Go.RowKit
/-- Behind k packets with rows. -/
def Lk.told (s : Lk) (k : Nat) : Lk := { s with sent := s.sent + k, since := if k = 0 then s.since else 0 }
theorem told0 (s : Lk) : s.told 0 = s := rfl
theorem told_pk (s : Lk) (k n : Nat) : (s.told k).pk n = s.pk n := rfl
def pksB (id : Int) (s : Lk) (n k : Nat) : List (List Int) := ((List.range' n k).map s.pk).map (encP id)
theorem pksB_succ (id : Int) (s : Lk) (n k : Nat) : pksB id s n (k + 1) = pksB id s n k ++ [encP id (s.pk (n + k))] := by
  unfold pksB
  rw [← List.range'_append_1 (s := n) (m := k) (n := 1)]
  simp
theorem Lp.pkGood {w : World} {F : Nat → Prop} {lb : Nat} {v : Value} {rs : List Rw2} {id : Int} {s : Lk} (h : Lp w F lb v rs id s) {n : Nat} (h1 : s.first ≤ n) (h2 : n < s.first + s.L.length) : (s.pk n).Good := by
  have hm : (s.pk n).row ∈ bytesOf2 rs := by
    rw [h.e]
    show s.L.getD (n - s.first) [] ∈ s.L
    rw [List.getD, List.getElem?_eq_getElem (show n - s.first < s.L.length by omega)]
    exact List.getElem_mem _
  obtain ⟨r, hr, he⟩ := List.mem_map.1 hm
  obtain ⟨_, b2, b3, _⟩ := h.each r hr
  have f1 := h.ok.f
  have f2 := h.ok.bf
  have f3 := h.ok.l
  have f4 := h.ok.bc
  refine ⟨by show n ≤ _; omega, by show s.came ≤ _; omega, by rw [← he]; exact b2, by rw [← he]; exact b3, fun h0 => ?_⟩
  have h0 : n = 0 := h0
  omega
/-- What stands at a place of the rows. -/
theorem Lp.at {w : World} {F : Nat → Prop} {lb : Nat} {v : Value} {rs : List Rw2} {id : Int} {s : Lk} (h : Lp w F lb v rs id s) {j : Nat} (hj : j < s.L.length) :
    ∃ g cap ao cp, v = .slice (some ⟨g, 0, none⟩) s.L.length cap ∧ w.cell? ⟨g, j, none⟩ = some (.slice ao (s.L.getD j []).length cp) ∧ Bs w (.slice ao (s.L.getD j []).length cp) (s.L.getD j []) ∧ (∀ k, (Value.slice ao (s.L.getD j []).length cp).ownBlock = some k → k < w.heap.size ∧ k ≠ lb) ∧ g ≠ lb ∧ s.L.length ≤ cap ∧ cap ≤ maxLen ∧ g < w.heap.size := by
  have hl := h.len
  have hjr : j < rs.length := by omega
  obtain ⟨b1, _, _, b4⟩ := h.each rs[j] (List.getElem_mem hjr)
  have e2 : (rs[j]).2 = s.L.getD j [] := by
    have : (bytesOf2 rs)[j]? = some (rs[j]).2 := by simp [bytesOf2, hjr]
    rw [h.e] at this
    rw [List.getD, this]
    rfl
  obtain ⟨ao, cp, hv, _⟩ := b1.len
  rw [e2] at hv b1
  rcases h.row.2 with ⟨_, h0⟩ | ⟨g, cap, cur, he, hb, hg, hn, hc, hs, ht⟩
  · omega
  · have hgb := h.fv g (by rw [he]; rfl)
    refine ⟨g, cap, ao, cp, by rw [he, hl], ?_, by rw [← hv]; exact b1, fun k hk => ?_, hgb.2, by omega, hc, (Array.getElem?_eq_some_iff.1 hg).1⟩
    · rw [cell_of_row w g j _ _ _ hg, ← Array.getElem?_toList]
      have h3 : (cur.toList.take (rs.length * 1))[j]? = some (rs[j]).1 := by rw [ht]; simp [slOf, hjr]
      rw [List.getElem?_take_of_lt (by omega)] at h3
      rw [h3, hv]
    · rw [← hv] at hk
      exact ⟨h.hi k (b4 k hk).1, (b4 k hk).2.1⟩
theorem Ow.gr {G : Nat → Prop} {w w' : World} {base : Nat} {v : Value} {zs : List Int} (h : Ow w base v zs) (hg : Gr G w w') (hn : ∀ k, base ≤ k → ¬ G k) : Ow w' base v zs :=
  h.keep fun k hk hlt => hg.block k hlt (hn k (World.ownsRow.lt h k hk).1)
theorem Osl.gr {G : Nat → Prop} {w w' : World} {base : Nat} {v : Value} {rs : List Rw2} (h : Osl w base v rs) (hg : Gr G w w') (hn : ∀ k, base ≤ k → ¬ G k) : Osl w' base v rs :=
  ⟨ownsRow_keep h.row fun k hk hlt => hg.block k hlt (hn k (h.from k hk)), fun r hr => ⟨(h.each r hr).1.gr hg hn, (h.each r hr).2⟩⟩
/-- What tell's loop holds. -/
structure TellI (w : World) (F : Nat → Prop) (lb : Nat) (v : Value) (rs : List Rw2) (id : Int) (s : Lk) (a k : Nat) (u : Value) (os : List Rw2) (wr : World) : Prop where
  o : Osl wr w.heap.size u os
  b : bytesOf2 os = pksB id s (s.first + a) k
  p : Lp wr F lb v rs id (s.told k)
  g : Gr (fun k => k = lb) w wr
set_option maxHeartbeats 3200000 in
set_option maxRecDepth 20000 in
theorem tell_any {w : World} {F : Nat → Prop} {lb : Nat} {v : Value} {rs : List Rw2} {id : Int} {s : Lk} (h : Lp w F lb v rs id s) (ht : Tab w) (h0 : ¬ F 0) (a b : Nat) (hab : a ≤ b) (hb : b ≤ s.L.length) (hs : s.sent + (b - a) ≤ 100000000000000) :
    Calls Tryd.prog 36 #[.pointer (some ⟨lb, 0, none⟩), .int .i64 a, .int .i64 b] w fun e w' => ∃ ao cap os, e = .returned (.slice ao os.length cap) ∧ TellI w F lb v rs id s a (b - a) (.slice ao os.length cap) os w' := by
  have HL := hid_into h.ok.l
  have HT : Hid (∀ W, Gr (fun k => k = lb) w W → Tab W) := fun W hg i hi => by
    rw [← ht i hi]
    exact World.cell?_of_block (w := w) (hg.block 0 ht.lt fun e => h0 (by rw [e]; exact h.fl))
  have I0 : TellI w F lb v rs id s a 0 (.slice none 0 0) [] w := ⟨Osl.nil _ _, rfl, h, Gr.refl _ _⟩
  have hb1 : b ≤ 1000 := by have := h.ok.l; omega
  have hf1 := hid_into h.ok.f
  have hf2 := hid_into h.ok.bf
  have hlb := hid_into (h.hi lb h.fl)
  clear ht
  go_enter Tryd.func36, Tryd.ntmps36
  go_wp2_with fail
  go_loopw [7, 8] (fun u i wr => ∃ (j : Nat) (ao : Option Addr) (cap : Nat) (os : List Rw2), i = .int .i64 (j : Int) ∧ a ≤ j ∧ j ≤ b ∧ u = .slice ao os.length cap ∧ TellI w F lb v rs id s a (j - a) u os wr) (fun _ i _ => b - (intOf i).toNat)
  case atStart => exact ⟨a, none, 0, [], rfl, Nat.le_refl _, hab, rfl, by rw [Nat.sub_self]; exact I0⟩
  case round =>
    obtain ⟨j, ao, cap, os, rfl, h1, h2, rfl, I⟩ := hrel
    by_cases hlt : j < b
    · have hin : j < (s.told (j - a)).L.length := Nat.lt_of_lt_of_le hlt hb
      obtain ⟨g, cq, ar, cr, hv, hcell, hrow, hrl, hglb, hc1, hc2, hgl⟩ := I.p.at hin
      have hcell : wr.cell? ⟨g, j, none⟩ = some (.slice ar (s.L.getD j []).length cr) := hcell
      have hl1 : s.L.length ≤ 1000 := HL.out
      have hgood : (s.pk (s.first + j)).Good := I.p.pkGood (n := s.first + j) (by show s.first ≤ _; omega) (by show _ < s.first + _; have : j < s.L.length := hin; omega)
      have epk : s.pk (s.first + j) = ⟨s.first + j, s.came, s.L.getD j []⟩ := by unfold Lk.pk; rw [Nat.add_sub_cancel_left]
      obtain ⟨row, hrw⟩ : ∃ row, row = s.L.getD j [] := ⟨_, rfl⟩
      have hsent : (s.told (j - a)).sent < 100000000000000 := by show s.sent + (j - a) < _; omega
      rw [epk] at hgood
      have CP : Hid (Calls Tryd.prog 50 #[.pointer (some ⟨lb, 0, none⟩), .int .i64 ((s.first + j : Nat) : Int), .slice ar (s.L.getD j []).length cr] wr.drew fun e w' => ∃ ao cap, e = .returned (.slice ao (encP id ⟨s.first + j, s.came, s.L.getD j []⟩).length cap) ∧ Ow w' wr.heap.size (.slice ao (encP id ⟨s.first + j, s.came, s.L.getD j []⟩).length cap) (encP id ⟨s.first + j, s.came, s.L.getD j []⟩) ∧ Lp w' F lb v rs id (s.told (j - a)).sent1 ∧ Gr (fun k => k = lb) wr.drew w') :=
        pack_any I.p.drew hsent (HT.out _ (I.g.trans (Gr.drew (fun k => k = lb) _) fun k hk => Or.inl hk)) h0 (s.first + j) (.slice ar (s.L.getD j []).length cr) (s.L.getD j []) hrow hrl hgood
      have HB : Hid (∀ W2 ao2 cap2, Ow W2 wr.heap.size (.slice ao2 (encP id ⟨s.first + j, s.came, s.L.getD j []⟩).length cap2) (encP id ⟨s.first + j, s.came, s.L.getD j []⟩) → Lp W2 F lb v rs id (s.told (j - a)).sent1 → Gr (fun k => k = lb) wr.drew W2 →
          ∃ ao3 cap3 W3, (∀ ty, (Builtin.append_ #[33, 33] ty #[.slice ao os.length cap, .slice (some ⟨W2.heap.size, 0, none⟩) 1 1]).run Tryd.prog (W2.alloc (.cells #[.slice ao2 (encP id ⟨s.first + j, s.came, s.L.getD j []⟩).length cap2] 29)) = .ok (.slice ao3 (os.length + 1) cap3) W3) ∧
            (∀ W, (W = W2 ∨ W = W2.alloc (.cells #[.slice ao2 (encP id ⟨s.first + j, s.came, s.L.getD j []⟩).length cap2] 29) ∨ W = W3) → W.cell? ⟨lb, 1, none⟩ = some v ∧ W.cell? ⟨lb, 3, none⟩ = some (.int .i64 ((s.first - 1 : Nat) : Int)) ∧ W.cell? ⟨g, j, none⟩ = some (.slice ar (s.L.getD j []).length cr)) ∧
            TellI w F lb v rs id s a (j + 1 - a) (.slice ao3 (os.length + 1) cap3) (os ++ [(.slice ao2 (encP id ⟨s.first + j, s.came, s.L.getD j []⟩).length cap2, encP id ⟨s.first + j, s.came, s.L.getD j []⟩)]) (W3.setCell ⟨lb, 5, none⟩ (.int .i64 0)) ∧ W3.cell? ⟨lb, 5, none⟩ = some (.int .i64 (((s.told (j - a)).sent1.since : Nat) : Int)) ∧ W3.frozen? ⟨lb, 5, none⟩ = false) := by
        intro W2 ao2 cap2 ho2 hp2 hg2
        have hwr := I.g.size
        have hlbw : ∀ k, w.heap.size ≤ k → ¬ k = lb := fun k hk e => by have := hlb.out; omega
        have hg2' : Gr (fun k => k = lb) wr W2 := (Gr.drew _ _).trans hg2 fun k hk => Or.inl hk
        have hos2 := I.o.gr hg2' hlbw
        have hsep : ∀ k, (Value.slice ao2 (encP id ⟨s.first + j, s.came, s.L.getD j []⟩).length cap2).ownBlock = some k → (Value.slice ao os.length cap).ownBlock ≠ some k := fun k hk e => by
          have h1 := (World.ownsRow.lt ho2 k hk).1
          have h2 := I.o.lt k e
          omega
        have hol : os.length ≤ 1000 := by
          have := congrArg List.length I.b
          rw [bytesOf2_len] at this
          simp only [pksB, List.length_map, List.length_range'] at this
          omega
        obtain ⟨ao3, cap3, W3, hrun, hos3, hg3, _⟩ := osl_new hos2 ao2 cap2 _ (ho2.mono hwr) (encP_byt id hp2.i _ hgood) (by have := encP_len id _ hgood; omega) hsep (by omega) (Nat.le_trans hwr hg2'.size)
        have hgA : Gr (fun _ => False) W2 (W2.alloc (.cells #[.slice ao2 (encP id ⟨s.first + j, s.came, s.L.getD j []⟩).length cap2] 29)) := Gr.alloc _ _ _
        have hnF : ∀ k, F k → ¬ (Value.slice ao os.length cap).ownBlock = some k := fun k hF e => by
          have h1 := I.o.from k e
          have h2 := I.g.size
          have h3 := h.hi k hF
          omega
        have hpA := hp2.gr hgA (fun _ _ h => h)
        have hp3 := hp2.gr hg3 hnF
        have cg2 : W2.cell? ⟨g, j, none⟩ = some (.slice ar (s.L.getD j []).length cr) := by
          rw [← hcell]; exact World.cell?_of_block (w := wr) (hg2'.block g hgl hglb)
        have hfin : Lk.told s (j + 1 - a) = { s.told (j - a) with sent := s.sent + (j - a) + 1, since := 0 } := by
          rw [show j + 1 - a = (j - a) + 1 by omega]
          rfl
        have okn : Lok (s.told (j + 1 - a)) := by
          rw [hfin]
          have := hp2.ok
          exact ⟨this.f, this.w, this.w6, this.l, Nat.zero_le _, this.bf, this.bc, this.bs, this.bv⟩
        obtain ⟨hp4, hg4⟩ := hp3.set 5 (.int .i64 0) (s' := s.told (j + 1 - a)) (by rw [hfin]; rfl) (by rw [hfin]; rfl) okn
        refine ⟨ao3, cap3, W3, hrun, ?_, ⟨?_, ?_, hp4, ?_⟩, ?_, hp3.fz 5⟩
        · rintro W (rfl | rfl | rfl)
          · exact ⟨hp2.cells.2.1, hp2.cells.2.2.2.1, cg2⟩
          · refine ⟨hpA.cells.2.1, hpA.cells.2.2.2.1, ?_⟩
            rw [← cg2]; exact World.cell?_of_block (w := W2) (hgA.block g (Nat.lt_of_lt_of_le hgl hg2'.size) (fun h => h))
          · refine ⟨hp3.cells.2.1, hp3.cells.2.2.2.1, ?_⟩
            rw [← cg2]; exact World.cell?_of_block (w := W2) (hg3.block g (Nat.lt_of_lt_of_le hgl hg2'.size) (fun e => by
              have h1 := I.o.from g e
              have h3 := h.hi g (I.p.fv g (by rw [hv]; rfl)).1
              omega))
        · exact hos3.gr hg4 hlbw
        · rw [bytesOf2_append, I.b, show j + 1 - a = (j - a) + 1 by omega, pksB_succ, show s.first + a + (j - a) = s.first + j by omega, epk]
          rfl
        · exact ((I.g.trans hg2' fun k hk => Or.inl hk).trans hg3 fun k hk => Or.inr (I.o.from k hk)).trans hg4 fun k hk => Or.inl hk
        · exact hp3.cells.2.2.2.2.2.1
      have S0 := hid_into (show wr.cell? ⟨lb, 1, none⟩ = some v ∧ wr.cell? ⟨lb, 3, none⟩ = some (.int .i64 ((s.first - 1 : Nat) : Int)) ∧ wr.cell? ⟨g, j, none⟩ = some (.slice ar (s.L.getD j []).length cr) from ⟨I.p.cells.2.1, I.p.cells.2.2.2.1, hcell⟩)
      replace hv : v = .slice (some ⟨g, 0, none⟩) s.L.length cq := hv
      replace hin : j < s.L.length := hin
      obtain ⟨m1, hm1⟩ : ∃ m1 : Int, m1 = ((s.first - 1 : Nat) : Int) + (j : Int) := ⟨_, rfl⟩
      have a1 : IntKind.i64.wrap (((s.first - 1 : Nat) : Int) + (j : Int)) = m1 := by have := hf2.out; rw [hm1]; simp only [IntKind.wrap_i64]; omega
      have a2 : IntKind.i64.wrap (m1 + 1) = ((s.first + j : Nat) : Int) := by have := hf2.out; have := hf1.out; rw [hm1]; simp only [IntKind.wrap_i64]; omega
      have q1 : (0 : Int) ≤ (j : Int) := by omega
      have q2 : (j : Int) < (s.L.length : Int) := by omega
      have q3 : (j : Int) < (b : Int) := by omega
      clear I hcell hrow hrl hgood hsent hglb hgl h hm1 hc1 hc2 hl1 epk hb hs h0 hrw row
      generalize encP id ⟨s.first + j, s.came, s.L.getD j []⟩ = pb at CP HB
      generalize s.L.getD j [] = row at *
      generalize s.first + j = nn at *
      generalize s.first - 1 = oo at *
      generalize s.L.length = ll at *
      subst hv
      go_wp2_with fail
      go_region_held3 (fun V => V.cell? ⟨lb, 1, none⟩ = some (.slice (some ⟨g, 0, none⟩) ll cq) ∧ V.cell? ⟨lb, 3, none⟩ = some (.int .i64 (oo : Int)) ∧ V.cell? ⟨g, j, none⟩ = some (.slice ar row.length cr)) (first | exact S3.out | exact SA.out | exact S2.out | exact S0.out) (first
        | (go_at_call 50; refine CP.out.mono ?_; rintro e w2 ⟨ao2, cap2, rfl, ho2, hp2, hg2⟩; obtain ⟨ao3, cap3, w3, hrun, hS, hI, hc5, hf5⟩ := HB.out w2 ao2 cap2 ho2 hp2 hg2; have S2 := hid_into (hS _ (Or.inl rfl)); have SA := hid_into (hS _ (Or.inr (Or.inl rfl))); have S3 := hid_into (hS _ (Or.inr (Or.inr rfl))); clear hS ho2 hp2 hg2)
        | (refine step_made_row rfl (.tmp 31) rfl ao2 _ cap2 (by rfl) ?_)
        | (refine step_append_eq rfl 33 (.tmp 15) (.tmp 32) rfl _ _ _ (by rfl) (by rfl) hrun ?_))
      clear CP HB S0 S2 SA S3 hrun
      go_wp2_with fail
      go_roundw
      case rel => exact ⟨j + 1, ao3, cap3, _, by go_num, by omega, by omega, by rw [List.length_append]; rfl, hI⟩
      case measure => simp [intOf]; omega
    · obtain rfl : j = b := by omega
      go_wp2_with fail
      go_ret
      exact ⟨ao, cap, os, rfl, I⟩
end Go.Proofs.YtahodgmdikaedaaDoor
end

section
/-
  The program's Link: New, Left, Stats, fill, Tick, and all of a nil Link, by contracts.
-/
namespace Go.Proofs.YtahodgmdikaedaaDoor
open Go.RowKit
theorem Tab.gr {G : Nat → Prop} {w w' : World} (h : Tab w) (hg : Gr G w w') (h0 : ¬ G 0) : Tab w' := fun i hi => by
  rw [← h i hi]
  exact World.cell?_of_block (w := w) (hg.block 0 h.lt h0)
/-- The slice u has a row of its own, from block B on, of packets. -/
def Po (w : World) (B : Nat) (id : Int) (ps : List Pk) (u : Value) : Prop := ∃ os, Osl w B u os ∧ bytesOf2 os = ps.map (encP id)
theorem pb_len {id : Int} {ps : List Pk} {os : List Rw2} (h : bytesOf2 os = ps.map (encP id)) : os.length = ps.length := by
  have := congrArg List.length h
  rw [bytesOf2_len, List.length_map] at this
  exact this
theorem Po.nil (w : World) (B : Nat) (id : Int) : Po w B id [] (.slice none 0 0) := ⟨[], Osl.nil _ _, rfl⟩
theorem Po.gr {G : Nat → Prop} {w w' : World} {B : Nat} {id : Int} {ps : List Pk} {u : Value} (h : Po w B id ps u) (hg : Gr G w w') (hn : ∀ k, B ≤ k → ¬ G k) : Po w' B id ps u := by
  obtain ⟨os, h1, h2⟩ := h
  exact ⟨os, h1.gr hg hn, h2⟩
section
variable {w : World} {F : Nat → Prop} {lb : Nat} {v : Value} {rs : List Rw2} {id : Int} {s : Lk}
theorem newL_lok : Lok newL := ⟨Nat.le_refl _, Nat.le_refl _, Nat.zero_le _, Nat.zero_le _, Nat.zero_le _, by decide, by decide, by decide, by decide⟩
set_option maxRecDepth 20000 in
theorem new_any (w : World) (id : Int) (hi : -9223372036854775808 ≤ id ∧ id ≤ 9223372036854775807) : Calls Tryd.prog 20 #[.int .i64 id] w fun e w' => e = .returned (.pointer (some ⟨w.heap.size, 0, none⟩)) ∧ Lp w' (fun k => k = w.heap.size) w.heap.size (.slice none 0 0) [] id newL ∧ Below w.heap.size w w' ∧ w'.heap.size = w.heap.size + 1 := by
  go_enter Tryd.func20, Tryd.ntmps20
  go_wp2_with fail
  go_ret
  have hs : (w.alloc (.cells (lpC id (.slice none 0 0) newL).toArray 77)).heap.size = w.heap.size + 1 := World.size_alloc _ _
  exact ⟨rfl, ⟨Cw.new w (lpC id (.slice none 0 0) newL) 77, World.ownsRow_nil _ _ _ _, rfl, (fun r h => by cases h), rfl, (fun k hk => by cases hk), (fun k hk => by rw [hk]; exact Nat.lt_of_lt_of_eq (Nat.lt_succ_self _) hs.symm), hi, newL_lok⟩, (Below.refl _ _).alloc (Nat.le_refl _) _, hs⟩
theorem left_nil (w : World) : Calls Tryd.prog 19 #[.pointer none] w fun e w' => e = .returned (.int .i64 0) ∧ w' = w := by
  go_enter Tryd.func19, Tryd.ntmps19
  go_wp2_with fail
  go_ret
  exact ⟨rfl, rfl⟩
theorem left_any (h : Lp w F lb v rs id s) : Calls Tryd.prog 19 #[.pointer (some ⟨lb, 0, none⟩)] w fun e w' => e = .returned (.int .i64 (s.L.length : Int)) ∧ w' = w := by
  have c := h.cells.2.1
  have hl := h.len
  obtain ⟨ao, cap, hv⟩ : ∃ ao cap, v = .slice ao s.L.length cap := by
    rcases h.row.2 with ⟨rfl, h0⟩ | ⟨g, cap, cur, rfl, _⟩
    · exact ⟨none, 0, by rw [← hl, h0]⟩
    · exact ⟨_, cap, by rw [← hl]⟩
  subst hv
  clear h
  go_enter Tryd.func19, Tryd.ntmps19
  go_wp2_with fail
  go_ret
  exact ⟨rfl, rfl⟩
theorem stats_nil (w : World) : Calls Tryd.prog 23 #[.pointer none] w fun e w' => e = .returned (.tuple #[.int .i64 0, .int .i64 0]) ∧ Sm w w' := by
  go_enter Tryd.func23, Tryd.ntmps23
  go_wp2_with fail
  go_ret2
  exact ⟨rfl, Sm.refl _⟩
theorem stats_any (h : Lp w F lb v rs id s) : Calls Tryd.prog 23 #[.pointer (some ⟨lb, 0, none⟩)] w fun e w' => e = .returned (.tuple #[.int .i64 (s.sent : Int), .int .i64 (s.vain : Int)]) ∧ Sm w w' := by
  have c6 := h.cells.2.2.2.2.2.2.1
  have c7 := h.cells.2.2.2.2.2.2.2
  clear h
  go_enter Tryd.func23, Tryd.ntmps23
  go_wp2_with fail
  go_region_held3 (fun V => V.cell? ⟨lb, 6, none⟩ = some (.int .i64 (s.sent : Int)) ∧ V.cell? ⟨lb, 7, none⟩ = some (.int .i64 (s.vain : Int))) (exact ⟨c6, c7⟩) (fail)
  go_wp2_with fail
  go_ret2
  exact ⟨rfl, rfl, rfl, rfl, rfl⟩
theorem full16 (h : Lok s) : s.full 16 = min s.L.length 16 := by
  have := h.w
  have := h.w6
  unfold Lk.full
  omega
set_option maxHeartbeats 1600000 in
set_option maxRecDepth 20000 in
theorem lfill_any (h : Lp w F lb v rs id s) (ht : Tab w) (h0 : ¬ F 0) (hs : s.sent ≤ 90000000000000) : Calls Tryd.prog 35 #[.pointer (some ⟨lb, 0, none⟩)] w fun e w' => ∃ ao cap, e = .returned (.slice ao (s.outs 16).length cap) ∧ Po w' w.heap.size id (s.outs 16) (.slice ao (s.outs 16).length cap) ∧ Lp w' F lb v rs id (s.goes 16) ∧ Gr (fun k => k = lb) w w' := by
  have hf := full16 h.ok
  have k1 := h.ok.w
  have k2 := h.ok.w6
  have k3 := h.ok.l
  obtain ⟨_, c1, c2, _⟩ := h.cells
  have f2 := h.fz 2
  have hl := h.len
  obtain ⟨ao, cap, hv⟩ : ∃ ao cap, v = .slice ao s.L.length cap := by
    rcases h.row.2 with ⟨rfl, h0⟩ | ⟨g, cap, cur, rfl, _⟩
    · exact ⟨none, 0, by rw [← hl, h0]⟩
    · exact ⟨_, cap, by rw [← hl]⟩
  obtain ⟨m, hm⟩ : ∃ m, m = min s.L.length 16 := ⟨_, rfl⟩
  have ok1 : Lok { s with way := m } := ⟨h.ok.f, by show m ≤ s.L.length; omega, by show m ≤ 16; omega, h.ok.l, h.ok.t, h.ok.bf, h.ok.bc, h.ok.bs, h.ok.bv⟩
  obtain ⟨h1, g1⟩ := h.set 2 (.int .i64 (m : Int)) (s' := { s with way := m }) rfl rfl ok1
  have hout : ((s.outs 16)).map (encP id) = pksB id s (s.first + s.way) (m - s.way) := by
    unfold Lk.outs pksB
    rw [hf, hm]
  have hgoes : ({ s with way := m } : Lk).told (m - s.way) = s.goes 16 := by
    unfold Lk.told Lk.goes
    rw [hf, ← hm]
    by_cases c : s.way < m
    · rw [if_pos c, if_neg (by omega)]
    · rw [if_neg c, if_pos (by omega)]
  have C := tell_any h1 (ht.gr g1 fun e => h0 (by rw [e]; exact h.fl)) h0 s.way m (by omega) (by show m ≤ s.L.length; omega) (by show s.sent + _ ≤ _; omega)
  have C : Hid (∀ W, W = w.setCell ⟨lb, 2, none⟩ (.int .i64 (m : Int)) → Calls Tryd.prog 36 #[.pointer (some ⟨lb, 0, none⟩), .int .i64 s.way, .int .i64 m] W fun e w' => ∃ ao cap, e = .returned (.slice ao (s.outs 16).length cap) ∧ Po w' w.heap.size id (s.outs 16) (.slice ao (s.outs 16).length cap) ∧ Lp w' F lb v rs id (s.goes 16) ∧ Gr (fun k => k = lb) w w') := by
    rintro W rfl
    refine C.mono ?_
    rintro e w' ⟨ao, cap, os, rfl, I⟩
    have e1 : (w.setCell ⟨lb, 2, none⟩ (.int .i64 (m : Int))).heap.size = w.heap.size := by simp [World.setCell]
    have hb : bytesOf2 os = (s.outs 16).map (encP id) := by rw [hout]; exact I.b
    have hlen : os.length = (s.outs 16).length := by
      have := congrArg List.length hb
      rw [bytesOf2_len, List.length_map] at this
      exact this
    have ho := I.o
    rw [e1, hlen] at ho
    refine ⟨ao, cap, by rw [hlen], ⟨os, ho, hb⟩, by rw [← hgoes]; exact I.p, g1.trans I.g fun k hk => Or.inl hk⟩
  obtain ⟨_, _, d2, _⟩ := h1.cells
  have d2 : (w.setCell ⟨lb, 2, none⟩ (.int .i64 (m : Int))).cell? ⟨lb, 2, none⟩ = some (.int .i64 (m : Int)) := d2
  have em : (if (s.L.length : Int) < 16 then (s.L.length : Int) else 16) = (m : Int) := by split <;> omega
  have em2 : min (s.L.length : Int) 16 = (m : Int) := by omega
  subst hv
  clear h h1 g1 ok1 ht hs h0 hout hgoes hf k1 k2 hl hm
  go_enter Tryd.func35, Tryd.ntmps35
  go_wp2_with fail
  refine (C.out _ rfl).mono ?_
  rintro e w2 ⟨ao2, cap2, rfl, hP, hL, hG⟩
  go_wp2_with fail
  go_ret
  exact ⟨ao2, cap2, rfl, hP, hL, hG⟩
theorem tick_nil (w : World) : Calls Tryd.prog 15 #[.pointer none] w fun e w' => e = .returned (.slice none 0 0) ∧ w' = w := by
  go_enter Tryd.func15, Tryd.ntmps15
  go_wp2_with fail
  go_ret
  exact ⟨rfl, rfl⟩
set_option maxHeartbeats 1600000 in
set_option maxRecDepth 20000 in
theorem tick_any (h : Lp w F lb v rs id s) (ht : Tab w) (h0 : ¬ F 0) (hs : s.sent ≤ 90000000000000) (h4 : s.since ≤ 4) : Calls Tryd.prog 15 #[.pointer (some ⟨lb, 0, none⟩)] w fun e w' => ∃ ao cap, e = .returned (.slice ao s.tickO.length cap) ∧ Po w' w.heap.size id s.tickO (.slice ao s.tickO.length cap) ∧ Lp w' F lb v rs id s.tickS ∧ Gr (fun k => k = lb) w w' := by
  have k1 := h.ok.w
  have k2 := h.ok.w6
  obtain ⟨_, _, c2, _, _, c5, _⟩ := h.cells
  have f5 := h.fz 5
  by_cases ca : s.way = 0
  · have eO : s.tickO = [] := by unfold Lk.tickO; rw [if_pos (Or.inl ca)]
    have eS : s.tickS = { s with since := 0 } := by unfold Lk.tickS; rw [if_pos ca]
    obtain ⟨h1, g1⟩ := h.set 5 (.int .i64 0) (s' := { s with since := 0 }) rfl rfl ⟨h.ok.f, h.ok.w, h.ok.w6, h.ok.l, Nat.zero_le _, h.ok.bf, h.ok.bc, h.ok.bs, h.ok.bv⟩
    rw [eO, eS]
    have ca' : (s.way : Int) = 0 := by omega
    rw [ca'] at c2
    clear h ht h0 eO eS k1 k2
    go_enter Tryd.func15, Tryd.ntmps15
    go_wp2_with fail
    go_ret
    exact ⟨none, 0, rfl, Po.nil _ _ _, h1, g1⟩
  · have ca' : ¬ (s.way : Int) = 0 := by omega
    obtain ⟨h1, g1⟩ := h.set 5 (.int .i64 ((s.since : Int) + 1)) (s' := { s with since := s.since + 1 }) rfl rfl ⟨h.ok.f, h.ok.w, h.ok.w6, h.ok.l, by show s.since + 1 ≤ 5; omega, h.ok.bf, h.ok.bc, h.ok.bs, h.ok.bv⟩
    have d5 : (w.setCell ⟨lb, 5, none⟩ (.int .i64 ((s.since : Int) + 1))).cell? ⟨lb, 5, none⟩ = some (.int .i64 ((s.since : Int) + 1)) := h1.cells.2.2.2.2.2.1
    have d2 : (w.setCell ⟨lb, 5, none⟩ (.int .i64 ((s.since : Int) + 1))).cell? ⟨lb, 2, none⟩ = some (.int .i64 (s.way : Int)) := h1.cells.2.2.1
    by_cases cb : s.since + 1 < 5
    · have eO : s.tickO = [] := by unfold Lk.tickO; rw [if_pos (Or.inr cb)]
      have eS : s.tickS = { s with since := s.since + 1 } := by unfold Lk.tickS; rw [if_neg ca, if_pos cb]
      rw [eO, eS]
      have cb' : (s.since : Int) + 1 < 5 := by omega
      clear h ht h0 eO eS k1 k2
      go_enter Tryd.func15, Tryd.ntmps15
      go_wp2_with fail
      go_ret
      exact ⟨none, 0, rfl, Po.nil _ _ _, h1, g1⟩
    · have eS : s.tickS = ({ s with since := s.since + 1 } : Lk).told s.way := by
        unfold Lk.tickS Lk.told
        rw [if_neg ca, if_neg cb, if_neg ca]
      have hout : s.tickO.map (encP id) = pksB id { s with since := s.since + 1 } (s.first + 0) (s.way - 0) := by
        unfold Lk.tickO pksB
        rw [if_neg (by omega)]
        rfl
      have cb' : ¬ (s.since : Int) + 1 < 5 := by omega
      have C := tell_any h1 (ht.gr g1 fun e => h0 (by rw [e]; exact h.fl)) h0 0 s.way (Nat.zero_le _) k1 (by show s.sent + _ ≤ _; omega)
      have C : Hid (∀ W, W = w.setCell ⟨lb, 5, none⟩ (.int .i64 ((s.since : Int) + 1)) → Calls Tryd.prog 36 #[.pointer (some ⟨lb, 0, none⟩), .int .i64 0, .int .i64 s.way] W fun e w' => ∃ ao cap, e = .returned (.slice ao s.tickO.length cap) ∧ Po w' w.heap.size id s.tickO (.slice ao s.tickO.length cap) ∧ Lp w' F lb v rs id s.tickS ∧ Gr (fun k => k = lb) w w') := by
        rintro W rfl
        refine C.mono ?_
        rintro e w' ⟨ao, cap, os, rfl, I⟩
        have e1 : (w.setCell ⟨lb, 5, none⟩ (.int .i64 ((s.since : Int) + 1))).heap.size = w.heap.size := by simp [World.setCell]
        have hb : bytesOf2 os = s.tickO.map (encP id) := by rw [hout]; exact I.b
        have hlen := pb_len hb
        have ho := I.o
        rw [e1, hlen] at ho
        refine ⟨ao, cap, by rw [hlen], ⟨os, ho, hb⟩, by rw [eS]; exact I.p, g1.trans I.g fun k hk => Or.inl hk⟩
      clear h ht h0 eS k1 k2 h1 g1 hout
      go_enter Tryd.func15, Tryd.ntmps15
      go_wp2_with fail
      refine (C.out _ rfl).mono ?_
      rintro e w2 ⟨ao2, cap2, rfl, hP, hL, hG⟩
      go_wp2_with fail
      go_ret
      exact ⟨ao2, cap2, rfl, hP, hL, hG⟩
end
end Go.Proofs.YtahodgmdikaedaaDoor
end

section
/-
  What a packet's ack lets go: release, by contract.
-/
namespace Go.Proofs.YtahodgmdikaedaaDoor
open Go.RowKit
section
variable {w : World} {F : Nat → Prop} {lb : Nat} {v : Value} {rs : List Rw2} {id : Int} {s : Lk}
theorem row_slice {w : World} {v : Value} {n : Nat} {us : List Value} (h : w.ownsRow 0 29 1 v n us) : ∃ ao cap, v = .slice ao n cap := by
  rcases h.2 with ⟨rfl, h0⟩ | ⟨g, cap, cur, rfl, _⟩
  · exact ⟨none, 0, by rw [h0]⟩
  · exact ⟨_, cap, rfl⟩
/-- How many rows an ack owns to. -/
def Lk.ownN (s : Lk) (ack : Nat) : Nat := min s.way (ack + 1 - s.first)
theorem slOf_one (rs : List Rw2) (h : ∀ r ∈ rs, Bs w r.1 r.2 ∧ Byt r.2 ∧ r.2.length ≤ 4096 ∧ ∀ k, r.1.ownBlock = some k → F k ∧ k ≠ lb ∧ v.ownBlock ≠ some k) : ∀ u ∈ slOf rs, u.oneCell' = true := by
  intro u hu
  obtain ⟨r, hr, rfl⟩ := List.mem_map.1 hu
  obtain ⟨ao, cap, e, _⟩ := (h r hr).1.len
  rw [e]
  rfl
theorem ownN_int (h : Lok s) (ack : Nat) (ha : ack ≤ 9223372036854775807) : min (max (IntKind.i64.wrap ((ack : Int) - ((s.first - 1 : Nat) : Int))) 0) (s.way : Int) = ((s.ownN ack : Nat) : Int) := by
  have h1 := h.f
  have h2 := h.bf
  have e : IntKind.i64.wrap ((ack : Int) - ((s.first - 1 : Nat) : Int)) = (ack : Int) - ((s.first - 1 : Nat) : Int) := IntWalk.i64_in _ (by omega)
  rw [e]
  unfold Lk.ownN
  omega
set_option maxHeartbeats 1600000 in
set_option maxRecDepth 20000 in
theorem release_any (h : Lp w F lb v rs id s) (pid n : Int) (ack : Nat) (hack : ack ≤ 9223372036854775807) (hbf : s.first + s.ownN ack ≤ 100000000000000) (rv a : Value) :
    Calls Tryd.prog 38 #[.pointer (some ⟨lb, 0, none⟩), .agg (pkC pid n ack rv).toArray, a] w fun e w' => e = .returned (.tuple #[]) ∧ ∃ v' rs', Lp w' F lb v' rs' id (s.own ack) ∧ Gr F w w' ∧ w'.heap.size = w.heap.size + 1 := by
  obtain ⟨ea, ec, rfl⟩ := row_slice h.row
  have f1 := h.ok.f
  have f2 := h.ok.bf
  have f3 := h.ok.w6
  go_enter Tryd.func38, Tryd.ntmps38
  go_wp2_with (refine wpList_box_row rfl 80 (.tmp 1) rfl (pkC pid n ack rv) (by rfl) ?_; intro w1 bx hb hs1; have b2 := bx.cell 2)
  have h1 := h.below hb
  obtain ⟨_, c1, c2, c3, _⟩ := h1.cells
  have b2' : w1.cell? ⟨w.heap.size, 2, none⟩ = some (.int .i64 (ack : Int)) := b2
  clear b2
  go_region_held3 (fun V => V.cell? ⟨w.heap.size, 2, none⟩ = some (.int .i64 (ack : Int)) ∧ V.cell? ⟨lb, 2, none⟩ = some (.int .i64 (s.way : Int)) ∧ V.cell? ⟨lb, 3, none⟩ = some (.int .i64 ((s.first - 1 : Nat) : Int))) (exact ⟨b2', c2, c3⟩) (fail)
  rw [ownN_int h.ok ack hack]
  generalize IntKind.i64.wrap ((ack : Int) - ((s.first - 1 : Nat) : Int)) = x1
  generalize max x1 0 = x2
  have hm1 : s.ownN ack ≤ s.way := Nat.min_le_left _ _
  have hmE : s.own ack = { s with L := s.L.drop (s.ownN ack), first := s.first + s.ownN ack, way := s.way - s.ownN ack } := rfl
  have hbig : s.first + s.ownN ack ≤ 100000000000000 := hbf
  generalize s.ownN ack = m at *
  have hrl := hid_into h.len
  have hwl := h.ok.w
  have hL := h.ok.l
  have hv := h.fv
  have D := del_any (w := w1.drew) (us := slOf rs) (show w1.drew.ownsRow 0 29 1 (.slice ea rs.length ec) (slOf rs).length (slOf rs) by rw [show (slOf rs).length = rs.length by simp [slOf]]; exact h1.row) (slOf_one rs h1.each) m (by rw [show (slOf rs).length = rs.length by simp [slOf]]; have := hrl.out; omega) (by rw [show (slOf rs).length = rs.length by simp [slOf]]; have := hrl.out; omega)
  have hdl : (slOf rs).length = rs.length := by simp [slOf]
  rw [hdl] at D
  clear hdl
  have D := hid_into D
  have hmE := hid_into hmE
  have hv := hid_into hv
  have HH := hid_into h1
  clear h1 b2'
  go_wp2_with (go_at_call 53; refine D.out.mono ?_; rintro e w2 ⟨v2, rfl, hrow, hob, hg, hsz⟩; obtain ⟨ao2, cap2, hv2⟩ := row_slice hrow; subst hv2; have q2 : Cw w2 lb (lpC id (.slice ea rs.length ec) s) 77 := HH.out.q.keep (hg.block lb (HH.out.q.lt) fun e => (hv.out lb e).2 rfl); obtain ⟨d1, d2, d3⟩ : w2.cell? ⟨lb, 1, none⟩ = some (.slice ea rs.length ec) ∧ w2.cell? ⟨lb, 2, none⟩ = some (.int .i64 (s.way : Int)) ∧ w2.cell? ⟨lb, 3, none⟩ = some (.int .i64 ((s.first - 1 : Nat) : Int)) := ⟨q2.cell 1, q2.cell 2, q2.cell 3⟩; have qf := q2.frozen)
  go_end0
  have HX := HH.out
  have hv := hv.out
  have hrl := hrl.out
  have hsw : ∀ x y z : Value, (((w2.setCell ⟨lb, 1, none⟩ x).setCell ⟨lb, 2, none⟩ y).setCell ⟨lb, 3, none⟩ z).heap.size = w2.heap.size := fun x y z => by simp [World.setCell]
  have hkp : ∀ x y z : Value, ∀ k, k ≠ lb → (((w2.setCell ⟨lb, 1, none⟩ x).setCell ⟨lb, 2, none⟩ y).setCell ⟨lb, 3, none⟩ z).heap[k]? = w2.heap[k]? := fun x y z k hk => by
    rw [Below.heap_setCell _ _ _ _ hk, Below.heap_setCell _ _ _ _ hk, Below.heap_setCell _ _ _ _ hk]
  have hsz' : w2.heap.size = w.heap.size + 1 := by rw [hsz]; exact hs1.out
  rw [show ((s.way : Int) - (m : Int)) = ((s.way - m : Nat) : Int) by omega, show (((s.first - 1 : Nat) : Int) + (m : Int)) = ((s.first + m - 1 : Nat) : Int) by omega]
  refine ⟨rfl, .slice ao2 (rs.length - m) cap2, rs.drop m, ?_, ?_, by rw [hsw]; exact hsz'⟩
  · rw [hmE.out]
    refine ⟨((q2.set 1 _).set 2 _).set 3 _, ?_, ?_, ?_, h.fl, ?_, ?_, h.i, ?_⟩
    · rw [List.length_drop, show slOf (rs.drop m) = (slOf rs).drop m by simp [slOf, List.map_drop]]
      exact ownsRow_keep hrow fun k hk _ => hkp _ _ _ k (hv k (by rw [← hob]; exact hk)).2
    · show bytesOf2 (rs.drop m) = s.L.drop m
      rw [← h.e]
      simp [bytesOf2, List.map_drop]
    · intro r hr
      obtain ⟨e1, e2, e3, e4⟩ := HX.each r (List.mem_of_mem_drop hr)
      refine ⟨e1.keep fun k hk hlt => ?_, e2, e3, fun k hk => ⟨(e4 k hk).1, (e4 k hk).2.1, fun e => (e4 k hk).2.2 (by rw [← hob]; exact e)⟩⟩
      rw [hkp _ _ _ k (e4 k hk).2.1]
      exact hg.block k hlt (e4 k hk).2.2
    · intro k hk
      exact hv k (by rw [← hob]; exact hk)
    · intro k hk
      rw [hsw]
      have := h.hi k hk
      omega
    · refine ⟨by show 1 ≤ s.first + m; omega, ?_, by show s.way - m ≤ 16; omega, ?_, h.ok.t, hbig, h.ok.bc, h.ok.bs, h.ok.bv⟩
      · show s.way - m ≤ (s.L.drop m).length
        rw [List.length_drop]; omega
      · show (s.L.drop m).length ≤ 1000
        rw [List.length_drop]; omega
  · have g1 : Gr F w w1.drew := (Gr.of_below hb F fun k hk hb' => by omega).trans (Gr.drew F w1) fun k hk => Or.inl hk
    have g2 : Gr F w w2 := g1.trans hg fun k hk => Or.inl (hv k hk).1
    exact ((g2.trans (Gr.setCell _ _ _ (F := fun k => k = lb) rfl) fun k hk => Or.inl (by rw [hk]; exact h.fl)).trans (Gr.setCell _ _ _ (F := fun k => k = lb) rfl) fun k hk => Or.inl (by rw [hk]; exact h.fl)).trans (Gr.setCell _ _ _ (F := fun k => k = lb) rfl) fun k hk => Or.inl (by rw [hk]; exact h.fl)
end
end Go.Proofs.YtahodgmdikaedaaDoor
end

section
/-
  What a packet's row and number do: accept, proceed, confirm, by contracts.
-/
namespace Go.Proofs.YtahodgmdikaedaaDoor
open Go.RowKit
/-- The answer's cells. -/
def anC (u o : Value) : List Value := [u, o]
/-- A row of rows of the call's own, apart from block ab. -/
structure Oa (w : World) (B ab : Nat) (u : Value) (os : List Rw2) : Prop where
  o : Osl w B u os
  u : u.ownBlock ≠ some ab
  r : ∀ r ∈ os, r.1.ownBlock ≠ some ab
theorem Oa.nil (w : World) (B ab : Nat) : Oa w B ab (.slice none 0 0) [] := ⟨Osl.nil _ _, by simp [Value.ownBlock], fun r h => by cases h⟩
theorem Oa.gr {G : Nat → Prop} {w w' : World} {B ab : Nat} {u : Value} {os : List Rw2} (h : Oa w B ab u os) (hg : Gr G w w') (hn : ∀ k, B ≤ k → k ≠ ab → ¬ G k) : Oa w' B ab u os := by
  refine ⟨⟨ownsRow_keep h.o.row fun k hk hlt => hg.block k hlt (hn k (h.o.from k hk) fun e => h.u (by rw [hk, e])), fun r hr => ?_⟩, h.u, h.r⟩
  obtain ⟨e1, e2, e3, e4⟩ := h.o.each r hr
  exact ⟨e1.keep fun k hk hlt => hg.block k hlt (hn k (World.ownsRow.lt e1 k hk).1 fun e => h.r r hr (by rw [hk, e])), e2, e3, e4⟩
section
variable {w : World} {F : Nat → Prop} {lb : Nat} {v : Value} {rs : List Rw2} {id : Int} {s : Lk}
set_option maxHeartbeats 1600000 in
set_option maxRecDepth 20000 in
/-- No row. -/
theorem accept_zero (pid ack : Int) (rv : Value) (ab : Nat) (v0 : Value) :
    Calls Tryd.prog 39 #[v0, .agg (pkC pid 0 ack rv).toArray, .pointer (some ⟨ab, 0, none⟩)] w fun e w' => e = .returned (.tuple #[]) ∧ Below w.heap.size w w' := by
  go_enter Tryd.func39, Tryd.ntmps39
  go_wp2_with (refine wpList_box_row rfl 80 (.tmp 1) rfl (pkC pid 0 ack rv) (by rfl) ?_; intro w1 bx hb hs1; have b1 : w1.cell? ⟨w.heap.size, 1, none⟩ = some (.int .i64 0) := bx.cell 1)
  go_end0
  exact ⟨rfl, hb⟩
set_option maxHeartbeats 1600000 in
set_option maxRecDepth 20000 in
/-- A row that is not the next one. -/
theorem accept_no (h : Lp w F lb v rs id s) (pid ack : Int) (n : Nat) (hn : 0 < n) (hn9 : n ≤ 9223372036854775807) (hc : n ≠ s.came + 1) (hv : s.vain < 100000000000000) (rv : Value) (ab : Nat) :
    Calls Tryd.prog 39 #[.pointer (some ⟨lb, 0, none⟩), .agg (pkC pid n ack rv).toArray, .pointer (some ⟨ab, 0, none⟩)] w fun e w' => e = .returned (.tuple #[]) ∧ Lp w' F lb v rs id { s with vain := s.vain + 1 } ∧ Gr (fun k => k = lb) w w' := by
  have hc1 := h.ok.bc
  have n1 : ¬ (n : Int) = 0 := by omega
  have n2 : ¬ (n : Int) = (s.came : Int) + 1 := by omega
  have HH := hid_into h
  clear h hn hc
  go_enter Tryd.func39, Tryd.ntmps39
  go_wp2_with (refine wpList_box_row rfl 80 (.tmp 1) rfl (pkC pid n ack rv) (by rfl) ?_; intro w1 bx hb hs1; have b1 : w1.cell? ⟨w.heap.size, 1, none⟩ = some (.int .i64 n) := bx.cell 1; have h1 := HH.out.below hb; obtain ⟨_, _, _, _, c4, _, _, c7⟩ := h1.cells; have f7 := h1.fz 7)
  go_end0
  obtain ⟨h2, g2⟩ := h1.set 7 (.int .i64 ((s.vain : Int) + 1)) (s' := { s with vain := s.vain + 1 }) rfl rfl ⟨h1.ok.f, h1.ok.w, h1.ok.w6, h1.ok.l, h1.ok.t, h1.ok.bf, h1.ok.bc, h1.ok.bs, hv⟩
  exact ⟨rfl, h2, (Gr.of_below hb (fun k => k = lb) fun k hk hb' => by omega).trans g2 fun k hk => Or.inl hk⟩
set_option maxHeartbeats 3200000 in
set_option maxRecDepth 20000 in
/-- The next row. -/
theorem accept_yes (h : Lp w F lb v rs id s) (pid ack : Int) (hc : s.came < 100000000000000) (B : Nat) (hB : B ≤ w.heap.size) (ao : Option Addr) (cap : Nat) (row : List Int) (hr : Ow w B (.slice ao row.length cap) row) (hy : Byt row) (hl : row.length ≤ 4096)
    (ab : Nat) (ov : Value) (ha : Cw w ab (anC (.slice none 0 0) ov) 84) (hab : ¬ F ab) (hra : (Value.slice ao row.length cap).ownBlock ≠ some ab) (hrb : ∀ k, (Value.slice ao row.length cap).ownBlock = some k → ¬ F k) :
    Calls Tryd.prog 39 #[.pointer (some ⟨lb, 0, none⟩), .agg (pkC pid ((s.came + 1 : Nat) : Int) ack (.slice ao row.length cap)).toArray, .pointer (some ⟨ab, 0, none⟩)] w fun e w' => e = .returned (.tuple #[]) ∧
      ∃ ao' cap', Cw w' ab (anC (.slice ao' 1 cap') ov) 84 ∧ Oa w' B ab (.slice ao' 1 cap') [(.slice ao row.length cap, row)] ∧ Lp w' F lb v rs id { s with came := s.came + 1 } ∧ Gr (fun k => k = lb ∨ k = ab) w w' := by
  have n1 : ¬ ((s.came : Int) + 1) = 0 := by omega
  have e1 : ((s.came + 1 : Nat) : Int) = (s.came : Int) + 1 := by omega
  rw [e1]
  have hlab : lb ≠ ab := fun e => hab (by rw [← e]; exact h.fl)
  have hlt := h.hi lb h.fl
  -- what the append does, from whatever world
  have AP : Hid (∀ W, Gr (fun k => k = lb) w W → ∃ ao' cap' w', (∀ ty, (Builtin.append_ #[33, 33] ty #[.slice none 0 0, .slice (some ⟨W.heap.size, 0, none⟩) 1 1]).run Tryd.prog (W.alloc (.cells #[.slice ao row.length cap] 29)) = .ok (.slice ao' 1 cap') w') ∧
      w'.cell? ⟨ab, 0, none⟩ = some (.slice none 0 0) ∧ w'.frozen? ⟨ab, 0, none⟩ = false ∧ Hid (Cw (w'.setCell ⟨ab, 0, none⟩ (.slice ao' 1 cap')) ab (anC (.slice ao' 1 cap') ov) 84 ∧ Oa (w'.setCell ⟨ab, 0, none⟩ (.slice ao' 1 cap')) B ab (.slice ao' 1 cap') [(.slice ao row.length cap, row)] ∧ Gr (fun k => k = ab) W (w'.setCell ⟨ab, 0, none⟩ (.slice ao' 1 cap')))) := by
    intro W hg
    have hr' : Ow W B (.slice ao row.length cap) row := hr.keep fun k hk hlt' => hg.block k hlt' fun e => hrb k hk (by rw [e]; exact h.fl)
    have haW : Cw W ab (anC (.slice none 0 0) ov) 84 := hg.cw ha fun e => hlab e.symm
    obtain ⟨ao', cap', w', hrun, hosl, hgr, hfr⟩ := osl_new (w := W) (base := B) (Osl.nil W B) ao cap row hr' hy (by omega) (fun k _ e => by simp [Value.ownBlock] at e) (by simp) (Nat.le_trans hB hg.size)
    have hgE : Gr (fun _ => False) W w' := hgr.mono fun k hk => by simp [Value.ownBlock] at hk
    have ha' : Cw w' ab (anC (.slice none 0 0) ov) 84 := hgE.cw haW fun e => e
    have hu : ∀ k, (Value.slice ao' 1 cap').ownBlock = some k → W.heap.size ≤ k := fun k hk => by
      rcases hfr with e | ⟨k', e, hk'⟩
      · have : (Value.slice none 0 0).ownBlock = some k := by rw [← e]; exact hk
        simp [Value.ownBlock] at this
      · have e2 : some k' = some k := by rw [← e]; exact hk
        have := Option.some.inj e2
        omega
    have hub : (Value.slice ao' 1 cap').ownBlock ≠ some ab := fun e => by
      have := hu ab e
      have := haW.lt
      omega
    have O1 : Oa w' B ab (.slice ao' 1 cap') [(.slice ao row.length cap, row)] := ⟨hosl, hub, fun r hr => by
      obtain rfl : r = (.slice ao row.length cap, row) := by simpa using hr
      exact hra⟩
    refine ⟨ao', cap', w', hrun, ha'.cell 0, ha'.frozen 0, ha'.set 0 _, O1.gr (Gr.setCell (F := fun k => k = ab) _ _ _ rfl) fun k _ hk => hk, (hgE.mono fun k hk => hk.elim).trans (Gr.setCell (F := fun k => k = ab) _ _ _ rfl) fun k hk => Or.inl hk⟩
  have HH := hid_into h
  have HA := hid_into ha
  have hal := ha.lt
  have hab' : Hid (¬ F ab) := hab
  clear h ha hr hy hl hab hra hrb e1 hB
  go_enter Tryd.func39, Tryd.ntmps39
  go_wp2_with (refine wpList_box_row rfl 80 (.tmp 1) rfl (pkC pid ((s.came : Int) + 1) ack (.slice ao row.length cap)) (by rfl) ?_; intro w1 bx hb hs1; have b1 : w1.cell? ⟨w.heap.size, 1, none⟩ = some (.int .i64 ((s.came : Int) + 1)) := bx.cell 1; have h1 := HH.out.below hb; obtain ⟨_, _, _, _, c4, _, _, _⟩ := h1.cells; have f4 := h1.fz 4)
  obtain ⟨h2, g2⟩ := h1.set 4 (.int .i64 ((s.came : Int) + 1)) (s' := { s with came := s.came + 1 }) (by simp [lpC]) rfl ⟨h1.ok.f, h1.ok.w, h1.ok.w6, h1.ok.l, h1.ok.t, h1.ok.bf, hc, h1.ok.bs, h1.ok.bv⟩
  have hpb : w.heap.size < w1.heap.size := by have := hs1.out; omega
  have bx3 : (w1.setCell ⟨lb, 4, none⟩ (.int .i64 ((s.came : Int) + 1))).cell? ⟨w.heap.size, 3, none⟩ = some (.slice ao row.length cap) := (bx.other lb 4 [.int .i64 ((s.came : Int) + 1)] (by omega)).cell 3
  have gW : Gr (fun k => k = lb) w (w1.setCell ⟨lb, 4, none⟩ (.int .i64 ((s.came : Int) + 1))) := (Gr.of_below hb (fun k => k = lb) fun k hk hb' => by omega).trans g2 fun k hk => Or.inl hk
  have haW : (w1.setCell ⟨lb, 4, none⟩ (.int .i64 ((s.came : Int) + 1))).cell? ⟨ab, 0, none⟩ = some (.slice none 0 0) := (gW.cw HA.out fun e => hlab e.symm).cell 0
  have sW : (w1.setCell ⟨lb, 4, none⟩ (.int .i64 ((s.came : Int) + 1))).heap.size = w1.heap.size := by simp [World.setCell]
  have l1 : ab < (w1.setCell ⟨lb, 4, none⟩ (.int .i64 ((s.came : Int) + 1))).heap.size := by omega
  have l2 : w.heap.size < (w1.setCell ⟨lb, 4, none⟩ (.int .i64 ((s.came : Int) + 1))).heap.size := by omega
  clear b1 c4 f4 h1 bx hb hs1 sW g2
  have HL := hid_into h2
  have HG := hid_into gW
  have HLA := hid_into hlab
  clear h2 gW hlab
  generalize w1.setCell ⟨lb, 4, none⟩ (.int .i64 ((s.came : Int) + 1)) = W at *
  obtain ⟨ao', cap', w3, hrun, q3, f3, HF⟩ := AP.out W.drew (HG.out.trans (Gr.drew (fun k => k = lb) W) fun k hk => Or.inl hk)
  have HR := hid_into hrun
  clear hrun AP
  go_region_law (first
    | (refine step_made_row rfl (.tmp 37) rfl ao _ cap (by rfl) ?_)
    | (refine step_append_eq rfl 33 (.tmp 35) (.tmp 38) rfl _ _ _ (by rfl) (by rfl) HR.out ?_))
  all_goals
    (go_wp2_with fail
     go_end0
     obtain ⟨t1, t2, t3⟩ := HF.out
     exact ⟨rfl, ao', cap', t1, t2, HL.out.drew.gr t3 fun k hk e => hab'.out (by rw [← e]; exact hk), ((HG.out.trans (Gr.drew (fun k => k = lb) W) fun k hk => Or.inl hk).mono fun k hk => Or.inl hk).trans t3 fun k hk => Or.inl (Or.inr hk)⟩)
set_option maxHeartbeats 1600000 in
set_option maxRecDepth 20000 in
theorem proceed_any (h : Lp w F lb v rs id s) (ht : Tab w) (h0 : ¬ F 0) (hs : s.sent ≤ 90000000000000) (pid n ack : Int) (rv av ov : Value) (ab : Nat) (ha : Cw w ab (anC av ov) 84) (hab : ¬ F ab) :
    Calls Tryd.prog 40 #[.pointer (some ⟨lb, 0, none⟩), .agg (pkC pid n ack rv).toArray, .pointer (some ⟨ab, 0, none⟩)] w fun e w' => e = .returned (.tuple #[]) ∧
      ∃ ao cap B, (w.heap.size ≤ B ∧ B ≤ w'.heap.size) ∧ Cw w' ab (anC av (.slice ao (s.outs 16).length cap)) 84 ∧ Po w' B id (s.outs 16) (.slice ao (s.outs 16).length cap) ∧ Lp w' F lb v rs id (s.goes 16) ∧ Gr (fun k => k = lb ∨ k = ab) w w' := by
  have HH := hid_into h
  have HA := hid_into ha
  have HT := hid_into ht
  have hlab : Hid (lb ≠ ab) := fun e => hab (by rw [← e]; exact h.fl)
  have hab' : Hid (¬ F ab) := hab
  clear h ha ht hab
  go_enter Tryd.func40, Tryd.ntmps40
  go_wp2_with (refine wpList_box_row rfl 80 (.tmp 1) rfl (pkC pid n ack rv) (by rfl) ?_; intro w1 bx hb hs1; clear bx)
  refine (lfill_any (HH.out.below hb) (HT.out.below hb HT.out.lt) h0 hs).mono ?_
  rintro e w2 ⟨ao, cap, rfl, hp, hl, hg⟩
  have ha1 : Cw w1 ab (anC av ov) 84 := HA.out.below hb HA.out.lt
  have ha2 : Cw w2 ab (anC av ov) 84 := hg.cw ha1 fun e => hlab.out e.symm
  have q1 : w2.cell? ⟨ab, 1, none⟩ = some ov := ha2.cell 1
  have f1 := ha2.frozen 1
  have hal := ha1.lt
  have hsz : Hid (w.heap.size ≤ w1.heap.size) := hb.size
  have hsz2 : Hid (w1.heap.size ≤ (w2.setCell ⟨ab, 1, none⟩ (.slice ao (s.outs 16).length cap)).heap.size) := by show _ ≤ _; have := hg.size; simpa [World.setCell] using this
  have g1 : Gr (fun k => k = lb) w w2 := (Gr.of_below hb (fun k => k = lb) fun k hk hb' => by omega).trans hg fun k hk => Or.inl hk
  have gs : Gr (fun k => k = ab) w2 (w2.setCell ⟨ab, 1, none⟩ (.slice ao (s.outs 16).length cap)) := Gr.setCell _ _ _ rfl
  have hp2 : Po (w2.setCell ⟨ab, 1, none⟩ (.slice ao (s.outs 16).length cap)) w1.heap.size id (s.outs 16) (.slice ao (s.outs 16).length cap) := hp.gr gs fun k hk e => by omega
  have hl2 := hl.gr gs fun k hk e => hab'.out (by rw [← e]; exact hk)
  have ha3 : Cw (w2.setCell ⟨ab, 1, none⟩ (.slice ao (s.outs 16).length cap)) ab (anC av (.slice ao (s.outs 16).length cap)) 84 := ha2.set 1 _
  clear hp hl hg ha1 ha2 hal hb hs1
  go_wp2_with fail
  go_end0
  exact ⟨rfl, ao, cap, w1.heap.size, ⟨hsz.out, hsz2.out⟩, ha3, hp2, hl2, (g1.mono fun k hk => Or.inl hk).trans gs fun k hk => Or.inl (Or.inr hk)⟩
theorem sent1_good {w : World} (h : Lp w F lb v rs id s) : Pk.Good ⟨0, s.came, []⟩ := ⟨Nat.zero_le _, (by have := h.ok.bc; show s.came ≤ _; omega), (fun z hz => by cases hz), Nat.zero_le _, fun _ => rfl⟩
set_option maxHeartbeats 1600000 in
set_option maxRecDepth 20000 in
/-- Nothing to add. -/
theorem confirm_no (pid ack : Int) (rv av : Value) (n : Nat) (l : Nat) (uo : Option Addr) (uc : Nat) (v0 : Value) (ab : Nat) (ha : Cw w ab (anC av (.slice uo l uc)) 84) (hc : n = 0 ∨ (0 < n ∧ 0 < l)) :
    Calls Tryd.prog 41 #[v0, .agg (pkC pid n ack rv).toArray, .pointer (some ⟨ab, 0, none⟩)] w fun e w' => e = .returned (.tuple #[]) ∧ Below w.heap.size w w' := by
  have HA := hid_into ha
  clear ha
  rcases hc with rfl | ⟨h1, h2⟩
  · go_enter Tryd.func41, Tryd.ntmps41
    go_wp2_with (refine wpList_box_row rfl 80 (.tmp 1) rfl (pkC pid 0 ack rv) (by rfl) ?_; intro w1 bx hb hs1; have b1 : w1.cell? ⟨w.heap.size, 1, none⟩ = some (.int .i64 0) := bx.cell 1)
    go_end0
    exact ⟨rfl, hb⟩
  · have h1' : (0 : Int) < (n : Int) := by omega
    have h2' : ¬ (l : Int) = 0 := by omega
    have h3' : ¬ l = 0 := by omega
    go_enter Tryd.func41, Tryd.ntmps41
    go_wp2_with (refine wpList_box_row rfl 80 (.tmp 1) rfl (pkC pid n ack rv) (by rfl) ?_; intro w1 bx hb hs1; have b1 : w1.cell? ⟨w.heap.size, 1, none⟩ = some (.int .i64 n) := bx.cell 1; have q1 : w1.cell? ⟨ab, 1, none⟩ = some (.slice uo l uc) := (HA.out.below hb HA.out.lt).cell 1)
    go_end0
    exact ⟨rfl, hb⟩
set_option maxHeartbeats 3200000 in
set_option maxRecDepth 20000 in
/-- Nothing goes out: the ack alone. -/
theorem confirm_yes (h : Lp w F lb v rs id s) (ht : Tab w) (h0 : ¬ F 0) (hs : s.sent < 100000000000000) (pid ack : Int) (rv av : Value) (n : Nat) (hn : 0 < n) (ab B : Nat) (hBw : B ≤ w.heap.size) (hBa : ab < B) (hBF : ∀ k, F k → k < B) (uo : Option Addr) (uc : Nat) (ha : Cw w ab (anC av (.slice uo 0 uc)) 84) (hab : ¬ F ab) (hu : Osl w B (.slice uo 0 uc) []) :
    Calls Tryd.prog 41 #[.pointer (some ⟨lb, 0, none⟩), .agg (pkC pid n ack rv).toArray, .pointer (some ⟨ab, 0, none⟩)] w fun e w' => e = .returned (.tuple #[]) ∧
      ∃ ao cap, Cw w' ab (anC av (.slice ao 1 cap)) 84 ∧ Po w' B id [⟨0, s.came, []⟩] (.slice ao 1 cap) ∧ Lp w' F lb v rs id s.sent1 ∧ Gr (fun k => k = lb ∨ k = ab ∨ B ≤ k) w w' := by
  have hn' : (0 : Int) < (n : Int) := by omega
  have hlab : lb ≠ ab := fun e => hab (by rw [← e]; exact h.fl)
  have hlB : lb < B := hBF lb h.fl
  have hgd := sent1_good h
  have hgy := encP_byt id h.i _ hgd
  have hgl := encP_len id _ hgd
  have CP : Hid (∀ W, Below w.heap.size w W → Calls Tryd.prog 50 #[.pointer (some ⟨lb, 0, none⟩), .int .i64 0, .slice none 0 0] W fun e w2 => ∃ ar cr ao cap w3, e = .returned (.slice ar (encP id ⟨0, s.came, []⟩).length cr) ∧ w2.cell? ⟨ab, 1, none⟩ = some (.slice uo 0 uc) ∧ ab < w2.heap.size ∧
      Hid (∀ ty, (Builtin.append_ #[33, 33] ty #[.slice uo 0 uc, .slice (some ⟨w2.heap.size, 0, none⟩) 1 1]).run Tryd.prog (w2.alloc (.cells #[.slice ar (encP id ⟨0, s.came, []⟩).length cr] 29)) = .ok (.slice ao 1 cap) w3) ∧
      w3.cell? ⟨ab, 1, none⟩ = some (.slice uo 0 uc) ∧ w3.frozen? ⟨ab, 1, none⟩ = false ∧
      Hid (Cw (w3.setCell ⟨ab, 1, none⟩ (.slice ao 1 cap)) ab (anC av (.slice ao 1 cap)) 84 ∧ Po (w3.setCell ⟨ab, 1, none⟩ (.slice ao 1 cap)) B id [⟨0, s.came, []⟩] (.slice ao 1 cap) ∧ Lp (w3.setCell ⟨ab, 1, none⟩ (.slice ao 1 cap)) F lb v rs id s.sent1 ∧ Gr (fun k => k = lb ∨ k = ab ∨ B ≤ k) w (w3.setCell ⟨ab, 1, none⟩ (.slice ao 1 cap)))) := by
    intro W hW
    refine (pack_any (h.below hW) hs (ht.below hW ht.lt) h0 0 (.slice none 0 0) [] (Bs_nil _) (fun k hk => by cases hk) hgd).mono ?_
    rintro e w2 ⟨ar, cr, rfl, ho, hl, hg⟩
    have gw : Gr (fun k => k = lb) w w2 := (Gr.of_below hW (fun k => k = lb) fun k hk hb' => by omega).trans hg fun k hk => Or.inl hk
    have ha2 : Cw w2 ab (anC av (.slice uo 0 uc)) 84 := gw.cw ha fun e => hlab e.symm
    have hu2 : Osl w2 B (.slice uo 0 uc) [] := hu.gr gw fun k hk e => by omega
    obtain ⟨ao, cap, w3, hrun, hosl, hgr, hfr⟩ := osl_new (w := w2) (base := B) hu2 ar cr (encP id ⟨0, s.came, []⟩) (ho.mono (by have := hW.size; omega)) hgy (by omega) (fun k hk e => by
        have k1 := (World.ownsRow.lt ho k hk).1
        have k2 : k < w.heap.size := by
          rcases hu.row.2 with ⟨h1, _⟩ | ⟨g, cc, cur, h1, _, h2, _⟩
          · rw [h1] at e; cases e
          · rw [h1] at e
            have : g = k := Option.some.inj e
            rw [← this]
            exact (Array.getElem?_eq_some_iff.1 h2).1
        have := hW.size
        omega) (by simp) (by have := gw.size; omega)
    have hgB : Gr (fun k => B ≤ k) w2 w3 := hgr.mono fun k hk => hu.from k hk
    have ha3 : Cw w3 ab (anC av (.slice uo 0 uc)) 84 := hgB.cw ha2 (by omega)
    have hl3 := hl.gr hgB fun k hk e => by have := hBF k hk; omega
    have gs : Gr (fun k => k = ab) w3 (w3.setCell ⟨ab, 1, none⟩ (.slice ao 1 cap)) := Gr.setCell _ _ _ rfl
    refine ⟨ar, cr, ao, cap, w3, rfl, ha2.cell 1, ha2.lt, hrun, ha3.cell 1, ha3.frozen 1, ha3.set 1 _, ⟨_, hosl.gr gs fun k hk e => by omega, rfl⟩, hl3.gr gs fun k hk e => hab (by rw [← e]; exact hk), ?_⟩
    exact (((gw.mono fun k hk => Or.inl hk).trans hgB fun k hk => Or.inl (Or.inr (Or.inr hk)))).trans gs fun k hk => Or.inl (Or.inr (Or.inl hk))
  have HA := hid_into ha
  have hal := ha.lt
  clear h ha ht hab hlab hlB hgd hgy hgl hu hBF hn
  go_enter Tryd.func41, Tryd.ntmps41
  go_wp2_with (refine wpList_box_row rfl 80 (.tmp 1) rfl (pkC pid n ack rv) (by rfl) ?_; intro w1 bx hb hs1; have b1 : w1.cell? ⟨w.heap.size, 1, none⟩ = some (.int .i64 n) := bx.cell 1; have q1 : w1.cell? ⟨ab, 1, none⟩ = some (.slice uo 0 uc) := (HA.out.below hb HA.out.lt).cell 1)
  have C1 := hid_into (CP.out w1.drew hb.drew)
  have l1 : ab < w1.heap.size := by have := hb.size; omega
  clear CP HA bx hb hs1 b1
  generalize encP id ⟨0, s.came, []⟩ = ep at *
  go_region_law (first
    | (refine step_made_row rfl (.tmp 23) rfl ar _ cr (by rfl) ?_)
    | (refine step_append_eq rfl 33 (.tmp 21) (.tmp 24) rfl _ _ _ (by rfl) (by rfl) HR.out ?_)
    | (go_simp; go_wp2_with (go_at_call 50; refine C1.out.mono ?_; rintro e w2 ⟨ar, cr, ao3, cap3, w3, rfl, k2, l2, HR, k3, f3, HF⟩)))
  all_goals
    (go_wp2_with fail
     go_end0
     exact ⟨rfl, ao3, cap3, HF.out⟩)
end
end Go.Proofs.YtahodgmdikaedaaDoor
end
