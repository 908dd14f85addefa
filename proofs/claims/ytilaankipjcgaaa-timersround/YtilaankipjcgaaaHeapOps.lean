/-
  container/heap's Push, Fix and Remove over timers' queue, by contracts.
-/
import Derived.Test.YtilaankipjcgaaaUpDn
import Derived.Test.YtilaankipjcgaaaPopPush
namespace Go.Proofs.Ytilaankipjcgaaa
open Go.RowKit
variable {w w' : World} {v m : Value} {q : List Th} {sb : Nat}
/-- A heap. -/
def Hp (q : List Th) : Prop := Heap (fn q) q.length
theorem Went.trans {n : Nat} {q1 q2 : List Th} {w1 w2 : World} (h : Went w sb m v q n w1 q1) (k : Went w1 sb m v q1 n w2 q2) : Went w sb m v q n w2 q2 :=
  ⟨k.tq, k.perm.trans h.perm, fun i hi => (k.rest i hi).trans (h.rest i hi), h.grows.trans k.grows fun _ hk => Or.inl (own_perm h.perm hk)⟩
theorem fn_app {q : List Th} (r : List Th) {k : Nat} (hk : k < q.length) : fn (q ++ r) k = fn q k := by
  simp only [fn, List.getD, List.getElem?_append_left hk]
theorem fn_of {q q' : List Th} {k : Nat} (h : q'[k]? = q[k]?) : fn q' k = fn q k := by simp only [fn, List.getD, h]
set_option maxHeartbeats 1000000 in
theorem hpush_any (h : Tq w sb m v q) (hh : Hp q) (b : Nat) (id due pl : Int) (hb : Cw w b [.int .i64 id, .int .i64 due, .int .i64 pl] 52) (hbn : ¬ own v q b) (hlen : q.length < 4096) :
    Calls Try.prog 26 #[hI sb, .iface 50 (.pointer (some ⟨b, 0, none⟩))] w fun e w' => e = .returned (.tuple #[]) ∧ ∃ v' q', Tq w' sb m v' q' ∧ q'.Perm (q ++ [⟨b, id, due⟩]) ∧ Hp q' ∧
      (v'.ownBlock = v.ownBlock ∨ ∀ k, v'.ownBlock = some k → w.heap.size ≤ k) ∧ Grows (fun k => k = sb ∨ own v q k ∨ k = b) w w' := by
  have hmp := m_push w ⟨sb, 1, none⟩
  have hU : Up (fn (q ++ [⟨b, id, due⟩])) (q.length + 1) q.length := (Heap.congr hh fun k hk => fn_app _ hk).up
  replace hU := hid_into hU
  have e1 : ((q.length + 1 : Nat) : Int) - 1 = (q.length : Int) := by omega
  go_enter Try.func26, Try.ntmps26
  go_wp2_with (first
    | (go_at_call 51; refine (push_any h b id due pl hb hbn hlen).mono ?_; rintro e w1 ⟨rfl, v1, h1, hv1, hg1⟩; have hm1 := m_len h1.cell)
    | (go_at_call 44; refine (len_any h1.qu).mono ?_; rintro e w2 ⟨rfl, rfl⟩; rw [show (q ++ [(⟨b, id, due⟩ : Th)]).length = q.length + 1 from by simp])
    | (go_at_call 25; refine (up_any h1 (q.length + 1) q.length hU.out (by omega) (by simp)).mono ?_; rintro e w2 ⟨rfl, q2, hW, hH⟩))
  go_end0
  refine ⟨rfl, v1, q2, hW.tq, hW.perm, ?_, hv1, hg1.trans hW.grows fun k hk => ?_⟩
  · unfold Hp
    rw [hW.len]
    simpa using hH
  · rcases hk with hk | ⟨t, ht, rfl⟩
    · rcases hv1 with e | e
      · exact Or.inl (Or.inr (Or.inl (Or.inl (by rw [← e]; exact hk))))
      · exact Or.inr (e k hk)
    · rcases List.mem_append.1 ht with ht | ht
      · exact Or.inl (Or.inr (Or.inl (Or.inr ⟨t, ht, rfl⟩)))
      · simp at ht
        subst ht
        exact Or.inl (Or.inr (Or.inr rfl))
set_option maxHeartbeats 1000000 in
theorem fix_any (h : Tq w sb m v q) (i : Nat) (hi : i < q.length) (hD : Dn (fn q) q.length i i) :
    Calls Try.prog 20 #[hI sb, .int .i64 (i : Int)] w fun e w' => e = .returned (.tuple #[]) ∧ ∃ q', Went w sb m v q q.length w' q' ∧ Hp q' := by
  have hm1 := m_len h.cell
  go_enter Try.func20, Try.ntmps20
  go_wp2_with (first
    | (go_at_call 44; refine (len_any h.qu).mono ?_; rintro e w2 ⟨rfl, rfl⟩)
    | (go_at_call 24; refine (down_any h q.length i hD hi (Nat.le_refl _)).mono ?_; rintro e w2 ⟨q2, i2, rfl, hle, hW, hH, hUp⟩)
    | (go_at_call 25; refine (up_any hW.tq q.length i (hUp (by have h9 := ‹(!decide (i < i2)) = true›; simp at h9; omega)) hi (by rw [hW.len]; exact Nat.le_refl _)).mono ?_; rintro e w3 ⟨rfl, q3, hW3, hH3⟩))
  · go_end0
    have hW4 := hW.trans hW3
    refine ⟨rfl, q3, hW4, ?_⟩
    unfold Hp
    rw [hW4.len]
    exact hH3
  · go_end0
    have h9 := ‹(!decide (i < i2)) = false›
    simp at h9
    refine ⟨rfl, q2, hW, ?_⟩
    unfold Hp
    rw [hW.len]
    exact hH h9
/-- A row whose last is told. -/
theorem take_last {q : List Th} {n : Nat} {t : Th} (hl : q.length = n + 1) (ht : q[n]? = some t) : q = q.take n ++ [t] := by
  have h1 := List.take_append_drop n q
  have h2 : q.drop n = [t] := by
    have h3 := List.getElem?_eq_some_iff.1 ht
    rw [List.drop_eq_getElem_cons h3.1, h3.2, List.drop_of_length_le (by omega)]
  rw [h2] at h1
  exact h1.symm
/-- What Remove leaves. -/
structure Rmvd (w : World) (sb : Nat) (m v : Value) (q : List Th) (t : Th) (w' : World) (v' : Value) (q' : List Th) : Prop where
  tq : Tq w' sb m v' q'
  perm : (t :: q').Perm q
  hp : Hp q'
  blk : v'.ownBlock = v.ownBlock
  grows : Grows (fun k => k = sb ∨ own v q k) w w'
  old : ∃ pl, Cw w' t.b [.int .i64 t.id, .int .i64 t.due, .int .i64 pl] 52
theorem last_of {n i : Nat} {t : Th} {q qx : List Th} {w1 wx : World} (hn : q.length = n + 1) (hi : i < q.length) (ht : q[i]? = some t) (hW : Went w1 sb m v (swp q i n) n wx qx) : qx = qx.take n ++ [t] := by
  refine take_last (by rw [hW.len, swp_len, hn]) ?_
  rw [hW.rest n (Nat.le_refl _), swp_get hi (by omega), if_pos rfl, ht]
theorem rmvd_of {n i : Nat} {t : Th} {q qx : List Th} {w1 wx w2 : World} {v2 : Value} (hn : q.length = n + 1) (hi : i < q.length) (ht : q[i]? = some t) (hg1 : Grows (own v q) w w1) (hW : Went w1 sb m v (swp q i n) n wx qx) (hH : Heap (fn qx) n)
    (h2 : Tq w2 sb m v2 (qx.take n)) (hb2 : v2.ownBlock = v.ownBlock) (hg2 : Grows (fun k => k = sb ∨ own v qx k) wx w2) (ho2 : Cw w2 t.b (thv t (qx.take n).length) 52) : Rmvd w sb m v q t w2 v2 (qx.take n) := by
  have hP := hW.perm.trans (swp_perm hi (by omega))
  have hq := last_of hn hi ht hW
  refine ⟨h2, ?_, ?_, hb2, ?_, ⟨_, ho2⟩⟩
  · exact ((List.perm_append_singleton t (qx.take n)).symm.trans (List.Perm.of_eq hq.symm)).trans hP
  · unfold Hp
    have hlt : (qx.take n).length = n := by simp [hW.len, swp_len]; omega
    rw [hlt]
    refine hH.congr fun k hk => fn_of ?_
    rw [List.getElem?_take, if_pos hk]
  · refine ((hg1.mono (G := fun k => k = sb ∨ own v q k) fun k hk => Or.inr hk).trans hW.grows fun k hk => Or.inl (Or.inr (own_perm (swp_perm hi (by omega)) hk))).trans hg2 fun k hk => Or.inl ?_
    rcases hk with rfl | hk
    · exact Or.inl rfl
    · exact Or.inr (own_perm hP hk)
set_option maxHeartbeats 2000000 in
theorem remove_any (h : Tq w sb m v q) (hh : Hp q) (i : Nat) (t : Th) (ht : q[i]? = some t) :
    Calls Try.prog 27 #[hI sb, .int .i64 (i : Int)] w fun e w' => e = .returned (.iface 50 (.pointer (some ⟨t.b, 0, none⟩))) ∧ ∃ v' q', Rmvd w sb m v q t w' v' q' := by
  have hi := (List.getElem?_eq_some_iff.1 ht).1
  have hl := h.qu.len
  obtain ⟨n, hn⟩ : ∃ n, q.length = n + 1 := ⟨q.length - 1, by omega⟩
  have hm1 := m_len h.cell
  have e1 : ((q.length : Int) - 1) = (n : Int) := by omega
  by_cases e : n = i
  · subst e
    have hq := take_last hn ht
    have HQ := hid_into hq
    clear hq
    have hmp := m_pop w ⟨sb, 1, none⟩
    go_enter Try.func27, Try.ntmps27
    go_wp2_with (first
      | (go_at_call 44; refine (len_any h.qu).mono ?_; rintro e w2 ⟨rfl, rfl⟩)
      | (go_at_call 50; refine (pop_any h HQ.out).mono ?_; rintro e w2 ⟨rfl, v2, h2, hb2, hg2, ho2⟩))
    go_ret
    refine ⟨rfl, v2, q.take n, h2, ?_, ?_, hb2, hg2, ⟨_, ho2⟩⟩
    · have := HQ.out
      exact (List.perm_append_singleton t (q.take n)).symm.trans (List.Perm.of_eq this.symm)
    · unfold Hp
      have hlt : (q.take n).length = n := by simp; omega
      rw [hlt]
      refine (Heap.less hh (by omega)).congr fun k hk => fn_of ?_
      rw [List.getElem?_take, if_pos hk]
  · have hin : i < n := by omega
    have hD : Dn (fn (swp q i n)) n i i := by
      rw [fn_funext hi (by omega)]
      exact (Heap.less hh (m := n) (by omega)).dn (fun k hk hki => sw_o _ hki (by omega)) hin
    have HD := hid_into hD
    clear hD
    have hne : ((n : Int) != (i : Int)) = true := by simp; omega
    have hms := m_swap h.cell
    go_enter Try.func27, Try.ntmps27
    go_wp2_with (first
      | (go_at_call 44; refine (len_any h.qu).mono ?_; rintro e w2 ⟨rfl, rfl⟩)
      | (go_at_call 46; refine (swap_any h.qu i n hi (by omega) (by omega)).mono ?_; rintro e w1 ⟨rfl, hq1, hg1⟩; have h1 := h.grows hg1 hq1)
      | (go_at_call 24; refine (down_any h1 n i HD.out hin (by rw [swp_len]; omega)).mono ?_; rintro e w2 ⟨q2, i2, rfl, hle, hW, hH, hUp⟩; have hmp := m_pop w2 ⟨sb, 1, none⟩)
      | (go_at_call 25; refine (up_any hW.tq n i (hUp (by have h9 := ‹(!decide (i < i2)) = true›; simp at h9; omega)) hin (by rw [hW.len, swp_len]; omega)).mono ?_; rintro e w3 ⟨rfl, q3, hW3, hH3⟩; have hmp3 := m_pop w3 ⟨sb, 1, none⟩)
      | fail)
    · have hW4 := hW.trans hW3
      go_wp2_with (go_at_call 50; refine (pop_any hW4.tq (last_of hn hi ht hW4)).mono ?_; rintro e w4 ⟨rfl, v4, h4, hb4, hg4, ho4⟩)
      go_ret
      exact ⟨rfl, v4, _, rmvd_of hn hi ht hg1 hW4 hH3 h4 hb4 hg4 ho4⟩
    · have h9 := ‹(!decide (i < i2)) = false›
      simp at h9
      go_wp2_with (go_at_call 50; refine (pop_any hW.tq (last_of hn hi ht hW)).mono ?_; rintro e w4 ⟨rfl, v4, h4, hb4, hg4, ho4⟩)
      go_ret
      exact ⟨rfl, v4, _, rmvd_of hn hi ht hg1 hW (hH h9) h4 hb4 hg4 ho4⟩
end Go.Proofs.Ytilaankipjcgaaa
