/-
  timers' New, Len, Set, by contracts.
-/
import Derived.Test.YtilaankipjcgaaaTakeAdd
namespace Go.Proofs.Ytilaankipjcgaaa
open Go.RowKit Go.Maps
variable {w w' : World} {F : Nat → Prop} {sb : Nat} {mb : Option Nat} {v : Value} {q : List Th} {s : List Pr}
/-- timers at block sb that mean s. -/
def Tm (w : World) (F : Nat → Prop) (sb : Nat) (s : List Pr) : Prop := ∃ mb v q, Tx w F sb mb v q s
def Pl (F : Nat → Prop) (n k : Nat) : Prop := F k ∨ n ≤ k
theorem Tm.keep (h : Tm w F sb s) (hk : ∀ k, F k → k < w.heap.size → w'.heap[k]? = w.heap[k]?) : Tm w' F sb s := by
  obtain ⟨mb, v, q, h⟩ := h
  exact ⟨mb, v, q, h.keep hk⟩
theorem Tm.more {G : Nat → Prop} (h : Tm w F sb s) (hg : ∀ k, F k → k < w.heap.size → G k) : Tm w G sb s := by
  obtain ⟨mb, v, q, h⟩ := h
  exact ⟨mb, v, q, h.more hg⟩
theorem Tm.srt (h : Tm w F sb s) : Srt s := by obtain ⟨mb, v, q, h⟩ := h; exact h.srt
theorem Tm.dis (h : Tm w F sb s) : Dis s := by obtain ⟨mb, v, q, h⟩ := h; exact h.dis
theorem Tm.rng (h : Tm w F sb s) : ∀ p ∈ s, In64 p.1 ∧ In64 p.2 := by obtain ⟨mb, v, q, h⟩ := h; exact h.rng
theorem Tm.lt (h : Tm w F sb s) : sb < w.heap.size := by obtain ⟨mb, v, q, h⟩ := h; exact h.tq.st.lt
theorem Tm.len (h : Tm w F sb s) : s.length ≤ 4096 := by obtain ⟨mb, v, q, h⟩ := h; rw [← h.len]; exact h.tq.qu.len
set_option maxHeartbeats 400000 in
theorem new_any (w : World) : Calls Try.prog 8 #[] w fun e w' => e = .returned (.pointer (some ⟨w.heap.size, 0, none⟩)) ∧ Tm w' (fun k => w.heap.size ≤ k) w.heap.size [] ∧ Below w.heap.size w w' := by
  go_enter Try.func8, Try.ntmps8
  go_wp2_with fail
  go_ret
  refine ⟨rfl, ⟨none, .slice none 0 0, [], ⟨Cw.new w [_, _] 49, World.ownsRow_nil _ _ _ _, by intro k t h; simp at h, List.Pairwise.nil, by simp⟩, ?_, fun _ => rfl, (fun b hb => by cases hb), List.Perm.refl _, List.Pairwise.nil, List.Pairwise.nil, (fun p hp => by cases hp), Nat.le_refl _, (fun b hb => by cases hb), ?_⟩, (Below.refl _ _).alloc (Nat.le_refl _) _⟩
  · intro k k1 kn; simp at kn
  · intro k hk
    rcases hk with hk | ⟨t, ht, _⟩
    · cases hk
    · cases ht
set_option maxHeartbeats 400000 in
theorem tlen_any (h : Tm w F sb s) : Calls Try.prog 18 #[.pointer (some ⟨sb, 0, none⟩)] w fun e w' => e = .returned (.int .i64 (s.length : Int)) ∧ w' = w := by
  obtain ⟨mb, v, q, h⟩ := h
  have c1 := h.tq.cell
  obtain ⟨ao, cap, rfl⟩ := h.tq.qu.slot
  have HL := hid_into h.len
  go_enter Try.func18, Try.ntmps18
  go_wp2_with fail
  go_ret
  exact ⟨by rw [← HL.out]; rfl, rfl⟩
theorem tlen_nil (w : World) : Calls Try.prog 18 #[.pointer none] w fun e w' => e = .returned (.int .i64 0) ∧ w' = w := by
  go_enter Try.func18, Try.ntmps18
  go_wp2_with fail
  go_ret
  exact ⟨rfl, rfl⟩
/-- May a thing be set? -/
def canS (s : List Pr) (id : Int) : Bool := (get s id).isSome || decide (s.length < 4096)
def setS (s : List Pr) (id due : Int) : List Pr := if canS s id then put s id due else s
theorem set_perm_cons {α : Type} (x : α) : ∀ {l : List α} {i : Nat}, i < l.length → (l.set i x).Perm (x :: l.eraseIdx i)
  | [], i, h => by simp at h
  | y :: r, 0, _ => by simp
  | y :: r, i + 1, h => by
    simp only [List.set_cons_succ, List.eraseIdx_cons_succ]
    exact ((set_perm_cons x (by simpa using h)).cons y).trans (List.Perm.swap _ _ _)
theorem get_perm_cons {α : Type} {x : α} : ∀ {l : List α} {i : Nat}, l[i]? = some x → l.Perm (x :: l.eraseIdx i)
  | [], i, h => by simp at h
  | y :: r, 0, h => by simp at h; subst h; simp
  | y :: r, i + 1, h => by
    simp only [List.eraseIdx_cons_succ]
    exact ((get_perm_cons (by simpa using h)).cons y).trans (List.Perm.swap _ _ _)
/-- A thing gets another time. -/
theorem Tq.timed {m : Value} (h : Tq w sb m v q) {i : Nat} {t : Th} (ht : q[i]? = some t) (due : Int) : Tq (w.setCell ⟨t.b, 1, none⟩ (.int .i64 due)) sb m v (q.set i ⟨t.b, t.id, due⟩) := by
  have hi := (List.getElem?_eq_some_iff.1 ht).1
  have hgt : (q.getD i d0) = t := by simp [List.getD, ht]
  have hmapb : (q.set i ⟨t.b, t.id, due⟩).map (fun t => t.b) = q.map fun t => t.b := by
    rw [List.map_set]
    apply List.ext_getElem?
    intro k
    rw [List.getElem?_set]
    by_cases e : i = k
    · subst e; simp [hi, (List.getElem?_eq_some_iff.1 ht).2]
    · simp [e]
  have hne : t.b ≠ sb := fun e => h.ne (Or.inr ⟨t, List.mem_of_getElem? ht, e⟩)
  refine ⟨h.st.keep (Below.heap_setCell _ _ _ _ (Ne.symm hne)), ?_, ?_, ?_, by simpa using h.qu.len⟩
  · have e : (q.set i ⟨t.b, t.id, due⟩).map (fun t => ptrV t.b) = q.map fun t => ptrV t.b := by
      have := congrArg (List.map ptrV) hmapb
      simpa [List.map_map, Function.comp_def] using this
    rw [e, List.length_set]
    refine ownsRow_setCell_other h.qu.row (a := ⟨t.b, 1, none⟩) (fun e2 => ?_) _
    exact h.qu.row_ne e2 ht rfl
  · intro k x hx
    rw [List.getElem?_set] at hx
    by_cases e : i = k
    · subst e
      simp [hi] at hx
      subst hx
      exact (h.qu.th i t ht).set 1 _
    · simp [e] at hx
      exact (h.qu.th k x hx).keep (Below.heap_setCell _ _ _ _ (h.qu.apart hx ht (Ne.symm e)))
  · have := h.qu.dis
    have h1 : (q.map fun t => t.b).Pairwise fun a b => a ≠ b := List.pairwise_map.2 this
    rw [← hmapb] at h1
    exact List.pairwise_map.1 h1
theorem Tx.reset (h : Tx w F sb mb v q s) {i : Nat} {t : Th} (ht : q[i]? = some t) {due : Int} (hd : In64 due) {w1 w2 : World} {q2 : List Th} (hg : Grows F w w1) (hkb0 : ∀ b, mb = some b → w1.heap[b]? = w.heap[b]?)
    (hW : Went w1 sb (.map mb) v (q.set i ⟨t.b, t.id, due⟩) q.length w2 q2) (hh : Hp q2) : Tx w2 F sb mb v q2 (put s t.id due) ∧ Grows F w w2 := by
  have hi := (List.getElem?_eq_some_iff.1 ht).1
  have hown : ∀ k, own v (q.set i ⟨t.b, t.id, due⟩) k → own v q k := by
    intro k hk
    rcases hk with hk | ⟨x, hx, rfl⟩
    · exact Or.inl hk
    · rcases List.mem_or_eq_of_mem_set hx with h1 | h1
      · exact Or.inr ⟨x, h1, rfl⟩
      · subst h1; exact Or.inr ⟨t, List.mem_of_getElem? ht, rfl⟩
  have hkb : (q.set i ⟨t.b, t.id, due⟩).map Th.kb = q.map Th.kb := by
    rw [List.map_set]
    apply List.ext_getElem?
    intro k
    rw [List.getElem?_set]
    by_cases e : i = k
    · subst e; simp [hi, (List.getElem?_eq_some_iff.1 ht).2, Th.kb]
    · simp [e]
  have hG : Grows F w w2 := hg.trans hW.grows fun k hk => Or.inl (h.fq k (hown k hk))
  have hmem : t.pr ∈ s := h.perm.mem_iff.1 (List.mem_map_of_mem (List.mem_of_getElem? ht))
  refine ⟨⟨hW.tq, hh, fun e => ?_, fun b hb => ?_, ?_, put_srt h.srt _ _, put_dis h.dis _ _, ?_, h.fs, h.fm, ?_⟩, hG⟩
  · rw [h.nn e] at ht; simp at ht
  · obtain ⟨ms, h1, h2⟩ := h.map b hb
    have hlen : q2.length = q.length := by rw [hW.len, List.length_set]
    have hm1 : w1.ownsMap Try.prog 3 Rv b q.length (Dm ms) := ownsMap_keep h1 (hkb0 b hb)
    refine ⟨ms, ?_, h2.trans ?_⟩
    · rw [hlen]
      exact ownsMap_keep hm1 (hW.grows.block b hm1.lt fun e => mb_ne_own h hb (hown b e))
    · rw [← hkb]
      exact (hW.perm.map Th.kb).symm
  · have hE : ((q.set i ⟨t.b, t.id, due⟩).map Th.pr).Perm ((t.id, due) :: (q.map Th.pr).eraseIdx i) := by
      rw [List.map_set]
      exact set_perm_cons _ (by simpa using hi)
    have hE2 : (q.map Th.pr).Perm (t.pr :: (q.map Th.pr).eraseIdx i) := get_perm_cons (by simp [ht])
    have h1 := rm_perm (h.perm.symm.trans hE2) t.id
    have hd2 := dis_perm h.dis (h.perm.symm.trans hE2)
    rw [show rm (t.pr :: (q.map Th.pr).eraseIdx i) t.id = (q.map Th.pr).eraseIdx i from rm_cons_eq (p := t.pr) fun x hx => Ne.symm ((List.pairwise_cons.1 hd2).1 x hx)] at h1
    exact ((hW.perm.map Th.pr).trans hE).trans (((h1.symm.cons (t.id, due))).trans (put_perm s t.id due).symm)
  · intro p hp2
    rcases List.mem_cons.1 ((put_perm s t.id due).mem_iff.1 hp2) with rfl | h1
    · exact ⟨(h.rng _ hmem).1, hd⟩
    · exact h.rng p (rm_mem.1 h1).1
  · intro k hk
    exact h.fq k (hown k (own_perm hW.perm hk))
theorem canS_some {s : List Pr} {id d : Int} (h : get s id = some d) : canS s id = true := by simp [canS, h]
theorem setS_some {s : List Pr} {id d due : Int} (h : get s id = some d) : setS s id due = put s id due := by simp [setS, canS_some h]
set_option maxRecDepth 20000 in
set_option maxHeartbeats 1600000 in
theorem set_any (h : Tm w F sb s) (id due : Int) (hid : In64 id) (hdu : In64 due) :
    Calls Try.prog 9 #[.pointer (some ⟨sb, 0, none⟩), .int .i64 id, .int .i64 due] w fun e w' => e = .returned (.bool (canS s id)) ∧ Tm w' (Pl F w.heap.size) sb (setS s id due) ∧ Grows F w w' := by
  obtain ⟨mb, v, q, h⟩ := h
  obtain ⟨ms, hms, hlk⟩ := look_no h hid
  have c0 : w.cell? ⟨sb, 0, none⟩ = some (.map mb) := by rw [h.tq.st.cell]; rfl
  have c1 := h.tq.cell
  have hlen := h.len
  have hl4 := h.tq.qu.len
  rcases h.find id hms with ⟨hgn, hl⟩ | ⟨i, t, hi, rfl, hgs, hl⟩
  · rw [hl] at hlk
    simp only [ptrO] at hlk
    obtain ⟨ao, cap, hv⟩ := h.tq.qu.slot
    rw [hv] at c1
    by_cases hf : q.length < 4096
    · have hcan : canS s id = true := by simp only [canS, hgn, Option.isSome_none, Bool.false_or, decide_eq_true_eq]; omega
      have hset : setS s id due = put s id due := by simp [setS, hcan]
      rw [hcan, hset]
      have hA : Tx (w.alloc (.cells #[.int .i64 id, .int .i64 due, .int .i64 0] 52)) (Pl F w.heap.size) sb mb v q s := (h.keep fun k _ hk => Below.heap_alloc _ _ _ hk).more fun k hk _ => Or.inl hk
      have HA := hid_into hA
      have HB : Hid (Cw (w.alloc (.cells #[.int .i64 id, .int .i64 due, .int .i64 0] 52)) w.heap.size [.int .i64 id, .int .i64 due, .int .i64 0] 52) := Cw.new w [_, _, _] 52
      have HN : Hid (¬ own v q w.heap.size) := fun e => Nat.lt_irrefl _ (h.tq.qu.lt e)
      have HS := hid_into h.fs
      clear hA hcan hset hlen hms
      go_enter Try.func9, Try.ntmps9
      go_wp2_with (go_at_call 21; refine (add_any HA.out w.heap.size id due 0 hid hdu HB.out HN.out (Or.inr (Nat.le_refl _)) hgn hf).mono ?_; rintro e w2 ⟨rfl, mb2, v2, q2, h2, hg2⟩)
      go_ret
      refine ⟨rfl, ⟨mb2, v2, q2, h2.more fun k hk _ => ?_⟩, ?_⟩
      · rcases hk with hk | hk
        · exact hk
        · simp at hk; exact Or.inr (by omega)
      · exact (Grows.alloc F w _).trans hg2 fun k hk => hk
    · have hcan : canS s id = false := by simp only [canS, hgn, Option.isSome_none, Bool.false_or, decide_eq_false_iff_not]; omega
      have hset : setS s id due = s := by simp [setS, hcan]
      rw [hcan, hset]
      have hl5 : q.length = 4096 := by omega
      have HA := hid_into h
      have HL5 := hid_into hl5
      clear hcan hset hlen hms hf h hl4
      rw [hl5] at c1
      clear hl5
      go_enter Try.func9, Try.ntmps9
      go_wp2_with fail
      go_ret
      exact ⟨rfl, ⟨mb, v, q, HA.out.more fun k hk _ => Or.inl hk⟩, Grows.refl _ _⟩
  · rw [hl] at hlk
    simp only [ptrO, ptrV] at hlk
    rw [canS_some hgs, setS_some hgs]
    have hilt := (List.getElem?_eq_some_iff.1 hi).1
    have hth := h.tq.qu.th i t hi
    have t1 : w.cell? ⟨t.b, 1, none⟩ = some (.int .i64 t.due) := by rw [hth.cell]; rfl
    have f1 := hth.frozen 1
    have hc2 : Cw (w.setCell ⟨t.b, 1, none⟩ (.int .i64 due)) t.b _ 52 := hth.set 1 (.int .i64 due)
    have t2 : (w.setCell ⟨t.b, 1, none⟩ (.int .i64 due)).cell? ⟨t.b, 2, none⟩ = some (.int .i64 (i : Int)) := by rw [hc2.cell]; rfl
    have hT := h.tq.timed hi due
    have hTd : Tq (w.setCell ⟨t.b, 1, none⟩ (.int .i64 due)).drew sb (.map mb) v (q.set i ⟨t.b, t.id, due⟩) := ⟨hT.st.keep rfl, hT.qu.keep fun _ _ => rfl⟩
    have hD : Dn (fn (q.set i ⟨t.b, t.id, due⟩)) q.length i i := h.hp.dn (fun k hk hki => fn_of (by rw [List.getElem?_set, if_neg (Ne.symm hki)])) hilt
    have hlq : (q.set i (⟨t.b, t.id, due⟩ : Th)).length = q.length := by simp
    rw [← hlq] at hD
    have hil2 : i < (q.set i (⟨t.b, t.id, due⟩ : Th)).length := by rw [hlq]; exact hilt
    have HT := hid_into hTd
    have HD := hid_into hD
    have HI := hid_into hil2
    have HQ := hid_into hlq
    have HX := hid_into h
    clear hT hTd hD hil2 hlq h hth hc2 hms
    go_enter Try.func9, Try.ntmps9
    go_wp2_with fail
    refine wp_region_still_tail 8 (by kernel_rfl) (by kernel_rfl) ?_
    simp only [List.take_succ_cons, List.take_zero, List.drop_succ_cons, List.drop_zero]
    change wpStill _ _ (World.drew _) _ _ _
    repeat still_step
    refine wpStill_nil ?_
    change wpList _ _ _ _ _ (World.drew _)
    go_wp2_with (go_at_call 20; refine (fix_any HT.out i HI.out HD.out).mono ?_; rintro e w2 ⟨rfl, q2, hW, hh⟩)
    go_ret
    rw [HQ.out] at hW
    have hg : Grows F w (w.setCell ⟨t.b, 1, none⟩ (.int .i64 due)).drew := (Grows.setCell w ⟨t.b, 1, none⟩ (.int .i64 due) (HX.out.fq _ (Or.inr ⟨t, List.mem_of_getElem? hi, rfl⟩))).trans (Grows.drew F _) fun k hk => Or.inl hk
    obtain ⟨h1, h2⟩ := HX.out.reset hi hdu hg (fun b hb => Below.heap_setCell _ _ _ _ fun e => mb_ne_own HX.out hb (Or.inr ⟨t, List.mem_of_getElem? hi, e.symm⟩)) hW hh
    exact ⟨rfl, ⟨mb, v, q2, h1.more fun k hk _ => Or.inl hk⟩, h2⟩
theorem set_nil (w : World) (id due : Int) : Calls Try.prog 9 #[.pointer none, .int .i64 id, .int .i64 due] w fun e w' => e = .returned (.bool false) ∧ w' = w := by
  go_enter Try.func9, Try.ntmps9
  go_wp2_with fail
  go_ret
  exact ⟨rfl, rfl⟩
end Go.Proofs.Ytilaankipjcgaaa
