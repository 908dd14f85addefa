/-
  timers' take and add, by contracts.
-/
import Derived.Test.YtilaankipjcgaaaTimers
import Derived.StillTailTactics
import Derived.WalkSpells
import Derived.Deep.DeepCutAuto
namespace Go.Proofs.Ytilaankipjcgaaa
open Go.RowKit Go.Maps
variable {w w' : World} {F : Nat → Prop} {sb : Nat} {mb : Option Nat} {v : Value} {q : List Th} {s : List Pr}
theorem Tx.drew (h : Tx w F sb mb v q s) : Tx w.drew F sb mb v q s := h.keep fun _ _ _ => rfl
theorem dlM_cons {t : Th} {q : List Th} (h : ∀ x ∈ q, x.id ≠ t.id) : dlM (t.kb :: q.map Th.kb) t.id = q.map Th.kb := by
  simp only [dlM, List.filter_cons, Th.kb, beq_self_eq_true, Bool.not_true, Bool.false_eq_true, if_false, List.filter_eq_self]
  intro p hp
  obtain ⟨x, hx, rfl⟩ := List.mem_map.1 hp
  have := h x hx
  simp [Th.kb, this]
theorem Tx.others (h : Tx w F sb mb v q s) {t : Th} {q' : List Th} (hp : (t :: q').Perm q) : ∀ x ∈ q', x.id ≠ t.id := by
  have h1 := dis_perm h.qdis (hp.map Th.pr).symm
  intro x hx e
  exact (List.pairwise_cons.1 h1).1 x.pr (List.mem_map_of_mem hx) e.symm
/-- What is left when a thing is taken out of the queue and the map. -/
theorem Tx.taken (h : Tx w F sb mb v q s) {t : Th} {w1 w2 : World} {v' : Value} {q' : List Th} (hr : Rmvd w sb (.map mb) v q t w1 v' q') {b : Nat} (hb : mb = some b) {ms : Ms} (hms : ms.Perm (q.map Th.kb))
    {n : Nat} (hm : w2.ownsMap Try.prog 3 Rv b n (Dm (dlM ms t.id))) (hg : w1.grownBy w2 (some b)) :
    Tx w2 F sb mb v' q' (rm s t.id) ∧ Grows F w w2 ∧ ∃ pl, Cw w2 t.b [.int .i64 t.id, .int .i64 t.due, .int .i64 pl] 52 := by
  have hot := h.others hr.perm
  have hsub : ∀ k, own v' q' k → own v q k := by
    intro k hk
    rcases hk with hk | ⟨x, hx, e⟩
    · exact Or.inl (by rw [← hr.blk]; exact hk)
    · exact Or.inr ⟨x, hr.perm.mem_iff.1 (List.mem_cons_of_mem _ hx), e⟩
  have hkeep : ∀ k, k < w1.heap.size → k ≠ b → w2.heap[k]? = w1.heap[k]? := fun k h1 h2 => hg.block k h1 fun e => h2 (Option.some.inj e)
  have htb : own v q t.b := Or.inr ⟨t, hr.perm.mem_iff.1 List.mem_cons_self, rfl⟩
  refine ⟨⟨?_, hr.hp, (fun e => by rw [hb] at e; cases e), fun b' hb' => ?_, ?_, rm_srt h.srt _, rm_dis h.dis _, fun p hp => h.rng p (rm_mem.1 hp).1, h.fs, h.fm, fun k hk => h.fq k (hsub k hk)⟩, ?_, ?_⟩
  · exact ⟨hr.tq.st.keep (hkeep sb hr.tq.st.lt (Ne.symm (mb_ne_sb h hb))), hr.tq.qu.keep fun k hk => hkeep k (hr.tq.qu.lt hk) fun e => mb_ne_own h hb (e ▸ hsub k hk)⟩
  · rw [hb] at hb'
    cases hb'
    have hP : (dlM ms t.id).Perm (q'.map Th.kb) := by
      have h1 : ms.Perm (t.kb :: q'.map Th.kb) := hms.trans (hr.perm.map Th.kb).symm
      have h2 : (dlM ms t.id).Perm (dlM (t.kb :: q'.map Th.kb) t.id) := h1.filter _
      rw [dlM_cons hot] at h2
      exact h2
    have h1 := ownsMap_tight hm
    rw [Dm_size, hP.length_eq, List.length_map] at h1
    exact ⟨_, h1, hP⟩
  · have h1 : (t.pr :: q'.map Th.pr).Perm s := (hr.perm.map Th.pr).trans h.perm
    have h2 := rm_perm h1 t.id
    rw [show rm (t.pr :: q'.map Th.pr) t.id = q'.map Th.pr from rm_cons_eq (p := t.pr) fun x hx => by
      obtain ⟨y, hy, rfl⟩ := List.mem_map.1 hx
      exact hot y hy] at h2
    exact h2
  · refine (hr.grows.mono (G := F) fun k hk => ?_).trans (Grows.grownBy (F := F) hg fun k hk => ?_) fun k hk => Or.inl hk
    · rcases hk with rfl | hk
      · exact h.fs
      · exact h.fq k hk
    · cases hk; exact h.fm b hb
  · obtain ⟨pl, hc⟩ := hr.old
    exact ⟨pl, hc.keep (hkeep _ hc.lt fun e => mb_ne_own h hb (e ▸ htb))⟩
theorem del_run {w : World} {b n : Nat} {ms : Ms} (hm : w.ownsMap Try.prog 3 Rv b n (Dm ms)) {x : Int} (hx : In64 x) (ty : TypeId) :
    ∃ w', (Builtin.delete_ #[45, 3] ty #[.map (some b), .int .i64 x]).run Try.prog w = .ok (.tuple #[]) w' ∧ w'.ownsMap Try.prog 3 Rv b n (Dm (dlM ms x)) ∧ w.grownBy w' (some b) := by
  obtain ⟨w', hr, ho, ht⟩ := hm.drop lawI Try.underlying45 (key3 hx) ty
  rw [Dm_del] at ho
  exact ⟨w', hr, ho, ht.grown⟩
set_option maxRecDepth 20000 in
set_option maxHeartbeats 1000000 in
theorem take_any (h : Tx w F sb mb v q s) (i : Nat) (t : Th) (ht : q[i]? = some t) :
    Calls Try.prog 23 #[.pointer (some ⟨sb, 0, none⟩), .pointer (some ⟨t.b, 0, none⟩)] w fun e w' => e = .returned (.tuple #[]) ∧ ∃ v' q', Tx w' F sb mb v' q' (rm s t.id) ∧ Grows F w w' ∧
      ∃ pl, Cw w' t.b [.int .i64 t.id, .int .i64 t.due, .int .i64 pl] 52 := by
  obtain ⟨b, hb⟩ : ∃ b, mb = some b := by
    cases mb with
    | none => rw [h.nn rfl] at ht; simp at ht
    | some b => exact ⟨b, rfl⟩
  subst hb
  obtain ⟨ms, hm, hms⟩ := h.map b rfl
  have hc := h.tq.qu.th i t ht
  have p0 : w.cell? ⟨t.b, 2, none⟩ = some (.int .i64 (i : Int)) := by rw [hc.cell]; rfl
  have hin : In64 t.id := (h.rng t.pr (h.perm.mem_iff.1 (List.mem_map_of_mem (List.mem_of_getElem? ht)))).1
  have HX := hid_into h.drew
  have HM := hid_into hm
  have hbs := mb_ne_own h rfl
  have hbs2 := mb_ne_sb h rfl
  have hbl := hm.lt
  clear hm hc
  have HH := hid_into h
  clear h
  go_enter Try.func23, Try.ntmps23
  refine wp_seq ?_
  refine wp_region_still_tail 8 (by kernel_rfl) (by kernel_rfl) ?_
  simp only [List.take_succ_cons, List.take_zero, List.drop_succ_cons, List.drop_zero]
  change wpStill _ _ (World.drew _) _ _ _
  repeat still_step
  refine wpStill_nil ?_
  change wpList _ _ _ _ _ (World.drew _)
  go_wp2_with (go_at_call 27; refine (remove_any HX.out.tq HX.out.hp i t ht).mono ?_; rintro e w1 ⟨rfl, v1, q1, hR⟩)
  obtain ⟨pl, ho⟩ := hR.old
  have c0 : w1.cell? ⟨sb, 0, none⟩ = some (.map (some b)) := by rw [hR.tq.st.cell]; rfl
  have t0 : w1.cell? ⟨t.b, 0, none⟩ = some (.int .i64 t.id) := by rw [ho.cell]; rfl
  have hm1 : w1.drew.ownsMap Try.prog 3 Rv b q.length (Dm ms) := ownsMap_keep HM.out (hR.grows.block b hbl fun e => e.elim hbs2 hbs)
  obtain ⟨w2, hdel, hm2, hg2⟩ := del_run hm1 hin 0
  replace hR := hid_into hR
  replace hm2 := hid_into hm2
  replace hg2 := hid_into hg2
  clear ho hm1
  refine wp_region_still_tail 8 (by kernel_rfl) (by kernel_rfl) ?_
  simp only [List.take_succ_cons, List.take_zero, List.drop_succ_cons, List.drop_zero]
  change wpStill _ _ (World.drew _) _ _ _
  repeat still_step
  refine wpStill_nil ?_
  change wpList _ _ _ _ _ (World.drew _)
  go_wp2_with fail
  go_end0
  have hg3 : w1.grownBy w2 (some b) := ⟨hg2.out.os, hg2.out.tape, hg2.out.output, hg2.out.size, hg2.out.block⟩
  obtain ⟨h1, h2, h3⟩ := HX.out.taken hR.out rfl hms hm2.out hg3
  exact ⟨rfl, v1, q1, h1, ⟨h2.os, h2.tape, h2.output, h2.size, h2.block⟩, h3⟩
/-- The map is made. -/
theorem Tx.made (h : Tx w F sb none v q s) (hF : F w.heap.size) : Tx ((w.alloc (.map #[] 0)).setCell ⟨sb, 0, none⟩ (.map (some w.heap.size))) F sb (some w.heap.size) v q s := by
  have e0 := h.nn rfl
  have hlt := h.tq.st.lt
  have hk : ∀ k, k < w.heap.size → k ≠ sb → ((w.alloc (.map #[] 0)).setCell ⟨sb, 0, none⟩ (.map (some w.heap.size))).heap[k]? = w.heap[k]? := fun k h1 h2 => by
    rw [Below.heap_setCell _ _ _ _ h2, Below.heap_alloc _ _ _ h1]
  have hc : Cw ((w.alloc (.map #[] 0)).setCell ⟨sb, 0, none⟩ (.map (some w.heap.size))) sb _ 49 := (h.tq.st.alloc _).set 0 _
  refine ⟨⟨hc, h.tq.qu.keep fun k hq => hk k (h.tq.qu.lt hq) fun e => h.tq.ne (e ▸ hq)⟩, h.hp, (fun e => by cases e), fun b hb => ?_, h.perm, h.srt, h.dis, h.rng, h.fs, (fun b hb => by cases hb; exact hF), h.fq⟩
  cases hb
  refine ⟨[], ?_, by rw [e0]; exact List.Perm.refl _⟩
  rw [e0]
  exact (World.ownsMap_made (H := Value) w Try.prog 3 Rv).setCell (a := ⟨sb, 0, none⟩) (by show w.heap.size ≠ sb; omega) _
/-- What is there when a new thing has come into the map and the queue. -/
theorem Tx.added (h : Tx w F sb mb v q s) {b mbb : Nat} {id due : Int} (hmb : mb = some mbb) (hid : In64 id) (hdu : In64 due) (hn : get s id = none) {w1 w2 : World} {v' : Value} {q' : List Th} {ms : Ms} {n : Nat} (hms : ms.Perm (q.map Th.kb))
    (hm : w1.ownsMap Try.prog 3 Rv mbb n (Dm (ptM ms id b))) (hw1 : w.heap.size ≤ w1.heap.size) (ht : Tq w2 sb (.map mb) v' q') (hp : q'.Perm (q ++ [⟨b, id, due⟩])) (hh : Hp q') (hv : v'.ownBlock = v.ownBlock ∨ ∀ k, v'.ownBlock = some k → w1.heap.size ≤ k)
    (hg : Grows (fun k => k = sb ∨ own v q k ∨ k = b) w1 w2) (hbb : mbb ≠ b) (hFb : F b) : Tx w2 (fun k => F k ∨ w.heap.size ≤ k) sb mb v' q' (put s id due) := by
  have hrm := rm_none hn
  refine ⟨ht, hh, (fun e => by rw [hmb] at e; cases e), fun b' hb' => ?_, ?_, put_srt h.srt _ _, put_dis h.dis _ _, ?_, Or.inl h.fs, fun b' hb' => Or.inl (h.fm b' hb'), ?_⟩
  · rw [hmb] at hb'
    cases hb'
    have hdl : dlM ms id = ms := by
      simp only [dlM, List.filter_eq_self]
      intro p hp2
      obtain ⟨t, ht2, rfl⟩ := List.mem_map.1 (hms.mem_iff.1 hp2)
      have := get_none hn t.pr (h.perm.mem_iff.1 (List.mem_map_of_mem ht2))
      simp only [Th.pr] at this
      simp [Th.kb, this]
    have hP : (ptM ms id b).Perm (q'.map Th.kb) := by
      refine (insM_perm id b _).trans ?_
      rw [hdl]
      have h1 := (hp.map Th.kb).symm
      rw [List.map_append] at h1
      exact (hms.cons (id, b)).trans ((List.perm_append_singleton (id, b) (q.map Th.kb)).symm.trans h1)
    have h1 := ownsMap_tight (ownsMap_keep hm (hg.block mbb hm.lt fun e => by
      rcases e with e | e | e
      · exact mb_ne_sb h hmb e
      · exact mb_ne_own h hmb e
      · exact hbb e))
    rw [Dm_size, hP.length_eq, List.length_map] at h1
    exact ⟨_, h1, hP⟩
  · have h1 := hp.map Th.pr
    rw [List.map_append] at h1
    refine h1.trans ((List.perm_append_singleton (id, due) (q.map Th.pr)).trans ((h.perm.cons (id, due)).trans ?_))
    have := put_perm s id due
    rw [hrm] at this
    exact this.symm
  · intro p hp2
    rcases List.mem_cons.1 ((put_perm s id due).mem_iff.1 hp2) with rfl | h1
    · exact ⟨hid, hdu⟩
    · exact h.rng p (rm_mem.1 h1).1
  · intro k hk
    rcases hk with hk | ⟨t, ht2, rfl⟩
    · rcases hv with e | e
      · exact Or.inl (h.fq k (Or.inl (by rw [← e]; exact hk)))
      · exact Or.inr (Nat.le_trans hw1 (e k hk))
    · rcases List.mem_append.1 (hp.mem_iff.1 ht2) with h1 | h1
      · exact Or.inl (h.fq _ (Or.inr ⟨t, h1, rfl⟩))
      · simp at h1
        subst h1
        exact Or.inl hFb
set_option maxRecDepth 20000 in
set_option maxHeartbeats 1600000 in
theorem add_any (h : Tx w F sb mb v q s) (b : Nat) (id due pl : Int) (hid : In64 id) (hdu : In64 due) (hb : Cw w b [.int .i64 id, .int .i64 due, .int .i64 pl] 52) (hbn : ¬ own v q b) (hFb : F b) (hn : get s id = none) (hlen : q.length < 4096) :
    Calls Try.prog 21 #[.pointer (some ⟨sb, 0, none⟩), .pointer (some ⟨b, 0, none⟩)] w fun e w' => e = .returned (.tuple #[]) ∧ ∃ mb' v' q', Tx w' (fun k => F k ∨ w.heap.size ≤ k) sb mb' v' q' (put s id due) ∧ Grows F w w' := by
  have hmm := @run_makeMap Try.prog
  have q45 : ∀ (w : World) (r : Option Nat), (binOp .eql 45 (.map r) (.map none)).run Try.prog w = .ok (.bool r.isNone) w := fun w r => run_eql_map_nil w _ _ _ r Try.underlying45
  have c0 : w.cell? ⟨sb, 0, none⟩ = some (.map mb) := by rw [h.tq.st.cell]; rfl
  have f0 := h.tq.st.frozen 0
  go_enter Try.func21, Try.ntmps21
  go_upto_if 8 with fail
  go_cut [] (fun wx => ∃ b', Tx wx (fun k => F k ∨ w.heap.size ≤ k) sb (some b') v q s ∧ Cw wx b [.int .i64 id, .int .i64 due, .int .i64 pl] 52 ∧ Grows F w wx)
  case first =>
    cases mb with
    | some b' =>
      go_wp2_with fail
      go_meet
      exact ⟨b', h.more fun k hk _ => Or.inl hk, hb, Grows.refl _ _⟩
    | none =>
      have g2 : ∀ o, (w.alloc o).cell? ⟨sb, 0, none⟩ = some (.map none) := fun o => by rw [(h.tq.st.alloc o).cell]; rfl
      have g2f : ∀ o, (w.alloc o).frozen? ⟨sb, 0, none⟩ = false := fun o => (h.tq.st.alloc o).frozen 0
      go_wp2_with fail
      go_meet
      have hns : sb < w.heap.size := h.tq.st.lt
      refine ⟨w.heap.size, (h.more fun k hk _ => Or.inl hk).made (Or.inr (Nat.le_refl _)), (hb.alloc _).keep (Below.heap_setCell _ _ _ _ ?_), ?_⟩
      · intro e
        have e' : b = sb := e
        have := h.tq.st
        rw [← e', Cw, show w.heap[b]? = _ from hb] at this; simp at this
      · exact (Grows.alloc F w _).trans (Grows.setCell (F := F) _ ⟨sb, 0, none⟩ _ h.fs) fun k hk => Or.inl hk
  case rest =>
    clear c0 f0
    rename World => W2
    obtain ⟨b', h2, hb2, hG2⟩ := hcut
    have c0 : W2.cell? ⟨sb, 0, none⟩ = some (.map (some b')) := by rw [h2.tq.st.cell]; rfl
    have t0 : W2.cell? ⟨b, 0, none⟩ = some (.int .i64 id) := by rw [hb2.cell]; rfl
    obtain ⟨ms, hm, hms⟩ := h2.map b' rfl
    have hml : q.length < maxLen := by unfold maxLen; omega
    have hmd : W2.drew.ownsMap Try.prog 3 Rv b' q.length (Dm ms) := ownsMap_keep hm rfl
    obtain ⟨W3, hup, hm3, ht3⟩ := hmd.store lawI Try.underlying45 hml (key3 hid) (val := ptrV b) (d := .held (ptrV b)) rfl
    rw [Dm_put] at hm3
    have hg3 := ht3.grown
    simp only [ptrV] at hup
    have hk3 : ∀ k, k < W2.heap.size → k ≠ b' → W3.heap[k]? = W2.heap[k]? := fun k h1 h2 => hg3.block k h1 fun e => h2 (Option.some.inj e)
    have hbb : b' ≠ b := fun e => by
      obtain ⟨es, clock, h5⟩ := ownsMap_kind hm
      rw [e, show W2.heap[b]? = _ from hb2] at h5
      cases h5
    have h3 : Tq W3 sb (.map (some b')) v q := ⟨h2.tq.st.keep (hk3 sb h2.tq.st.lt (Ne.symm (mb_ne_sb h2 rfl))), h2.tq.qu.keep fun k hk => hk3 k (h2.tq.qu.lt hk) fun e => mb_ne_own h2 rfl (e ▸ hk)⟩
    have hb3 : Cw W3 b [.int .i64 id, .int .i64 due, .int .i64 pl] 52 := hb2.keep (hk3 b hb2.lt (Ne.symm hbb))
    have H2 := hid_into h2
    have HG2 := hid_into hG2
    have H3 := hid_into h3
    have HM3 := hid_into hm3
    have HG3 := hid_into hg3
    have HB3 := hid_into hb3
    clear h2 hG2 h3 hm3 hg3 hb3 hk3 hm hmd ht3 hml hb2 hmm q45
    go_wp2_with fail
    refine wp_region_still_tail 9 (by kernel_rfl) (by kernel_rfl) ?_
    simp only [List.take_succ_cons, List.take_zero, List.drop_succ_cons, List.drop_zero]
    change wpStill _ _ (World.drew _) _ _ _
    repeat still_step
    refine wpStill_nil ?_
    change wpList _ _ _ _ _ (World.drew _)
    go_wp2_with (go_at_call 26; refine (hpush_any H3.out H2.out.hp b id due pl HB3.out hbn hlen).mono ?_; rintro e W4 ⟨rfl, v4, q4, h4, hp4, hh4, hv4, hg4⟩)
    go_end0
    have hs3 : W2.heap.size ≤ W3.heap.size := HG3.out.size
    have hs2 := HG2.out.size
    have hX := H2.out.added rfl hid hdu hn hms HM3.out hs3 h4 hp4 hh4 hv4 hg4 hbb (Or.inl hFb)
    refine ⟨rfl, some b', v4, q4, hX.more fun k hk _ => ?_, ?_⟩
    · rcases hk with (hk | hk) | hk
      · exact Or.inl hk
      · exact Or.inr hk
      · exact Or.inr (Nat.le_trans hs2 hk)
    · have hg5 : Grows (fun k => k = b') W2 W3 := ⟨HG3.out.os, HG3.out.tape, HG3.out.output, HG3.out.size, fun k hk hf => HG3.out.block k hk fun e => hf (Option.some.inj e)⟩
      refine (HG2.out.trans hg5 fun k hk => ?_).trans hg4 fun k hk => ?_
      · subst hk
        exact H2.out.fm k rfl
      · rcases hk with rfl | hk | rfl
        · exact Or.inl h.fs
        · exact H2.out.fq k hk
        · exact Or.inl hFb
end Go.Proofs.Ytilaankipjcgaaa
