/-
  disk's put and drop, by contracts.
-/
import Derived.Test.YthkgmnmdojmfgaaDisk
import Derived.StillTailTactics
import Derived.Deep.RegionHeld3
import Derived.Deep.DeepCutAuto
import Derived.WalkSpells
namespace Go.Proofs.Ythkgmnmdojmfgaa
open Go.RowKit Go.Maps
variable {X : Nm → Prop} {w w' : World} {F : Nat → Prop} {sb : Nat} {mb : Option Nat} {room : Int} {fs : Fls} {lit : Bool} {left : Int}

theorem Dx.drew (h : Dx X w F sb mb room fs lit left) : Dx X w.drew F sb mb room fs lit left := h.keep fun _ _ _ => rfl
theorem field67 (a b : Value) (w : World) : (Instr.field 67 (.agg #[a, b]) 0).run Try.prog w = .ok a w := by kernel_rfl
theorem at0_form (h : Dx X w F sb mb room fs lit left) (x : Nm) : ∃ ao cap l, (at0 fs x).val = .agg #[.slice ao (ln fs x) cap, .int .i64 l] := by
  simp only [at0, ln]
  cases hl : lk fs x with
  | none => exact ⟨none, 0, 0, rfl⟩
  | some f =>
    obtain ⟨ao, cap, hv⟩ := h.form _ (lk_mem hl)
    have hv' : f.v = .slice ao f.zs.length cap := hv
    exact ⟨ao, cap, f.l, by simp only [Fl.val]; rw [hv']⟩
/-- delete(d.files, x). -/
theorem del_run (mb : Option Nat) (fs : Fls) (n : Nat) (x : Nm) (hx : x.length ≤ maxLen) (w : World) (ty : TypeId) (hm : ∀ b, mb = some b → w.ownsMap Try.prog 9 Rv b n (Dm fs)) :
    ∃ w', (Builtin.delete_ #[58, 9] ty #[.map mb, encStr x]).run Try.prog w = .ok (.tuple #[]) w' ∧ (∀ b, mb = some b → w'.ownsMap Try.prog 9 Rv b n (Dm (dl fs x))) ∧ w.grownBy w' mb := by
  cases mb with
  | none => exact ⟨w, drop_nil lawS Try.underlying58 (key9 x hx) ty, fun b hb => (by cases hb), World.grownBy.refl _ _⟩
  | some b =>
    obtain ⟨w', hr, ho, ht⟩ := (hm b rfl).drop lawS Try.underlying58 (key9 x hx) ty
    rw [Dm_del] at ho
    exact ⟨w', hr, fun b' hb => by cases hb; exact ho, ht.grown⟩
theorem mb_ne (h : Dx X w F sb mb room fs lit left) : some sb ≠ mb := by
  intro e
  obtain ⟨_, hm⟩ := h.map sb e.symm
  obtain ⟨es, clock, hb⟩ := ownsMap_kind hm
  have := h.cells
  rw [Cw, hb] at this
  cases this
theorem row_ne (h : Dx X w F sb mb room fs lit left) {v : Value} {zs : List Int} (ho : Ow w 0 v zs) {k : Nat} (hk : v.ownBlock = some k) : k ≠ sb ∧ some k ≠ mb := by
  obtain ⟨_, cur, hc⟩ := ho.lt hk
  refine ⟨fun e => ?_, fun e => ?_⟩
  · subst e
    have := h.cells
    rw [Cw, hc] at this
    simp only [Option.some.injEq, Obj.cells.injEq] at this
    exact absurd this.2.1 (by decide)
  · obtain ⟨es, clock, hb⟩ := ownsMap_kind (h.map k e.symm).2
    rw [hc] at hb
    cases hb
theorem len_dl (fs : Fls) (x : Nm) : (dl fs x).length ≤ fs.length := List.length_filter_le _ _
theorem wrap_id (n : Int) (h1 : 0 ≤ n) (h2 : n ≤ 1073741824) : wrap64 n = n := by simp only [wrap64]; omega
set_option maxRecDepth 20000 in
set_option maxHeartbeats 800000 in
theorem drop_any (h : Dk w F sb mb room fs lit left) (x : Nm) (hx : x.length ≤ maxLen) :
    Calls Try.prog 62 #[.pointer (some ⟨sb, 0, none⟩), encStr x] w fun e w' => e = .returned (.tuple #[]) ∧ Dk w' F sb mb room (dl fs x) lit left ∧ Grows F w w' ∧ ∀ {v : Value} {zs : List Int}, Ow w 0 v zs → Ow w' 0 v zs := by
  obtain ⟨ao, cap, l, hf⟩ := at0_form h x
  have hlk := look_no h.drew x hx
  rw [hf] at hlk
  obtain ⟨c0, c1, c2, c3, c4⟩ := h.cell
  have f1 := h.cells.frozen 1
  have hfd := field67
  have ht := tot_dl (x := x) h.diff
  have hfit := h.fits
  have hr0 := h.room0
  have hsub : wrap64 ((tot fs : Int) - (ln fs x : Int)) = (tot (dl fs x) : Int) := by rw [wrap_id _ (by omega) (by omega)]; omega
  obtain ⟨W2, hdel, hm2, hg2⟩ := del_run mb fs fs.length x hx (w.setCell ⟨sb, 1, none⟩ (.int .i64 (tot (dl fs x) : Int))).drew 0 (fun b hb => ownsMap_keep (h.map b hb).2 (Below.heap_setCell _ _ _ _ (fun e => mb_ne h (by rw [hb]; exact congrArg some e.symm))))
  have HT := hid_into ht
  clear ht
  go_enter Try.func62, Try.ntmps62
  refine wp_seq ?_
  refine wp_region_still_tail 15 (by kernel_rfl) (by kernel_rfl) ?_
  simp only [List.take_succ_cons, List.take_zero, List.drop_succ_cons, List.drop_zero]
  change wpStill _ _ (World.drew _) _ _ _
  repeat still_step
  refine wpStill_nil ?_
  go_wp2_with fail
  go_end0
  have hG : Grows F w W2 := ((Grows.setCell w ⟨sb, 1, none⟩ (.int .i64 (tot (dl fs x) : Int)) h.sF).trans (Grows.drew F _) fun k hk => Or.inl hk).trans (Grows.grownBy (F := F) hg2 (fun k hk => (h.map k hk).1)) fun k hk => Or.inl hk
  have hkeep : ∀ {v : Value} {zs : List Int}, Ow w 0 v zs → Ow W2 0 v zs := fun {v zs} h1 => h1.keep fun k hk => by
    have hn := row_ne h h1 hk
    exact (hg2.block k (by simp [World.setCell, World.drew]; exact (h1.lt hk).1) hn.2).trans (Below.heap_setCell _ _ _ _ hn.1)
  refine ⟨rfl, ?_, hG, hkeep⟩
  have hset : Cw (w.setCell ⟨sb, 1, none⟩ (.int .i64 (tot (dl fs x) : Int))) sb _ 62 := h.cells.set 1 _
  refine ⟨?_, h.sF, fun e => by rw [h.nn e]; rfl, fun b hb => ⟨(h.map b hb).1, ?_⟩, fun p hp => h.form p (dl_mem.1 hp).1, ?_, ?_, h.room0, ?_, h.left0, Nat.le_trans (len_dl fs x) h.cnt⟩
  · have := hg2.block sb (by simp [World.setCell, World.drew]; exact h.cells.lt) (mb_ne h)
    exact hset.keep this
  · have := ownsMap_tight (hm2 b hb)
    rw [Dm_size] at this
    exact this
  · intro p hp _
    obtain ⟨h1, h2, h3, h4⟩ := h.rows p (dl_mem.1 hp).1
    exact ⟨hkeep h1, h2, h3, h4⟩
  · intro p hp q hq hpq
    exact h.apart p (dl_mem.1 hp).1 q (dl_mem.1 hq).1 hpq
  · have := HT.out; omega

theorem ln_le (h : fs.Pairwise (fun p q => p.1 ≠ q.1)) (x : Nm) : ln fs x ≤ tot fs := by have := tot_dl (x := x) h; omega
/-- d.files[x] = f behind d.used = .. -/
theorem upd_run {b : Nat} {f : Fl} {x : Nm} (h : Dx (fun y => y = x) w F sb (some b) room fs lit left) (hx : x.length ≤ maxLen) (ho : Ow w 0 f.v f.zs) (hl : f.l ≤ f.zs.length) (hb : Byt f.zs) (hF : ∀ k, f.v.ownBlock = some k → F k)
    (hap : ∀ p ∈ fs, p.1 ≠ x → f.v.ownBlock = none ∨ f.v.ownBlock ≠ p.2.v.ownBlock) (hfit : ((f.zs.length + tot (dl fs x) : Nat) : Int) ≤ room) (hcnt : (pt fs x f).length ≤ 4096) :
    ∃ w', (Instr.mapUpdate 58 (.map (some b)) (encStr x) f.val).run Try.prog (w.setCell ⟨sb, 1, none⟩ (.int .i64 (tot (pt fs x f) : Int))).drew.drew = .ok () w' ∧ Dk w' F sb (some b) room (pt fs x f) lit left ∧ Grows F w w' := by
  have hne : b ≠ sb := fun e => mb_ne h (by rw [e])
  obtain ⟨hFb, hm⟩ := h.map b rfl
  have hm1 : (w.setCell ⟨sb, 1, none⟩ (.int .i64 (tot (pt fs x f) : Int))).drew.drew.ownsMap Try.prog 9 Rv b fs.length (Dm fs) := ownsMap_keep hm (Below.heap_setCell _ _ _ _ hne)
  obtain ⟨W2, hr, hm2, ht⟩ := hm1.store lawS Try.underlying58 (by have := h.cnt; unfold maxLen; omega) (key9 x hx) (val := f.val) (d := .held f.val) rfl
  rw [Dm_put] at hm2
  have hg := ht.grown
  have hG : Grows F w W2 := ((Grows.setCell w ⟨sb, 1, none⟩ (.int .i64 (tot (pt fs x f) : Int)) h.sF).trans (Grows.drew F _) fun k hk => Or.inl hk).trans (((Grows.drew F _).trans (Grows.grownBy (F := F) hg (fun k hk => by cases hk; exact hFb)) fun k hk => Or.inl hk)) fun k hk => Or.inl hk
  refine ⟨W2, hr, ?_, hG⟩
  have hset : Cw (w.setCell ⟨sb, 1, none⟩ (.int .i64 (tot (pt fs x f) : Int))) sb _ 62 := h.cells.set 1 _
  have hkeep : ∀ {v : Value} {zs : List Int}, Ow w 0 v zs → Ow W2 0 v zs := fun {v zs} h1 => h1.keep fun k hk => by
    have hn := row_ne h h1 hk
    exact (hg.block k (by simp [World.setCell, World.drew]; exact (h1.lt hk).1) hn.2).trans (Below.heap_setCell _ _ _ _ hn.1)
  refine ⟨?_, h.sF, fun e => (by cases e), fun b' hb' => ⟨by cases hb'; exact hFb, ?_⟩, ?_, ?_, ?_, h.room0, ?_, h.left0, hcnt⟩
  · have := hg.block sb (by simp [World.setCell, World.drew]; exact h.cells.lt) (mb_ne h)
    exact hset.keep this
  · cases hb'
    have := ownsMap_tight hm2
    rw [Dm_size] at this
    exact this
  · intro p hp
    rcases pt_mem.1 hp with rfl | ⟨hp1, hp2⟩
    · obtain ⟨ao, cap, hv, _⟩ := ho.form
      exact ⟨ao, cap, hv⟩
    · exact h.form p hp1
  · intro p hp _
    rcases pt_mem.1 hp with rfl | ⟨hp1, hp2⟩
    · exact ⟨hkeep ho, hl, hb, hF⟩
    · obtain ⟨h1, h2, h3, h4⟩ := h.rowsX p hp1 hp2
      exact ⟨hkeep h1, h2, h3, h4⟩
  · intro p hp q hq hpq
    rcases pt_mem.1 hp with rfl | ⟨hp1, hp2⟩ <;> rcases pt_mem.1 hq with rfl | ⟨hq1, hq2⟩
    · exact absurd rfl hpq
    · exact hap q hq1 hq2
    · rcases hap p hp1 hp2 with e | e
      · by_cases e2 : p.2.v.ownBlock = none
        · exact Or.inl e2
        · exact Or.inr (by rw [e]; exact e2)
      · exact Or.inr (Ne.symm e)
    · exact h.apart p hp1 q hq1 hpq
  · rw [tot_pt]; exact hfit
/-- The files may be nil: then the map is made. -/
theorem Dx.made (h : Dx X w F sb none room fs lit left) (hF : F w.heap.size) : Dx X ((w.alloc (.map #[] 0)).setCell ⟨sb, 2, none⟩ (.map (some w.heap.size))) F sb (some w.heap.size) room fs lit left := by
  have e0 := h.nn rfl
  subst e0
  have hlt := h.cells.lt
  have hc : Cw ((w.alloc (.map #[] 0)).setCell ⟨sb, 2, none⟩ (.map (some w.heap.size))) sb _ 62 := (h.cells.alloc _).set 2 _
  refine ⟨hc, h.sF, fun e => (by cases e), fun b hb => ?_, fun p hp => (by cases hp), fun p hp => (by cases hp), fun p hp => (by cases hp), h.room0, h.fits, h.left0, h.cnt⟩
  cases hb
  exact ⟨hF, (World.ownsMap_made (H := Value) w Try.prog 9 Rv).setCell (a := ⟨sb, 2, none⟩) (by show w.heap.size ≠ sb; omega) _⟩
set_option maxRecDepth 20000 in
set_option maxHeartbeats 1600000 in
theorem put_any {f : Fl} {x : Nm} (h : Dx (fun y => y = x) w F sb mb room fs lit left) (hx : x.length ≤ maxLen) (ho : Ow w 0 f.v f.zs) (hl : f.l ≤ f.zs.length) (hb : Byt f.zs) (hF : ∀ k, f.v.ownBlock = some k → F k)
    (hap : ∀ p ∈ fs, p.1 ≠ x → f.v.ownBlock = none ∨ f.v.ownBlock ≠ p.2.v.ownBlock) (hfit : ((f.zs.length + tot (dl fs x) : Nat) : Int) ≤ room) (hcnt : (pt fs x f).length ≤ 4096) :
    Calls Try.prog 29 #[.pointer (some ⟨sb, 0, none⟩), encStr x, f.val] w fun e w' => e = .returned (.tuple #[]) ∧ ∃ mb', Dk w' (fun k => F k ∨ w.heap.size ≤ k) sb mb' room (pt fs x f) lit left ∧ Grows F w w' := by
  obtain ⟨fa, fc, hfv, _⟩ := ho.form
  have hval : f.val = .agg #[.slice fa f.zs.length fc, .int .i64 (f.l : Int)] := by simp only [Fl.val]; rw [hfv]
  have HV := hid_into hval
  rw [hval]
  have hmm := @run_makeMap Try.prog
  have q58 : ∀ (w : World) (r : Option Nat), (binOp .eql 58 (.map r) (.map none)).run Try.prog w = .ok (.bool r.isNone) w := fun w r => run_eql_map_nil w _ _ _ r Try.underlying58
  clear hval
  go_enter Try.func29, Try.ntmps29
  refine wp_seq (wp_region_lit (wpList_box_row rfl 67 (.tmp 2) rfl [.slice fa f.zs.length fc, .int .i64 (f.l : Int)] rfl ?_))
  intro W1 hc1 B1 HS1
  refine wpList_nil ?_
  have h1 : Dx (fun y => y = x) W1 (fun k => F k ∨ w.heap.size ≤ k) sb mb room fs lit left := (h.keep fun k _ hk => B1.block k hk).more fun k hk _ => Or.inl hk
  have ho1 : Ow W1 0 f.v f.zs := ho.keep fun k hk => B1.block k (ho.lt hk).1
  have HG1 : Hid (Grows F w W1) := Grows.of_below B1 F fun k hk hb => by omega
  have hdf := h.diff
  have HR0 := hid_into h.room0
  have HFT := hid_into h.fits
  clear h ho B1
  obtain ⟨c0, c1, c2, c3, c4⟩ := h1.cell
  have f2 := h1.cells.frozen 2
  go_upto_if 10 with fail
  go_cut [] (fun wx => ∃ b, Dx (fun y => y = x) wx (fun k => F k ∨ w.heap.size ≤ k) sb (some b) room fs lit left ∧ Cw wx w.heap.size [.slice fa f.zs.length fc, .int .i64 (f.l : Int)] 67 ∧ Ow wx 0 f.v f.zs ∧ Grows F w wx)
  case first =>
    cases mb with
    | some b =>
      go_wp2_with fail
      go_meet
      exact ⟨b, h1, hc1, ho1, HG1.out⟩
    | none =>
      have g2 : ∀ o, (W1.alloc o).cell? ⟨sb, 2, none⟩ = some (.map none) := fun o => by rw [(h1.cells.alloc o).cell]; rfl
      have g2f : ∀ o, (W1.alloc o).frozen? ⟨sb, 2, none⟩ = false := fun o => (h1.cells.alloc o).frozen 2
      go_wp2_with fail
      go_meet
      have hns : sb < W1.heap.size := h1.cells.lt
      refine ⟨W1.heap.size, h1.made (Or.inr (by rw [HS1.out]; omega)), (hc1.alloc _).keep (Below.heap_setCell _ _ _ _ ?_), ho1.keep fun k hk => ?_, ?_⟩
      · intro e
        have e' : w.heap.size = sb := e
        have := h1.cells
        rw [← e', Cw, hc1] at this; simp at this
      · rw [Below.heap_setCell _ _ _ _ (row_ne h1 ho1 hk).1, Below.heap_alloc _ _ _ (ho1.lt hk).1]
      · refine (HG1.out.trans (Grows.alloc F _ _) fun k hk => Or.inl hk).trans (Grows.setCell (F := fun k => F k ∨ w.heap.size ≤ k) _ _ _ h1.sF) fun k hk => hk
  case rest =>
    clear c0 c1 c2 c3 c4 f2 h1 hc1 ho1 HG1
    rename World => W2
    obtain ⟨b, h2, hc2, ho2, hG2⟩ := hcut
    obtain ⟨ao, cap, l, hf⟩ := at0_form h2 x
    have hlk := look_no h2.drew x hx
    rw [hf] at hlk
    have hfd := field67
    obtain ⟨c0, c1, c2, c3, c4⟩ := h2.cell
    have f1 := h2.cells.frozen 1
    have d0 : W2.cell? ⟨w.heap.size, 0, none⟩ = some (.slice fa f.zs.length fc) := by rw [hc2.cell]; rfl
    have d1 : W2.cell? ⟨w.heap.size, 1, none⟩ = some (.int .i64 (f.l : Int)) := by rw [hc2.cell]; rfl
    have HT := hid_into (tot_dl (x := x) hdf)
    have hsub : wrap64 ((tot fs : Int) + wrap64 ((f.zs.length : Int) - (ln fs x : Int))) = (tot (pt fs x f) : Int) := by
      have := HT.out; have := HR0.out; have := HFT.out
      rw [tot_pt]
      simp only [wrap64]; omega
    obtain ⟨W3, hup, h3, hG3⟩ := upd_run h2 hx ho2 hl hb (fun k hk => Or.inl (hF k hk)) hap hfit hcnt
    rw [HV.out] at hup
    have hne : w.heap.size ≠ sb := fun e => by have := h2.cells; rw [← e, Cw, hc2] at this; simp at this
    have e2 : (W2.setCell ⟨sb, 1, none⟩ (.int .i64 (tot (pt fs x f) : Int))).cell? ⟨sb, 2, none⟩ = some (.map (some b)) := by
      have : Cw (W2.setCell ⟨sb, 1, none⟩ (.int .i64 (tot (pt fs x f) : Int))) sb _ 62 := h2.cells.set 1 _
      rw [this.cell]; rfl
    have hc3 : Cw (W2.setCell ⟨sb, 1, none⟩ (.int .i64 (tot (pt fs x f) : Int))) w.heap.size [.slice fa f.zs.length fc, .int .i64 (f.l : Int)] 67 := hc2.keep (Below.heap_setCell _ _ _ _ hne)
    have e0 : (W2.setCell ⟨sb, 1, none⟩ (.int .i64 (tot (pt fs x f) : Int))).cell? ⟨w.heap.size, 0, none⟩ = some (.slice fa f.zs.length fc) := by rw [hc3.cell]; rfl
    have e1 : (W2.setCell ⟨sb, 1, none⟩ (.int .i64 (tot (pt fs x f) : Int))).cell? ⟨w.heap.size, 1, none⟩ = some (.int .i64 (f.l : Int)) := by rw [hc3.cell]; rfl
    replace hG2 := hid_into hG2
    replace hG3 := hid_into hG3
    clear hne
    go_wp2_with fail
    refine wp_region_still_tail 19 (by kernel_rfl) (by kernel_rfl) ?_
    simp only [List.take_succ_cons, List.take_zero, List.drop_succ_cons, List.drop_zero]
    change wpStill _ _ (World.drew _) _ _ _
    repeat still_step
    refine wpStill_nil ?_
    go_wp2_with fail
    refine wp_region_still_tail 6 (by kernel_rfl) (by kernel_rfl) ?_
    simp only [List.take_succ_cons, List.take_zero, List.drop_succ_cons, List.drop_zero]
    change wpStill _ _ (World.drew _) _ _ _
    repeat still_step
    refine wpStill_nil ?_
    change wpList _ _ _ _ _ (World.drew _)
    go_wp2_with fail
    go_end0
    exact ⟨rfl, some b, h3, hG2.out.trans hG3.out fun k hk => hk⟩
end Go.Proofs.Ythkgmnmdojmfgaa
