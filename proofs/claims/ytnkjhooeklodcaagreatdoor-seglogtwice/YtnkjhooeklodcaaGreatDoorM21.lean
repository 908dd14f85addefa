/-
  Joined from: Put, Steps, StepsB.
-/
import Derived.Test.YtnkjhooeklodcaaGreatDoorM20
import Derived.StillTailTactics
import Derived.Deep.RegionHeld3
import Derived.Deep.DeepCutAuto
import Derived.WalkSpells
section
/-
  disk's put and drop, by contracts.
-/
namespace Go.Proofs.YtnkjhooeklodcaaGreatDoor
open Go.RowKit Go.Maps
variable {X : Nm → Prop} {w w' : World} {F : Nat → Prop} {sb : Nat} {mb : Option Nat} {room : Int} {fs : Fls} {lit : Bool} {left : Int}

theorem Dx.drew (h : Dx X w F sb mb room fs lit left) : Dx X w.drew F sb mb room fs lit left := h.keep fun _ _ _ => rfl
theorem field67 (a b : Value) (w : World) : (Instr.field 106 (.agg #[a, b]) 0).run Tryz.prog w = .ok a w := by kernel_rfl
theorem at0_form (h : Dx X w F sb mb room fs lit left) (x : Nm) : ∃ ao cap l, (at0 fs x).val = .agg #[.slice ao (ln fs x) cap, .int .i64 l] := by
  simp only [at0, ln]
  cases hl : lk fs x with
  | none => exact ⟨none, 0, 0, rfl⟩
  | some f =>
    obtain ⟨ao, cap, hv⟩ := h.form _ (lk_mem hl)
    have hv' : f.v = .slice ao f.zs.length cap := hv
    exact ⟨ao, cap, f.l, by simp only [Fl.val]; rw [hv']⟩
theorem del_run (mb : Option Nat) (fs : Fls) (n : Nat) (x : Nm) (hx : x.length ≤ maxLen) (w : World) (ty : TypeId) (hm : ∀ b, mb = some b → w.ownsMap Tryz.prog 9 Rv b n (Dm fs)) :
    ∃ w', (Builtin.delete_ #[86, 9] ty #[.map mb, encStr x]).run Tryz.prog w = .ok (.tuple #[]) w' ∧ (∀ b, mb = some b → w'.ownsMap Tryz.prog 9 Rv b n (Dm (dl fs x))) ∧ w.grownBy w' mb := by
  cases mb with
  | none => exact ⟨w, drop_nil lawS Tryz.underlying86 (key9 x hx) ty, fun b hb => (by cases hb), World.grownBy.refl _ _⟩
  | some b =>
    obtain ⟨w', hr, ho, ht⟩ := (hm b rfl).drop lawS Tryz.underlying86 (key9 x hx) ty
    rw [Dm_del] at ho
    exact ⟨w', hr, fun b' hb => by cases hb; exact ho, ht.grown⟩
theorem mb_ne (h : Dx X w F sb mb room fs lit left) : some sb ≠ mb := by
  intro e
  obtain ⟨_, hm⟩ := h.map sb e.symm
  obtain ⟨es, clock, hb⟩ := ownsMap_kind hm
  have := h.cells
  rw [Cw, hb] at this
  cases this
theorem row_ne (h : Dx X w F sb mb room fs lit left) {v : Value} {zs : List Int} (ho : Ow w 0 v zs) {k : Nat} (hk : v.ownBlock = some k) : k ≠ sb ∧ some k ≠ mb := by
  obtain ⟨_, cur, hc⟩ := ho.lt hk
  refine ⟨fun e => ?_, fun e => ?_⟩
  · subst e
    have := h.cells
    rw [Cw, hc] at this
    simp only [Option.some.injEq, Obj.cells.injEq] at this
    exact absurd this.2.1 (by decide)
  · obtain ⟨es, clock, hb⟩ := ownsMap_kind (h.map k e.symm).2
    rw [hc] at hb
    cases hb
theorem len_dl (fs : Fls) (x : Nm) : (dl fs x).length ≤ fs.length := List.length_filter_le _ _
theorem wrap_id (n : Int) (h1 : 0 ≤ n) (h2 : n ≤ 1073741824) : wrap64 n = n := by simp only [wrap64]; omega
set_option maxRecDepth 20000 in
set_option maxHeartbeats 800000 in
theorem drop_any (h : Dk w F sb mb room fs lit left) (x : Nm) (hx : x.length ≤ maxLen) :
    Calls Tryz.prog 162 #[.pointer (some ⟨sb, 0, none⟩), encStr x] w fun e w' => e = .returned (.tuple #[]) ∧ Dk w' F sb mb room (dl fs x) lit left ∧ Grows F w w' ∧ ∀ {v : Value} {zs : List Int}, Ow w 0 v zs → Ow w' 0 v zs := by
  obtain ⟨ao, cap, l, hf⟩ := at0_form h x
  have hlk := look_no h.drew x hx
  rw [hf] at hlk
  obtain ⟨c0, c1, c2, c3, c4⟩ := h.cell
  have f1 := h.cells.frozen 1
  have hfd := field67
  have ht := tot_dl (x := x) h.diff
  have hfit := h.fits
  have hr0 := h.room0
  have hsub : wrap64 ((tot fs : Int) - (ln fs x : Int)) = (tot (dl fs x) : Int) := by rw [wrap_id _ (by omega) (by omega)]; omega
  obtain ⟨W2, hdel, hm2, hg2⟩ := del_run mb fs fs.length x hx (w.setCell ⟨sb, 1, none⟩ (.int .i64 (tot (dl fs x) : Int))).drew 0 (fun b hb => ownsMap_keep (h.map b hb).2 (Below.heap_setCell _ _ _ _ (fun e => mb_ne h (by rw [hb]; exact congrArg some e.symm))))
  have HT := hid_into ht
  clear ht
  go_enter Tryz.func162, Tryz.ntmps162
  refine wp_seq ?_
  refine wp_region_still_tail 15 (by kernel_rfl) (by kernel_rfl) ?_
  simp only [List.take_succ_cons, List.take_zero, List.drop_succ_cons, List.drop_zero]
  change wpStill _ _ (World.drew _) _ _ _
  repeat still_step
  refine wpStill_nil ?_
  go_wp2_with fail
  go_end0
  have hG : Grows F w W2 := ((Grows.setCell w ⟨sb, 1, none⟩ (.int .i64 (tot (dl fs x) : Int)) h.sF).trans (Grows.drew F _) fun k hk => Or.inl hk).trans (Grows.grownBy (F := F) hg2 (fun k hk => (h.map k hk).1)) fun k hk => Or.inl hk
  have hkeep : ∀ {v : Value} {zs : List Int}, Ow w 0 v zs → Ow W2 0 v zs := fun {v zs} h1 => h1.keep fun k hk => by
    have hn := row_ne h h1 hk
    exact (hg2.block k (by simp [World.setCell, World.drew]; exact (h1.lt hk).1) hn.2).trans (Below.heap_setCell _ _ _ _ hn.1)
  refine ⟨rfl, ?_, hG, hkeep⟩
  have hset : Cw (w.setCell ⟨sb, 1, none⟩ (.int .i64 (tot (dl fs x) : Int))) sb _ 88 := h.cells.set 1 _
  refine ⟨?_, h.sF, fun e => by rw [h.nn e]; rfl, fun b hb => ⟨(h.map b hb).1, ?_⟩, fun p hp => h.form p (dl_mem.1 hp).1, ?_, ?_, h.room0, ?_, h.left0, Nat.le_trans (len_dl fs x) h.cnt⟩
  · have := hg2.block sb (by simp [World.setCell, World.drew]; exact h.cells.lt) (mb_ne h)
    exact hset.keep this
  · have := ownsMap_tight (hm2 b hb)
    rw [Dm_size] at this
    exact this
  · intro p hp _
    obtain ⟨h1, h2, h3, h4⟩ := h.rows p (dl_mem.1 hp).1
    exact ⟨hkeep h1, h2, h3, h4⟩
  · intro p hp q hq hpq
    exact h.apart p (dl_mem.1 hp).1 q (dl_mem.1 hq).1 hpq
  · have := HT.out; omega

theorem ln_le (h : fs.Pairwise (fun p q => p.1 ≠ q.1)) (x : Nm) : ln fs x ≤ tot fs := by have := tot_dl (x := x) h; omega
theorem upd_run {b : Nat} {f : Fl} {x : Nm} (h : Dx (fun y => y = x) w F sb (some b) room fs lit left) (hx : x.length ≤ maxLen) (ho : Ow w 0 f.v f.zs) (hl : f.l ≤ f.zs.length) (hb : Byt f.zs) (hF : ∀ k, f.v.ownBlock = some k → F k)
    (hap : ∀ p ∈ fs, p.1 ≠ x → f.v.ownBlock = none ∨ f.v.ownBlock ≠ p.2.v.ownBlock) (hfit : ((f.zs.length + tot (dl fs x) : Nat) : Int) ≤ room) (hcnt : (pt fs x f).length ≤ 4096) :
    ∃ w', (Instr.mapUpdate 86 (.map (some b)) (encStr x) f.val).run Tryz.prog (w.setCell ⟨sb, 1, none⟩ (.int .i64 (tot (pt fs x f) : Int))).drew.drew = .ok () w' ∧ Dk w' F sb (some b) room (pt fs x f) lit left ∧ Grows F w w' := by
  have hne : b ≠ sb := fun e => mb_ne h (by rw [e])
  obtain ⟨hFb, hm⟩ := h.map b rfl
  have hm1 : (w.setCell ⟨sb, 1, none⟩ (.int .i64 (tot (pt fs x f) : Int))).drew.drew.ownsMap Tryz.prog 9 Rv b fs.length (Dm fs) := ownsMap_keep hm (Below.heap_setCell _ _ _ _ hne)
  obtain ⟨W2, hr, hm2, ht⟩ := hm1.store lawS Tryz.underlying86 (by have := h.cnt; unfold maxLen; omega) (key9 x hx) (val := f.val) (d := .held f.val) rfl
  rw [Dm_put] at hm2
  have hg := ht.grown
  have hG : Grows F w W2 := ((Grows.setCell w ⟨sb, 1, none⟩ (.int .i64 (tot (pt fs x f) : Int)) h.sF).trans (Grows.drew F _) fun k hk => Or.inl hk).trans (((Grows.drew F _).trans (Grows.grownBy (F := F) hg (fun k hk => by cases hk; exact hFb)) fun k hk => Or.inl hk)) fun k hk => Or.inl hk
  refine ⟨W2, hr, ?_, hG⟩
  have hset : Cw (w.setCell ⟨sb, 1, none⟩ (.int .i64 (tot (pt fs x f) : Int))) sb _ 88 := h.cells.set 1 _
  have hkeep : ∀ {v : Value} {zs : List Int}, Ow w 0 v zs → Ow W2 0 v zs := fun {v zs} h1 => h1.keep fun k hk => by
    have hn := row_ne h h1 hk
    exact (hg.block k (by simp [World.setCell, World.drew]; exact (h1.lt hk).1) hn.2).trans (Below.heap_setCell _ _ _ _ hn.1)
  refine ⟨?_, h.sF, fun e => (by cases e), fun b' hb' => ⟨by cases hb'; exact hFb, ?_⟩, ?_, ?_, ?_, h.room0, ?_, h.left0, hcnt⟩
  · have := hg.block sb (by simp [World.setCell, World.drew]; exact h.cells.lt) (mb_ne h)
    exact hset.keep this
  · cases hb'
    have := ownsMap_tight hm2
    rw [Dm_size] at this
    exact this
  · intro p hp
    rcases pt_mem.1 hp with rfl | ⟨hp1, hp2⟩
    · obtain ⟨ao, cap, hv, _⟩ := ho.form
      exact ⟨ao, cap, hv⟩
    · exact h.form p hp1
  · intro p hp _
    rcases pt_mem.1 hp with rfl | ⟨hp1, hp2⟩
    · exact ⟨hkeep ho, hl, hb, hF⟩
    · obtain ⟨h1, h2, h3, h4⟩ := h.rowsX p hp1 hp2
      exact ⟨hkeep h1, h2, h3, h4⟩
  · intro p hp q hq hpq
    rcases pt_mem.1 hp with rfl | ⟨hp1, hp2⟩ <;> rcases pt_mem.1 hq with rfl | ⟨hq1, hq2⟩
    · exact absurd rfl hpq
    · exact hap q hq1 hq2
    · rcases hap p hp1 hp2 with e | e
      · by_cases e2 : p.2.v.ownBlock = none
        · exact Or.inl e2
        · exact Or.inr (by rw [e]; exact e2)
      · exact Or.inr (Ne.symm e)
    · exact h.apart p hp1 q hq1 hpq
  · rw [tot_pt]; exact hfit
theorem Dx.made (h : Dx X w F sb none room fs lit left) (hF : F w.heap.size) : Dx X ((w.alloc (.map #[] 0)).setCell ⟨sb, 2, none⟩ (.map (some w.heap.size))) F sb (some w.heap.size) room fs lit left := by
  have e0 := h.nn rfl
  subst e0
  have hlt := h.cells.lt
  have hc : Cw ((w.alloc (.map #[] 0)).setCell ⟨sb, 2, none⟩ (.map (some w.heap.size))) sb _ 88 := (h.cells.alloc _).set 2 _
  refine ⟨hc, h.sF, fun e => (by cases e), fun b hb => ?_, fun p hp => (by cases hp), fun p hp => (by cases hp), fun p hp => (by cases hp), h.room0, h.fits, h.left0, h.cnt⟩
  cases hb
  exact ⟨hF, (World.ownsMap_made (H := Value) w Tryz.prog 9 Rv).setCell (a := ⟨sb, 2, none⟩) (by show w.heap.size ≠ sb; omega) _⟩
set_option maxRecDepth 20000 in
set_option maxHeartbeats 1600000 in
theorem put_any {f : Fl} {x : Nm} (h : Dx (fun y => y = x) w F sb mb room fs lit left) (hx : x.length ≤ maxLen) (ho : Ow w 0 f.v f.zs) (hl : f.l ≤ f.zs.length) (hb : Byt f.zs) (hF : ∀ k, f.v.ownBlock = some k → F k)
    (hap : ∀ p ∈ fs, p.1 ≠ x → f.v.ownBlock = none ∨ f.v.ownBlock ≠ p.2.v.ownBlock) (hfit : ((f.zs.length + tot (dl fs x) : Nat) : Int) ≤ room) (hcnt : (pt fs x f).length ≤ 4096) :
    Calls Tryz.prog 59 #[.pointer (some ⟨sb, 0, none⟩), encStr x, f.val] w fun e w' => e = .returned (.tuple #[]) ∧ ∃ mb', Dk w' (fun k => F k ∨ w.heap.size ≤ k) sb mb' room (pt fs x f) lit left ∧ Grows F w w' := by
  obtain ⟨fa, fc, hfv, _⟩ := ho.form
  have hval : f.val = .agg #[.slice fa f.zs.length fc, .int .i64 (f.l : Int)] := by simp only [Fl.val]; rw [hfv]
  have HV := hid_into hval
  rw [hval]
  have hmm := @run_makeMap Tryz.prog
  have q58 : ∀ (w : World) (r : Option Nat), (binOp .eql 86 (.map r) (.map none)).run Tryz.prog w = .ok (.bool r.isNone) w := fun w r => run_eql_map_nil w _ _ _ r Tryz.underlying86
  clear hval
  go_enter Tryz.func59, Tryz.ntmps59
  refine wp_seq (wp_region_lit (wpList_box_row rfl 106 (.tmp 2) rfl [.slice fa f.zs.length fc, .int .i64 (f.l : Int)] rfl ?_))
  intro W1 hc1 B1 HS1
  refine wpList_nil ?_
  have h1 : Dx (fun y => y = x) W1 (fun k => F k ∨ w.heap.size ≤ k) sb mb room fs lit left := (h.keep fun k _ hk => B1.block k hk).more fun k hk _ => Or.inl hk
  have ho1 : Ow W1 0 f.v f.zs := ho.keep fun k hk => B1.block k (ho.lt hk).1
  have HG1 : Hid (Grows F w W1) := Grows.of_below B1 F fun k hk hb => by omega
  have hdf := h.diff
  have HR0 := hid_into h.room0
  have HFT := hid_into h.fits
  clear h ho B1
  obtain ⟨c0, c1, c2, c3, c4⟩ := h1.cell
  have f2 := h1.cells.frozen 2
  go_upto_if 10 with fail
  go_cut [] (fun wx => ∃ b, Dx (fun y => y = x) wx (fun k => F k ∨ w.heap.size ≤ k) sb (some b) room fs lit left ∧ Cw wx w.heap.size [.slice fa f.zs.length fc, .int .i64 (f.l : Int)] 106 ∧ Ow wx 0 f.v f.zs ∧ Grows F w wx)
  case first =>
    cases mb with
    | some b =>
      go_wp2_with fail
      go_meet
      exact ⟨b, h1, hc1, ho1, HG1.out⟩
    | none =>
      have g2 : ∀ o, (W1.alloc o).cell? ⟨sb, 2, none⟩ = some (.map none) := fun o => by rw [(h1.cells.alloc o).cell]; rfl
      have g2f : ∀ o, (W1.alloc o).frozen? ⟨sb, 2, none⟩ = false := fun o => (h1.cells.alloc o).frozen 2
      go_wp2_with fail
      go_meet
      have hns : sb < W1.heap.size := h1.cells.lt
      refine ⟨W1.heap.size, h1.made (Or.inr (by rw [HS1.out]; omega)), (hc1.alloc _).keep (Below.heap_setCell _ _ _ _ ?_), ho1.keep fun k hk => ?_, ?_⟩
      · intro e
        have e' : w.heap.size = sb := e
        have := h1.cells
        rw [← e', Cw, hc1] at this; simp at this
      · rw [Below.heap_setCell _ _ _ _ (row_ne h1 ho1 hk).1, Below.heap_alloc _ _ _ (ho1.lt hk).1]
      · refine (HG1.out.trans (Grows.alloc F _ _) fun k hk => Or.inl hk).trans (Grows.setCell (F := fun k => F k ∨ w.heap.size ≤ k) _ _ _ h1.sF) fun k hk => hk
  case rest =>
    clear c0 c1 c2 c3 c4 f2 h1 hc1 ho1 HG1
    rename World => W2
    obtain ⟨b, h2, hc2, ho2, hG2⟩ := hcut
    obtain ⟨ao, cap, l, hf⟩ := at0_form h2 x
    have hlk := look_no h2.drew x hx
    rw [hf] at hlk
    have hfd := field67
    obtain ⟨c0, c1, c2, c3, c4⟩ := h2.cell
    have f1 := h2.cells.frozen 1
    have d0 : W2.cell? ⟨w.heap.size, 0, none⟩ = some (.slice fa f.zs.length fc) := by rw [hc2.cell]; rfl
    have d1 : W2.cell? ⟨w.heap.size, 1, none⟩ = some (.int .i64 (f.l : Int)) := by rw [hc2.cell]; rfl
    have HT := hid_into (tot_dl (x := x) hdf)
    have hsub : wrap64 ((tot fs : Int) + wrap64 ((f.zs.length : Int) - (ln fs x : Int))) = (tot (pt fs x f) : Int) := by
      have := HT.out; have := HR0.out; have := HFT.out
      rw [tot_pt]
      simp only [wrap64]; omega
    obtain ⟨W3, hup, h3, hG3⟩ := upd_run h2 hx ho2 hl hb (fun k hk => Or.inl (hF k hk)) hap hfit hcnt
    rw [HV.out] at hup
    have hne : w.heap.size ≠ sb := fun e => by have := h2.cells; rw [← e, Cw, hc2] at this; simp at this
    have e2 : (W2.setCell ⟨sb, 1, none⟩ (.int .i64 (tot (pt fs x f) : Int))).cell? ⟨sb, 2, none⟩ = some (.map (some b)) := by
      have : Cw (W2.setCell ⟨sb, 1, none⟩ (.int .i64 (tot (pt fs x f) : Int))) sb _ 88 := h2.cells.set 1 _
      rw [this.cell]; rfl
    have hc3 : Cw (W2.setCell ⟨sb, 1, none⟩ (.int .i64 (tot (pt fs x f) : Int))) w.heap.size [.slice fa f.zs.length fc, .int .i64 (f.l : Int)] 106 := hc2.keep (Below.heap_setCell _ _ _ _ hne)
    have e0 : (W2.setCell ⟨sb, 1, none⟩ (.int .i64 (tot (pt fs x f) : Int))).cell? ⟨w.heap.size, 0, none⟩ = some (.slice fa f.zs.length fc) := by rw [hc3.cell]; rfl
    have e1 : (W2.setCell ⟨sb, 1, none⟩ (.int .i64 (tot (pt fs x f) : Int))).cell? ⟨w.heap.size, 1, none⟩ = some (.int .i64 (f.l : Int)) := by rw [hc3.cell]; rfl
    replace hG2 := hid_into hG2
    replace hG3 := hid_into hG3
    clear hne
    go_wp2_with fail
    refine wp_region_still_tail 19 (by kernel_rfl) (by kernel_rfl) ?_
    simp only [List.take_succ_cons, List.take_zero, List.drop_succ_cons, List.drop_zero]
    change wpStill _ _ (World.drew _) _ _ _
    repeat still_step
    refine wpStill_nil ?_
    go_wp2_with fail
    refine wp_region_still_tail 6 (by kernel_rfl) (by kernel_rfl) ?_
    simp only [List.take_succ_cons, List.take_zero, List.drop_succ_cons, List.drop_zero]
    change wpStill _ _ (World.drew _) _ _ _
    repeat still_step
    refine wpStill_nil ?_
    change wpList _ _ _ _ _ (World.drew _)
    go_wp2_with fail
    go_end0
    exact ⟨rfl, some b, h3, hG2.out.trans hG3.out fun k hk => hk⟩
end Go.Proofs.YtnkjhooeklodcaaGreatDoor
end

section
/-
  disk's five as steps: sync, remove, by contracts.
-/
namespace Go.Proofs.YtnkjhooeklodcaaGreatDoor
open Go.RowKit Go.Maps
variable {w w' : World} {F : Nat → Prop} {sb : Nat} {mb : Option Nat} {room : Int} {fs : Fls} {lit : Bool} {left : Int}

theorem at0_form' (h : Dk w F sb mb room fs lit left) (x : Nm) : ∃ ao cap, (at0 fs x).v = .slice ao (at0 fs x).zs.length cap := by
  simp only [at0]
  cases hl : lk fs x with
  | none => exact ⟨none, 0, rfl⟩
  | some f =>
    obtain ⟨ao, cap, hv, _⟩ := (h.rows _ (lk_mem hl)).1.form
    exact ⟨ao, cap, hv⟩
def LookS (N sb : Nat) (mb : Option Nat) (x : Nm) (val : Value) (t : Bool) (W : World) : Prop :=
  W.cell? ⟨N, 0, none⟩ = some (.pointer (some ⟨sb, 0, none⟩)) ∧ W.cell? ⟨N, 1, none⟩ = some (encStr x) ∧ W.cell? ⟨sb, 2, none⟩ = some (.map mb) ∧
    (Instr.lookup 86 (.map mb) (encStr x) true).run Tryz.prog W = .ok (.tuple #[val, .bool t]) W
theorem LookS.of {N : Nat} {x : Nm} (h : Dk w F sb mb room fs lit left) (hx : x.length ≤ maxLen) {o p n : Value} (hc : Cw w N [.pointer (some ⟨sb, 0, none⟩), encStr x, o, p, n] 118) (hb : Below w.heap.size w w') :
    LookS N sb mb x (at0 fs x).val (lk fs x).isSome w' := by
  have h' : Dk w' F sb mb room fs lit left := h.keep fun k _ hk => hb.block k hk
  have hc' := hc.below hb hc.lt
  refine ⟨by rw [hc'.cell]; rfl, by rw [hc'.cell]; rfl, h'.cell.2.2.1, look_ok h' x hx⟩
def Pl (F : Nat → Prop) (n : Nat) : Nat → Prop := fun k => F k ∨ n ≤ k
theorem Dx.to (h : Dk w F sb mb room fs lit left) {w1 : World} (hb : Below w.heap.size w w1) : Dk w1 F sb mb room fs lit left := h.keep fun k _ hk => hb.block k hk
theorem Dx.pl (h : Dk w F sb mb room fs lit left) (n : Nat) : Dk w (Pl F n) sb mb room fs lit left := h.more fun _ hk _ => Or.inl hk
theorem Dx.plpl {n m : Nat} (h : Dk w (Pl (Pl F n) m) sb mb room fs lit left) (hn : n ≤ m) : Dk w (Pl F n) sb mb room fs lit left := h.more fun _ hk _ => by
  rcases hk with (h | h) | h
  · exact Or.inl h
  · exact Or.inr h
  · exact Or.inr (Nat.le_trans hn h)
theorem Grows.pl {F : Nat → Prop} {w w' w'' : World} (h : Grows F w w') (h' : Grows (Pl F w.heap.size) w' w'') : Grows F w w'' := h.trans h' fun _ hk => hk
theorem Dx.fits_same (h : Dk w F sb mb room fs lit left) {x : Nm} {f : Fl} (hl : lk fs x = some f) {n : Nat} (hn : n ≤ f.zs.length) : ((n + tot (dl fs x) : Nat) : Int) ≤ room := by
  have := tot_dl (x := x) h.diff
  have := h.fits
  simp only [ln, hl] at *
  omega
theorem Grows.bel {F : Nat → Prop} {w w' w'' : World} (h : Grows F w w') (hb : Below w'.heap.size w' w'') : Grows F w w'' := h.trans (Grows.of_below hb F fun k hk hk' => by omega) fun k hk => Or.inl hk
def syncF (fs : Fls) (x : Nm) : Fls := match lk fs x with | none => fs | some f => pt fs x ⟨f.v, f.zs, f.zs.length⟩
def none7 (fs : Fls) (x : Nm) : Int := if (lk fs x).isSome then 0 else 7
theorem own_apart (h : Dk w F sb mb room fs lit left) {x : Nm} {f : Fl} (hl : lk fs x = some f) : ∀ p ∈ fs, p.1 ≠ x → f.v.ownBlock = none ∨ f.v.ownBlock ≠ p.2.v.ownBlock := fun p hp hne => h.apart _ (lk_mem hl) p hp (Ne.symm hne)
set_option maxRecDepth 20000 in
set_option maxHeartbeats 1600000 in
theorem sync_any (h : Dk w F sb mb room fs lit left) (x : Nm) (hx : x.length ≤ maxLen) (o p n : Value) :
    Calls Tryz.prog 84 #[.agg #[.pointer (some ⟨sb, 0, none⟩), encStr x, o, p, n]] w fun e w' => e = .returned (.int .i64 (none7 fs x)) ∧ ∃ mb', Dk w' (Pl F w.heap.size) sb mb' room (syncF fs x) lit left ∧ Grows F w w' := by
  obtain ⟨ao, cap, hf⟩ := at0_form' h x
  go_enter Tryz.func84, Tryz.ntmps84
  refine wp_seq (wp_region_lit (wpList_box_row rfl 118 (.tmp 0) rfl [.pointer (some ⟨sb, 0, none⟩), encStr x, o, p, n] rfl ?_))
  intro W1 hc1 B1 HS1
  have h1 : Dk W1 (Pl F w.heap.size) sb mb room fs lit left := (h.to B1).pl _
  have HLS : Hid (∀ W, Below W1.heap.size W1 W → LookS w.heap.size sb mb x (.agg #[.slice ao (at0 fs x).zs.length cap, .int .i64 ((at0 fs x).l : Int)]) (lk fs x).isSome W) := fun W hW => by
    have := LookS.of h1 hx hc1 hW
    rw [Fl.val, hf] at this
    exact this
  have hz67 := zero67
  go_upto_region 1 with fail
  go_cut [3, 4] (fun pv tv wx => pv = .pointer (some ⟨W1.heap.size, 0, none⟩) ∧ tv = .bool (lk fs x).isSome ∧ Cw wx W1.heap.size [.slice ao (at0 fs x).zs.length cap, .int .i64 ((at0 fs x).l : Int)] 106 ∧ Below W1.heap.size W1 wx)
  case first =>
    go_region_held3 (fun W => W.cell? ⟨w.heap.size, 0, none⟩ = some (.pointer (some ⟨sb, 0, none⟩)) ∧ W.cell? ⟨w.heap.size, 1, none⟩ = some (encStr x) ∧ W.cell? ⟨sb, 2, none⟩ = some (.map mb) ∧
      (Instr.lookup 86 (.map mb) (encStr x) true).run Tryz.prog W = .ok (.tuple #[.agg #[.slice ao (at0 fs x).zs.length cap, .int .i64 ((at0 fs x).l : Int)], .bool (lk fs x).isSome]) W)
      (first | exact HLS.out _ (Below.refl _ _).drew | exact HLS.out _ ((Below.refl _ _).drew.alloc (Nat.le_refl _) _))
      (fail)
    all_goals
      go_wp2_with fail
      go_meet
      exact ⟨rfl, rfl, Cw.new _ _ _, ((Below.refl _ _).alloc (Nat.le_refl _) _).drew⟩
  case rest =>
    rename World => W2
    obtain ⟨rfl, rfl, hc2, B2⟩ := hcut
    have hc12 := hc1.below B2 hc1.lt
    have h2 := h1.to B2
    have d0 : W2.cell? ⟨w.heap.size, 0, none⟩ = some (.pointer (some ⟨sb, 0, none⟩)) := by rw [hc12.cell]; rfl
    have d1 : W2.cell? ⟨w.heap.size, 1, none⟩ = some (encStr x) := by rw [hc12.cell]; rfl
    have g0 : W2.cell? ⟨W1.heap.size, 0, none⟩ = some (.slice ao (at0 fs x).zs.length cap) := by rw [hc2.cell]; rfl
    have g1f := hc2.frozen 1
    have g1 : W2.cell? ⟨W1.heap.size, 1, none⟩ = some (.int .i64 ((at0 fs x).l : Int)) := by rw [hc2.cell]; rfl
    have HG2 : Hid (Grows F w W2) := ((Grows.refl F w).bel B1).bel B2
    have hlt := hc1.lt
    have hlt2 := h1.cells.lt
    clear HLS hz67 h hc1 B1
    cases hl : lk fs x with
    | none =>
      go_wp2_with fail
      go_ret
      exact ⟨by simp [none7, hl], mb, by simp only [syncF, hl]; exact h2, HG2.out⟩
    | some f =>
      have hat : at0 fs x = f := by simp only [at0, hl]
      rw [hat] at hf hc2 g0 g1
      have hc12' : ∀ v, Cw (W2.setCell ⟨W1.heap.size, 1, none⟩ v) w.heap.size [.pointer (some ⟨sb, 0, none⟩), encStr x, o, p, n] 118 := fun v => hc12.keep (Below.heap_setCell _ _ _ _ (by show w.heap.size ≠ W1.heap.size; omega))
      have hc3 : Cw (W2.setCell ⟨W1.heap.size, 1, none⟩ (.int .i64 (f.zs.length : Int))) W1.heap.size [.slice ao f.zs.length cap, .int .i64 (f.zs.length : Int)] 106 := hc2.set 1 _
      have d0' : ∀ v, (W2.setCell ⟨W1.heap.size, 1, none⟩ v).cell? ⟨w.heap.size, 0, none⟩ = some (.pointer (some ⟨sb, 0, none⟩)) := fun v => by rw [(hc12' v).cell]; rfl
      have d1' : ∀ v, (W2.setCell ⟨W1.heap.size, 1, none⟩ v).cell? ⟨w.heap.size, 1, none⟩ = some (encStr x) := fun v => by rw [(hc12' v).cell]; rfl
      have g0' : (W2.setCell ⟨W1.heap.size, 1, none⟩ (.int .i64 (f.zs.length : Int))).cell? ⟨W1.heap.size, 0, none⟩ = some (.slice ao f.zs.length cap) := by rw [hc3.cell]; rfl
      have g1' : (W2.setCell ⟨W1.heap.size, 1, none⟩ (.int .i64 (f.zs.length : Int))).cell? ⟨W1.heap.size, 1, none⟩ = some (.int .i64 (f.zs.length : Int)) := by rw [hc3.cell]; rfl
      have B3 := B2.setCell (p := ⟨W1.heap.size, 1, none⟩) (Nat.le_refl _) (.int .i64 (f.zs.length : Int))
      have h3 := h1.to B3
      have HG3 : Hid (Grows F w (W2.setCell ⟨W1.heap.size, 1, none⟩ (.int .i64 (f.zs.length : Int)))) := HG2.out.pl (Grows.setCell _ _ _ (Or.inr (Nat.le_of_lt hlt)))
      obtain ⟨r1, r2, r3, r4⟩ := h3.rows _ (lk_mem hl)
      have hp := put_any (f := ⟨f.v, f.zs, f.zs.length⟩) (h3.ex _) hx r1 (Nat.le_refl _) r3 r4 (own_apart (f := f) h3 hl) (h3.fits_same hl (Nat.le_refl _)) (Nat.le_trans (len_pt_of hl) h3.cnt)
      simp only [Fl.val, hf] at hp
      go_wp2_with fail
      refine hp.mono ?_
      rintro e W4 ⟨rfl, mb', h4, hG4⟩
      have HG4 : Hid (Grows F w W4) := HG3.out.pl hG4
      clear hG4
      go_wp2_with fail
      go_ret
      exact ⟨by simp [none7, hl], mb', by simp only [syncF, hl]; rw [hf]; exact h4.plpl (Nat.le_trans (Nat.le_of_lt hlt) B3.size), HG4.out⟩
set_option maxRecDepth 20000 in
set_option maxHeartbeats 1600000 in
theorem remove_any (h : Dk w F sb mb room fs lit left) (x : Nm) (hx : x.length ≤ maxLen) (o p n : Value) :
    Calls Tryz.prog 131 #[.agg #[.pointer (some ⟨sb, 0, none⟩), encStr x, o, p, n]] w fun e w' => e = .returned (.int .i64 (none7 fs x)) ∧ ∃ mb', Dk w' (Pl F w.heap.size) sb mb' room (dl fs x) lit left ∧ Grows F w w' := by
  obtain ⟨ao, cap, hf⟩ := at0_form' h x
  go_enter Tryz.func131, Tryz.ntmps131
  refine wp_seq (wp_region_lit (wpList_box_row rfl 118 (.tmp 0) rfl [.pointer (some ⟨sb, 0, none⟩), encStr x, o, p, n] rfl ?_))
  intro W1 hc1 B1 HS1
  have h1 : Dk W1 (Pl F w.heap.size) sb mb room fs lit left := (h.to B1).pl _
  have HLS : Hid (∀ W, Below W1.heap.size W1 W → LookS w.heap.size sb mb x (.agg #[.slice ao (at0 fs x).zs.length cap, .int .i64 ((at0 fs x).l : Int)]) (lk fs x).isSome W) := fun W hW => by
    have := LookS.of h1 hx hc1 hW
    rw [Fl.val, hf] at this
    exact this
  have hz67 := zero67
  go_upto_region 1 with fail
  go_cut [3, 4] (fun pv tv wx => pv = .pointer (some ⟨W1.heap.size, 0, none⟩) ∧ tv = .bool (lk fs x).isSome ∧ Cw wx W1.heap.size [.slice ao (at0 fs x).zs.length cap, .int .i64 ((at0 fs x).l : Int)] 106 ∧ Below W1.heap.size W1 wx)
  case first =>
    go_region_held3 (fun W => W.cell? ⟨w.heap.size, 0, none⟩ = some (.pointer (some ⟨sb, 0, none⟩)) ∧ W.cell? ⟨w.heap.size, 1, none⟩ = some (encStr x) ∧ W.cell? ⟨sb, 2, none⟩ = some (.map mb) ∧
      (Instr.lookup 86 (.map mb) (encStr x) true).run Tryz.prog W = .ok (.tuple #[.agg #[.slice ao (at0 fs x).zs.length cap, .int .i64 ((at0 fs x).l : Int)], .bool (lk fs x).isSome]) W)
      (first | exact HLS.out _ (Below.refl _ _).drew | exact HLS.out _ ((Below.refl _ _).drew.alloc (Nat.le_refl _) _))
      (fail)
    all_goals
      go_wp2_with fail
      go_meet
      exact ⟨rfl, rfl, Cw.new _ _ _, ((Below.refl _ _).alloc (Nat.le_refl _) _).drew⟩
  case rest =>
    rename World => W2
    obtain ⟨rfl, rfl, hc2, B2⟩ := hcut
    have hc12 := hc1.below B2 hc1.lt
    have h2 := h1.to B2
    have d0 : W2.cell? ⟨w.heap.size, 0, none⟩ = some (.pointer (some ⟨sb, 0, none⟩)) := by rw [hc12.cell]; rfl
    have d1 : W2.cell? ⟨w.heap.size, 1, none⟩ = some (encStr x) := by rw [hc12.cell]; rfl
    have d2 : W2.cell? ⟨w.heap.size, 2, none⟩ = some o := by rw [hc12.cell]; rfl
    have d3 : W2.cell? ⟨w.heap.size, 3, none⟩ = some p := by rw [hc12.cell]; rfl
    have d4 : W2.cell? ⟨w.heap.size, 4, none⟩ = some n := by rw [hc12.cell]; rfl
    have g0 : W2.cell? ⟨W1.heap.size, 0, none⟩ = some (.slice ao (at0 fs x).zs.length cap) := by rw [hc2.cell]; rfl
    have g1 : W2.cell? ⟨W1.heap.size, 1, none⟩ = some (.int .i64 ((at0 fs x).l : Int)) := by rw [hc2.cell]; rfl
    have HG2 : Hid (Grows F w W2) := ((Grows.refl F w).bel B1).bel B2
    have hlt := hc1.lt
    clear HLS hz67 h hc1 B1
    cases hl : lk fs x with
    | none =>
      go_wp2_with fail
      go_ret
      exact ⟨by simp [none7, hl], mb, by rw [dl_of_none (lk_none hl)]; exact h2, HG2.out⟩
    | some f =>
      have hp := drop_any h2 x hx
      go_wp2_with fail
      refine hp.mono ?_
      rintro e W4 ⟨rfl, h4, hG4, _⟩
      have HG4 : Hid (Grows F w W4) := HG2.out.pl hG4
      clear hG4
      go_wp2_with fail
      go_ret
      exact ⟨by simp [none7, hl], mb, h4, HG4.out⟩
def renF (fs : Fls) (x y : Nm) : Fls := match lk fs x with | none => fs | some f => pt (dl fs x) y f
theorem tot_dl_le (fs : Fls) (y : Nm) : tot (dl fs y) ≤ tot fs := by
  induction fs with
  | nil => exact Nat.le_refl _
  | cons p r ih =>
    rw [dl_cons, tot_cons]
    split
    · omega
    · rw [tot_cons]; omega
theorem len_dl_lt {x : Nm} {f : Fl} (h : lk fs x = some f) : (dl fs x).length + 1 ≤ fs.length := by
  have := len_pt_of (f := f) h
  rw [(pt_perm fs x f).length_eq, List.length_cons] at this
  exact this
end Go.Proofs.YtnkjhooeklodcaaGreatDoor
end

section
/-
  disk's five as steps: cut, write, by contracts.
-/
namespace Go.Proofs.YtnkjhooeklodcaaGreatDoor
open Go.RowKit Go.Maps
variable {w w' : World} {F : Nat → Prop} {sb : Nat} {mb : Option Nat} {room : Int} {fs : Fls} {lit : Bool} {left : Int}

def Res (F : Nat → Prop) (sb : Nat) (room : Int) (fs : Fls) (lit : Bool) (left : Int) (w w' : World) : Prop := ∃ mb', Dk w' (Pl F w.heap.size) sb mb' room fs lit left ∧ Grows F w w'
theorem Ow.cut {v : Value} {zs : List Int} {ao : Option Addr} {cap : Nat} (h : Ow w 0 v zs) (hv : v = .slice ao zs.length cap) (m : Nat) (hm : m ≤ zs.length) : Ow w 0 (.slice ao m cap) (zs.take m) := by
  have hl : (zs.take m).length = m := by simp [hm]
  refine ⟨by rw [hl]; simp [cellsOf, hm], ?_⟩
  rw [hl]
  rcases h.2 with ⟨h1, h2⟩ | ⟨g, c, cur, h1, h2, h3, h4, h5, h6, h7⟩
  · rw [h1] at hv
    simp only [Value.slice.injEq] at hv
    obtain ⟨rfl, _, rfl⟩ := hv
    exact Or.inl ⟨by rw [show m = 0 by omega], by omega⟩
  · rw [h1] at hv
    simp only [Value.slice.injEq] at hv
    obtain ⟨rfl, _, rfl⟩ := hv
    refine Or.inr ⟨g, c, cur, rfl, h2, h3, by omega, h5, h6, ?_⟩
    have := congrArg (List.take m) h7
    simp only [Nat.mul_one, List.take_take] at this ⊢
    rw [Nat.min_eq_left hm] at this
    rw [this]
    simp [cellsOf, List.map_take]
theorem Ow.cap_ge {v : Value} {zs : List Int} {ao : Option Addr} {cap : Nat} (h : Ow w 0 v zs) (hv : v = .slice ao zs.length cap) : zs.length ≤ cap := by
  rcases h.2 with ⟨h1, h2⟩ | ⟨g, c, cur, h1, h2, h3, h4, _⟩
  · rw [h1] at hv
    simp only [Value.slice.injEq] at hv
    omega
  · rw [h1] at hv
    simp only [Value.slice.injEq] at hv
    omega
theorem Byt.take {zs : List Int} (h : Byt zs) (m : Nat) : Byt (zs.take m) := fun z hz => h z (List.mem_of_mem_take hz)
theorem own_len (ao : Option Addr) (a b c : Nat) : (Value.slice ao a c).ownBlock = (Value.slice ao b c).ownBlock := by cases ao <;> rfl
def cutE (fs : Fls) (x : Nm) (n : Int) : Int := match lk fs x with | none => 7 | some f => if n < 0 ∨ (f.zs.length : Int) < n then 1 else 0
def cutV (f : Fl) (n : Nat) : Fl := ⟨match f.v with | .slice ao _ cap => .slice ao n cap | v => v, f.zs.take n, min f.l n⟩
def cutF (fs : Fls) (x : Nm) (n : Int) : Fls := match lk fs x with | none => fs | some f => if n < 0 ∨ (f.zs.length : Int) < n then fs else pt fs x (cutV f n.toNat)
set_option maxRecDepth 20000 in
set_option maxHeartbeats 1600000 in
theorem cut_any (h : Dk w F sb mb room fs lit left) (x : Nm) (hx : x.length ≤ maxLen) (o p : Value) (m : Int) (hm : (Lit.int .i64 m).wf = true) :
    Calls Tryz.prog 73 #[.agg #[.pointer (some ⟨sb, 0, none⟩), encStr x, o, p, .int .i64 m]] w fun e w' => e = .returned (.int .i64 (cutE fs x m)) ∧ Res F sb room (cutF fs x m) lit left w w' := by
  obtain ⟨ao, cap, hf⟩ := at0_form' h x
  obtain ⟨n, hn⟩ : ∃ n, n = Value.int .i64 m := ⟨_, rfl⟩
  rw [← hn]
  go_enter Tryz.func73, Tryz.ntmps73
  refine wp_seq (wp_region_lit (wpList_box_row rfl 118 (.tmp 0) rfl [.pointer (some ⟨sb, 0, none⟩), encStr x, o, p, n] rfl ?_))
  intro W1 hc1 B1 HS1
  have h1 : Dk W1 (Pl F w.heap.size) sb mb room fs lit left := (h.to B1).pl _
  have HLS : Hid (∀ W, Below W1.heap.size W1 W → LookS w.heap.size sb mb x (.agg #[.slice ao (at0 fs x).zs.length cap, .int .i64 ((at0 fs x).l : Int)]) (lk fs x).isSome W) := fun W hW => by
    have := LookS.of h1 hx hc1 hW
    rw [Fl.val, hf] at this
    exact this
  have hz67 := zero67
  go_upto_region 1 with fail
  go_cut [3, 4] (fun pv tv wx => pv = .pointer (some ⟨W1.heap.size, 0, none⟩) ∧ tv = .bool (lk fs x).isSome ∧ Cw wx W1.heap.size [.slice ao (at0 fs x).zs.length cap, .int .i64 ((at0 fs x).l : Int)] 106 ∧ Below W1.heap.size W1 wx)
  case first =>
    go_region_held3 (fun W => W.cell? ⟨w.heap.size, 0, none⟩ = some (.pointer (some ⟨sb, 0, none⟩)) ∧ W.cell? ⟨w.heap.size, 1, none⟩ = some (encStr x) ∧ W.cell? ⟨sb, 2, none⟩ = some (.map mb) ∧
      (Instr.lookup 86 (.map mb) (encStr x) true).run Tryz.prog W = .ok (.tuple #[.agg #[.slice ao (at0 fs x).zs.length cap, .int .i64 ((at0 fs x).l : Int)], .bool (lk fs x).isSome]) W)
      (first | exact HLS.out _ (Below.refl _ _).drew | exact HLS.out _ ((Below.refl _ _).drew.alloc (Nat.le_refl _) _))
      (fail)
    all_goals
      go_wp2_with fail
      go_meet
      exact ⟨rfl, rfl, Cw.new _ _ _, ((Below.refl _ _).alloc (Nat.le_refl _) _).drew⟩
  case rest =>
    rename World => W2
    obtain ⟨rfl, rfl, hc2, B2⟩ := hcut
    have hc12 := hc1.below B2 hc1.lt
    have h2 := h1.to B2
    have d0 : W2.cell? ⟨w.heap.size, 0, none⟩ = some (.pointer (some ⟨sb, 0, none⟩)) := by rw [hc12.cell]; rfl
    have d1 : W2.cell? ⟨w.heap.size, 1, none⟩ = some (encStr x) := by rw [hc12.cell]; rfl
    have d2 : W2.cell? ⟨w.heap.size, 2, none⟩ = some o := by rw [hc12.cell]; rfl
    have d3 : W2.cell? ⟨w.heap.size, 3, none⟩ = some p := by rw [hc12.cell]; rfl
    have d4 : W2.cell? ⟨w.heap.size, 4, none⟩ = some n := by rw [hc12.cell]; rfl
    have g0 : W2.cell? ⟨W1.heap.size, 0, none⟩ = some (.slice ao (at0 fs x).zs.length cap) := by rw [hc2.cell]; rfl
    have g1 : W2.cell? ⟨W1.heap.size, 1, none⟩ = some (.int .i64 ((at0 fs x).l : Int)) := by rw [hc2.cell]; rfl
    have HG2 : Hid (Grows F w W2) := ((Grows.refl F w).bel B1).bel B2
    have hlt := hc1.lt
    subst hn
    clear HLS hz67 h hc1 B1
    cases hl : lk fs x with
    | none =>
      go_wp2_with fail
      go_ret
      exact ⟨by simp [cutE, hl], mb, by simp only [cutF, hl]; exact h2, HG2.out⟩
    | some f =>
      have hat : at0 fs x = f := by simp only [at0, hl]
      rw [hat] at hf hc2 g0 g1
      by_cases hm0 : m < 0
      · go_wp2_with fail
        go_ret
        exact ⟨by simp [cutE, hl, hm0], mb, by simp only [cutF, hl, hm0, true_or, if_true]; exact h2, HG2.out⟩
      · by_cases hm1 : (f.zs.length : Int) < m
        · go_wp2_with fail
          go_ret
          exact ⟨by simp [cutE, hl, hm1], mb, by simp only [cutF, hl, hm1, or_true, if_true]; exact h2, HG2.out⟩
        · obtain ⟨k, rfl⟩ := Int.eq_ofNat_of_zero_le (by omega : 0 ≤ m)
          obtain ⟨r1, r2, r3, r4⟩ := h2.rows _ (lk_mem hl)
          have hk : k ≤ f.zs.length := by omega
          have hkc : k ≤ cap := Nat.le_trans hk (r1.cap_ge hf)
          have hcv : cutV f k = ⟨.slice ao k cap, f.zs.take k, min f.l k⟩ := by simp only [cutV, hf]
          have hp := put_any (f := ⟨.slice ao k cap, f.zs.take k, min f.l k⟩) (x := x) ((h2.to (Below.refl _ _).drew).ex _) hx ((r1.cut hf k hk).keep fun _ _ => rfl) (by simp; omega) (r3.take k) (fun j hj => r4 j (by rw [hf, own_len ao _ k cap]; exact hj)) (fun q hq hne => by have := own_apart (f := f) h2 hl q hq hne; rw [hf, own_len ao _ k cap] at this; exact this) (h2.fits_same hl (by simp; omega)) (Nat.le_trans (len_pt_of hl) h2.cnt)
          simp only [Fl.val] at hp
          have hmin : ((min f.l k : Nat) : Int) = min (f.l : Int) (k : Int) := by omega
          rw [hmin] at hp
          have HCV := hid_into hcv
          have HPP := hid_into hp
          have HSZ : Hid (w.heap.size ≤ W2.heap.size) := Nat.le_trans (Nat.le_of_lt hlt) B2.size
          clear hp hcv r1 r2 r3 r4 h2
          go_wp2_with fail
          refine wp_region_still_tail 15 (by kernel_rfl) (by kernel_rfl) ?_
          simp only [List.take_succ_cons, List.take_zero, List.drop_succ_cons, List.drop_zero]
          change wpStill _ _ (World.drew _) _ _ _
          repeat still_step
          refine wpStill_nil ?_
          change wpList _ _ _ _ _ (World.drew _)
          go_wp2_with fail
          refine HPP.out.mono ?_
          rintro e W4 ⟨rfl, mb', h4, hG4⟩
          have HG4 : Hid (Grows F w W4) := HG2.out.pl ((Grows.drew _ _).trans hG4 fun _ hk => Or.inl hk)
          clear hG4
          go_wp2_with fail
          go_ret
          have e7 : cutE fs x (k : Int) = 0 := by simp only [cutE, hl]; exact if_neg (by omega)
          refine ⟨by simp [e7], mb', ?_, HG4.out⟩
          have e : cutF fs x (k : Int) = pt fs x ⟨.slice ao k cap, f.zs.take k, min f.l k⟩ := by
            simp only [cutF, hl]
            rw [if_neg (by omega), ← HCV.out]
            rfl
          rw [e]
          exact h4.plpl HSZ.out
end Go.Proofs.YtnkjhooeklodcaaGreatDoor
end
