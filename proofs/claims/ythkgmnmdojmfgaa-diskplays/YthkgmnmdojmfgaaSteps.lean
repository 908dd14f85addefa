/-
  disk's five as steps: sync, remove, by contracts.
-/
import Derived.Test.YthkgmnmdojmfgaaPut
namespace Go.Proofs.Ythkgmnmdojmfgaa
open Go.RowKit Go.Maps
variable {w w' : World} {F : Nat → Prop} {sb : Nat} {mb : Option Nat} {room : Int} {fs : Fls} {lit : Bool} {left : Int}

theorem at0_form' (h : Dk w F sb mb room fs lit left) (x : Nm) : ∃ ao cap, (at0 fs x).v = .slice ao (at0 fs x).zs.length cap := by
  simp only [at0]
  cases hl : lk fs x with
  | none => exact ⟨none, 0, rfl⟩
  | some f =>
    obtain ⟨ao, cap, hv, _⟩ := (h.rows _ (lk_mem hl)).1.form
    exact ⟨ao, cap, hv⟩
/-- What a look-up of a step reads. -/
def LookS (N sb : Nat) (mb : Option Nat) (x : Nm) (val : Value) (t : Bool) (W : World) : Prop :=
  W.cell? ⟨N, 0, none⟩ = some (.pointer (some ⟨sb, 0, none⟩)) ∧ W.cell? ⟨N, 1, none⟩ = some (encStr x) ∧ W.cell? ⟨sb, 2, none⟩ = some (.map mb) ∧
    (Instr.lookup 58 (.map mb) (encStr x) true).run Try.prog W = .ok (.tuple #[val, .bool t]) W
theorem LookS.of {N : Nat} {x : Nm} (h : Dk w F sb mb room fs lit left) (hx : x.length ≤ maxLen) {o p n : Value} (hc : Cw w N [.pointer (some ⟨sb, 0, none⟩), encStr x, o, p, n] 75) (hb : Below w.heap.size w w') :
    LookS N sb mb x (at0 fs x).val (lk fs x).isSome w' := by
  have h' : Dk w' F sb mb room fs lit left := h.keep fun k _ hk => hb.block k hk
  have hc' := hc.below hb hc.lt
  refine ⟨by rw [hc'.cell]; rfl, by rw [hc'.cell]; rfl, h'.cell.2.2.1, look_ok h' x hx⟩
def Pl (F : Nat → Prop) (n : Nat) : Nat → Prop := fun k => F k ∨ n ≤ k
theorem Dx.to (h : Dk w F sb mb room fs lit left) {w1 : World} (hb : Below w.heap.size w w1) : Dk w1 F sb mb room fs lit left := h.keep fun k _ hk => hb.block k hk
theorem Dx.pl (h : Dk w F sb mb room fs lit left) (n : Nat) : Dk w (Pl F n) sb mb room fs lit left := h.more fun _ hk _ => Or.inl hk
theorem Dx.plpl {n m : Nat} (h : Dk w (Pl (Pl F n) m) sb mb room fs lit left) (hn : n ≤ m) : Dk w (Pl F n) sb mb room fs lit left := h.more fun _ hk _ => by
  rcases hk with (h | h) | h
  · exact Or.inl h
  · exact Or.inr h
  · exact Or.inr (Nat.le_trans hn h)
theorem Grows.pl {F : Nat → Prop} {w w' w'' : World} (h : Grows F w w') (h' : Grows (Pl F w.heap.size) w' w'') : Grows F w w'' := h.trans h' fun _ hk => hk
theorem Dx.fits_same (h : Dk w F sb mb room fs lit left) {x : Nm} {f : Fl} (hl : lk fs x = some f) {n : Nat} (hn : n ≤ f.zs.length) : ((n + tot (dl fs x) : Nat) : Int) ≤ room := by
  have := tot_dl (x := x) h.diff
  have := h.fits
  simp only [ln, hl] at *
  omega
theorem Grows.bel {F : Nat → Prop} {w w' w'' : World} (h : Grows F w w') (hb : Below w'.heap.size w' w'') : Grows F w w'' := h.trans (Grows.of_below hb F fun k hk hk' => by omega) fun k hk => Or.inl hk
/-- The files behind Sync. -/
def syncF (fs : Fls) (x : Nm) : Fls := match lk fs x with | none => fs | some f => pt fs x ⟨f.v, f.zs, f.zs.length⟩
def none7 (fs : Fls) (x : Nm) : Int := if (lk fs x).isSome then 0 else 7
theorem own_apart (h : Dk w F sb mb room fs lit left) {x : Nm} {f : Fl} (hl : lk fs x = some f) : ∀ p ∈ fs, p.1 ≠ x → f.v.ownBlock = none ∨ f.v.ownBlock ≠ p.2.v.ownBlock := fun p hp hne => h.apart _ (lk_mem hl) p hp (Ne.symm hne)
set_option maxRecDepth 20000 in
set_option maxHeartbeats 1600000 in
theorem sync_any (h : Dk w F sb mb room fs lit left) (x : Nm) (hx : x.length ≤ maxLen) (o p n : Value) :
    Calls Try.prog 47 #[.agg #[.pointer (some ⟨sb, 0, none⟩), encStr x, o, p, n]] w fun e w' => e = .returned (.int .i64 (none7 fs x)) ∧ ∃ mb', Dk w' (Pl F w.heap.size) sb mb' room (syncF fs x) lit left ∧ Grows F w w' := by
  obtain ⟨ao, cap, hf⟩ := at0_form' h x
  go_enter Try.func47, Try.ntmps47
  refine wp_seq (wp_region_lit (wpList_box_row rfl 75 (.tmp 0) rfl [.pointer (some ⟨sb, 0, none⟩), encStr x, o, p, n] rfl ?_))
  intro W1 hc1 B1 HS1
  have h1 : Dk W1 (Pl F w.heap.size) sb mb room fs lit left := (h.to B1).pl _
  have HLS : Hid (∀ W, Below W1.heap.size W1 W → LookS w.heap.size sb mb x (.agg #[.slice ao (at0 fs x).zs.length cap, .int .i64 ((at0 fs x).l : Int)]) (lk fs x).isSome W) := fun W hW => by
    have := LookS.of h1 hx hc1 hW
    rw [Fl.val, hf] at this
    exact this
  have hz67 := zero67
  go_upto_region 1 with fail
  go_cut [3, 4] (fun pv tv wx => pv = .pointer (some ⟨W1.heap.size, 0, none⟩) ∧ tv = .bool (lk fs x).isSome ∧ Cw wx W1.heap.size [.slice ao (at0 fs x).zs.length cap, .int .i64 ((at0 fs x).l : Int)] 67 ∧ Below W1.heap.size W1 wx)
  case first =>
    go_region_held3 (fun W => W.cell? ⟨w.heap.size, 0, none⟩ = some (.pointer (some ⟨sb, 0, none⟩)) ∧ W.cell? ⟨w.heap.size, 1, none⟩ = some (encStr x) ∧ W.cell? ⟨sb, 2, none⟩ = some (.map mb) ∧
      (Instr.lookup 58 (.map mb) (encStr x) true).run Try.prog W = .ok (.tuple #[.agg #[.slice ao (at0 fs x).zs.length cap, .int .i64 ((at0 fs x).l : Int)], .bool (lk fs x).isSome]) W)
      (first | exact HLS.out _ (Below.refl _ _).drew | exact HLS.out _ ((Below.refl _ _).drew.alloc (Nat.le_refl _) _))
      (fail)
    all_goals
      go_wp2_with fail
      go_meet
      exact ⟨rfl, rfl, Cw.new _ _ _, ((Below.refl _ _).alloc (Nat.le_refl _) _).drew⟩
  case rest =>
    rename World => W2
    obtain ⟨rfl, rfl, hc2, B2⟩ := hcut
    have hc12 := hc1.below B2 hc1.lt
    have h2 := h1.to B2
    have d0 : W2.cell? ⟨w.heap.size, 0, none⟩ = some (.pointer (some ⟨sb, 0, none⟩)) := by rw [hc12.cell]; rfl
    have d1 : W2.cell? ⟨w.heap.size, 1, none⟩ = some (encStr x) := by rw [hc12.cell]; rfl
    have g0 : W2.cell? ⟨W1.heap.size, 0, none⟩ = some (.slice ao (at0 fs x).zs.length cap) := by rw [hc2.cell]; rfl
    have g1f := hc2.frozen 1
    have g1 : W2.cell? ⟨W1.heap.size, 1, none⟩ = some (.int .i64 ((at0 fs x).l : Int)) := by rw [hc2.cell]; rfl
    have HG2 : Hid (Grows F w W2) := ((Grows.refl F w).bel B1).bel B2
    have hlt := hc1.lt
    have hlt2 := h1.cells.lt
    clear HLS hz67 h hc1 B1
    cases hl : lk fs x with
    | none =>
      go_wp2_with fail
      go_ret
      exact ⟨by simp [none7, hl], mb, by simp only [syncF, hl]; exact h2, HG2.out⟩
    | some f =>
      have hat : at0 fs x = f := by simp only [at0, hl]
      rw [hat] at hf hc2 g0 g1
      have hc12' : ∀ v, Cw (W2.setCell ⟨W1.heap.size, 1, none⟩ v) w.heap.size [.pointer (some ⟨sb, 0, none⟩), encStr x, o, p, n] 75 := fun v => hc12.keep (Below.heap_setCell _ _ _ _ (by show w.heap.size ≠ W1.heap.size; omega))
      have hc3 : Cw (W2.setCell ⟨W1.heap.size, 1, none⟩ (.int .i64 (f.zs.length : Int))) W1.heap.size [.slice ao f.zs.length cap, .int .i64 (f.zs.length : Int)] 67 := hc2.set 1 _
      have d0' : ∀ v, (W2.setCell ⟨W1.heap.size, 1, none⟩ v).cell? ⟨w.heap.size, 0, none⟩ = some (.pointer (some ⟨sb, 0, none⟩)) := fun v => by rw [(hc12' v).cell]; rfl
      have d1' : ∀ v, (W2.setCell ⟨W1.heap.size, 1, none⟩ v).cell? ⟨w.heap.size, 1, none⟩ = some (encStr x) := fun v => by rw [(hc12' v).cell]; rfl
      have g0' : (W2.setCell ⟨W1.heap.size, 1, none⟩ (.int .i64 (f.zs.length : Int))).cell? ⟨W1.heap.size, 0, none⟩ = some (.slice ao f.zs.length cap) := by rw [hc3.cell]; rfl
      have g1' : (W2.setCell ⟨W1.heap.size, 1, none⟩ (.int .i64 (f.zs.length : Int))).cell? ⟨W1.heap.size, 1, none⟩ = some (.int .i64 (f.zs.length : Int)) := by rw [hc3.cell]; rfl
      have B3 := B2.setCell (p := ⟨W1.heap.size, 1, none⟩) (Nat.le_refl _) (.int .i64 (f.zs.length : Int))
      have h3 := h1.to B3
      have HG3 : Hid (Grows F w (W2.setCell ⟨W1.heap.size, 1, none⟩ (.int .i64 (f.zs.length : Int)))) := HG2.out.pl (Grows.setCell _ _ _ (Or.inr (Nat.le_of_lt hlt)))
      obtain ⟨r1, r2, r3, r4⟩ := h3.rows _ (lk_mem hl)
      have hp := put_any (f := ⟨f.v, f.zs, f.zs.length⟩) (h3.ex _) hx r1 (Nat.le_refl _) r3 r4 (own_apart (f := f) h3 hl) (h3.fits_same hl (Nat.le_refl _)) (Nat.le_trans (len_pt_of hl) h3.cnt)
      simp only [Fl.val, hf] at hp
      go_wp2_with fail
      refine hp.mono ?_
      rintro e W4 ⟨rfl, mb', h4, hG4⟩
      have HG4 : Hid (Grows F w W4) := HG3.out.pl hG4
      clear hG4
      go_wp2_with fail
      go_ret
      exact ⟨by simp [none7, hl], mb', by simp only [syncF, hl]; rw [hf]; exact h4.plpl (Nat.le_trans (Nat.le_of_lt hlt) B3.size), HG4.out⟩
set_option maxRecDepth 20000 in
set_option maxHeartbeats 1600000 in
theorem remove_any (h : Dk w F sb mb room fs lit left) (x : Nm) (hx : x.length ≤ maxLen) (o p n : Value) :
    Calls Try.prog 48 #[.agg #[.pointer (some ⟨sb, 0, none⟩), encStr x, o, p, n]] w fun e w' => e = .returned (.int .i64 (none7 fs x)) ∧ ∃ mb', Dk w' (Pl F w.heap.size) sb mb' room (dl fs x) lit left ∧ Grows F w w' := by
  obtain ⟨ao, cap, hf⟩ := at0_form' h x
  go_enter Try.func48, Try.ntmps48
  refine wp_seq (wp_region_lit (wpList_box_row rfl 75 (.tmp 0) rfl [.pointer (some ⟨sb, 0, none⟩), encStr x, o, p, n] rfl ?_))
  intro W1 hc1 B1 HS1
  have h1 : Dk W1 (Pl F w.heap.size) sb mb room fs lit left := (h.to B1).pl _
  have HLS : Hid (∀ W, Below W1.heap.size W1 W → LookS w.heap.size sb mb x (.agg #[.slice ao (at0 fs x).zs.length cap, .int .i64 ((at0 fs x).l : Int)]) (lk fs x).isSome W) := fun W hW => by
    have := LookS.of h1 hx hc1 hW
    rw [Fl.val, hf] at this
    exact this
  have hz67 := zero67
  go_upto_region 1 with fail
  go_cut [3, 4] (fun pv tv wx => pv = .pointer (some ⟨W1.heap.size, 0, none⟩) ∧ tv = .bool (lk fs x).isSome ∧ Cw wx W1.heap.size [.slice ao (at0 fs x).zs.length cap, .int .i64 ((at0 fs x).l : Int)] 67 ∧ Below W1.heap.size W1 wx)
  case first =>
    go_region_held3 (fun W => W.cell? ⟨w.heap.size, 0, none⟩ = some (.pointer (some ⟨sb, 0, none⟩)) ∧ W.cell? ⟨w.heap.size, 1, none⟩ = some (encStr x) ∧ W.cell? ⟨sb, 2, none⟩ = some (.map mb) ∧
      (Instr.lookup 58 (.map mb) (encStr x) true).run Try.prog W = .ok (.tuple #[.agg #[.slice ao (at0 fs x).zs.length cap, .int .i64 ((at0 fs x).l : Int)], .bool (lk fs x).isSome]) W)
      (first | exact HLS.out _ (Below.refl _ _).drew | exact HLS.out _ ((Below.refl _ _).drew.alloc (Nat.le_refl _) _))
      (fail)
    all_goals
      go_wp2_with fail
      go_meet
      exact ⟨rfl, rfl, Cw.new _ _ _, ((Below.refl _ _).alloc (Nat.le_refl _) _).drew⟩
  case rest =>
    rename World => W2
    obtain ⟨rfl, rfl, hc2, B2⟩ := hcut
    have hc12 := hc1.below B2 hc1.lt
    have h2 := h1.to B2
    have d0 : W2.cell? ⟨w.heap.size, 0, none⟩ = some (.pointer (some ⟨sb, 0, none⟩)) := by rw [hc12.cell]; rfl
    have d1 : W2.cell? ⟨w.heap.size, 1, none⟩ = some (encStr x) := by rw [hc12.cell]; rfl
    have d2 : W2.cell? ⟨w.heap.size, 2, none⟩ = some o := by rw [hc12.cell]; rfl
    have d3 : W2.cell? ⟨w.heap.size, 3, none⟩ = some p := by rw [hc12.cell]; rfl
    have d4 : W2.cell? ⟨w.heap.size, 4, none⟩ = some n := by rw [hc12.cell]; rfl
    have g0 : W2.cell? ⟨W1.heap.size, 0, none⟩ = some (.slice ao (at0 fs x).zs.length cap) := by rw [hc2.cell]; rfl
    have g1 : W2.cell? ⟨W1.heap.size, 1, none⟩ = some (.int .i64 ((at0 fs x).l : Int)) := by rw [hc2.cell]; rfl
    have HG2 : Hid (Grows F w W2) := ((Grows.refl F w).bel B1).bel B2
    have hlt := hc1.lt
    clear HLS hz67 h hc1 B1
    cases hl : lk fs x with
    | none =>
      go_wp2_with fail
      go_ret
      exact ⟨by simp [none7, hl], mb, by rw [dl_of_none (lk_none hl)]; exact h2, HG2.out⟩
    | some f =>
      have hp := drop_any h2 x hx
      go_wp2_with fail
      refine hp.mono ?_
      rintro e W4 ⟨rfl, h4, hG4, _⟩
      have HG4 : Hid (Grows F w W4) := HG2.out.pl hG4
      clear hG4
      go_wp2_with fail
      go_ret
      exact ⟨by simp [none7, hl], mb, h4, HG4.out⟩
/-- The files behind Rename. -/
def renF (fs : Fls) (x y : Nm) : Fls := match lk fs x with | none => fs | some f => pt (dl fs x) y f
theorem tot_dl_le (fs : Fls) (y : Nm) : tot (dl fs y) ≤ tot fs := by
  induction fs with
  | nil => exact Nat.le_refl _
  | cons p r ih =>
    rw [dl_cons, tot_cons]
    split
    · omega
    · rw [tot_cons]; omega
theorem len_dl_lt {x : Nm} {f : Fl} (h : lk fs x = some f) : (dl fs x).length + 1 ≤ fs.length := by
  have := len_pt_of (f := f) h
  rw [(pt_perm fs x f).length_eq, List.length_cons] at this
  exact this
set_option maxRecDepth 20000 in
set_option maxHeartbeats 1600000 in
theorem rename_any (h : Dk w F sb mb room fs lit left) (x y : Nm) (hx : x.length ≤ maxLen) (hy : y.length ≤ maxLen) (p n : Value) :
    Calls Try.prog 50 #[.agg #[.pointer (some ⟨sb, 0, none⟩), encStr x, encStr y, p, n]] w fun e w' => e = .returned (.int .i64 (none7 fs x)) ∧ ∃ mb', Dk w' (Pl F w.heap.size) sb mb' room (renF fs x y) lit left ∧ Grows F w w' := by
  obtain ⟨ao, cap, hf⟩ := at0_form' h x
  obtain ⟨o, ho⟩ : ∃ o, o = encStr y := ⟨_, rfl⟩
  rw [← ho]
  go_enter Try.func50, Try.ntmps50
  refine wp_seq (wp_region_lit (wpList_box_row rfl 75 (.tmp 0) rfl [.pointer (some ⟨sb, 0, none⟩), encStr x, o, p, n] rfl ?_))
  intro W1 hc1 B1 HS1
  have h1 : Dk W1 (Pl F w.heap.size) sb mb room fs lit left := (h.to B1).pl _
  have HLS : Hid (∀ W, Below W1.heap.size W1 W → LookS w.heap.size sb mb x (.agg #[.slice ao (at0 fs x).zs.length cap, .int .i64 ((at0 fs x).l : Int)]) (lk fs x).isSome W) := fun W hW => by
    have := LookS.of h1 hx hc1 hW
    rw [Fl.val, hf] at this
    exact this
  have hz67 := zero67
  go_upto_region 1 with fail
  go_cut [3, 4] (fun pv tv wx => pv = .pointer (some ⟨W1.heap.size, 0, none⟩) ∧ tv = .bool (lk fs x).isSome ∧ Cw wx W1.heap.size [.slice ao (at0 fs x).zs.length cap, .int .i64 ((at0 fs x).l : Int)] 67 ∧ Below W1.heap.size W1 wx)
  case first =>
    go_region_held3 (fun W => W.cell? ⟨w.heap.size, 0, none⟩ = some (.pointer (some ⟨sb, 0, none⟩)) ∧ W.cell? ⟨w.heap.size, 1, none⟩ = some (encStr x) ∧ W.cell? ⟨sb, 2, none⟩ = some (.map mb) ∧
      (Instr.lookup 58 (.map mb) (encStr x) true).run Try.prog W = .ok (.tuple #[.agg #[.slice ao (at0 fs x).zs.length cap, .int .i64 ((at0 fs x).l : Int)], .bool (lk fs x).isSome]) W)
      (first | exact HLS.out _ (Below.refl _ _).drew | exact HLS.out _ ((Below.refl _ _).drew.alloc (Nat.le_refl _) _))
      (fail)
    all_goals
      go_wp2_with fail
      go_meet
      exact ⟨rfl, rfl, Cw.new _ _ _, ((Below.refl _ _).alloc (Nat.le_refl _) _).drew⟩
  case rest =>
    rename World => W2
    obtain ⟨rfl, rfl, hc2, B2⟩ := hcut
    have hc12 := hc1.below B2 hc1.lt
    have h2 := h1.to B2
    have d0 : W2.cell? ⟨w.heap.size, 0, none⟩ = some (.pointer (some ⟨sb, 0, none⟩)) := by rw [hc12.cell]; rfl
    have d1 : W2.cell? ⟨w.heap.size, 1, none⟩ = some (encStr x) := by rw [hc12.cell]; rfl
    have d2 : W2.cell? ⟨w.heap.size, 2, none⟩ = some o := by rw [hc12.cell]; rfl
    have d3 : W2.cell? ⟨w.heap.size, 3, none⟩ = some p := by rw [hc12.cell]; rfl
    have d4 : W2.cell? ⟨w.heap.size, 4, none⟩ = some n := by rw [hc12.cell]; rfl
    have g0 : W2.cell? ⟨W1.heap.size, 0, none⟩ = some (.slice ao (at0 fs x).zs.length cap) := by rw [hc2.cell]; rfl
    have g1 : W2.cell? ⟨W1.heap.size, 1, none⟩ = some (.int .i64 ((at0 fs x).l : Int)) := by rw [hc2.cell]; rfl
    have HG2 : Hid (Grows F w W2) := ((Grows.refl F w).bel B1).bel B2
    have hlt := hc1.lt
    subst ho
    have h20 : Dk W2 (fun k => F k ∧ k < w.heap.size) sb mb room fs lit left := ((h.more fun k hk hl => ⟨hk, hl⟩).to B1).to B2
    have HLT1 : Hid (w.heap.size ≤ W1.heap.size) := Nat.le_of_lt hlt
    clear HLS hz67 h hc1 B1
    cases hl : lk fs x with
    | none =>
      go_wp2_with fail
      go_ret
      exact ⟨by simp [none7, hl], mb, by simp only [renF, hl]; exact h2, HG2.out⟩
    | some f =>
      have hat : at0 fs x = f := by simp only [at0, hl]
      rw [hat] at hf hc2 g0 g1
      have hp := drop_any h20 x hx
      go_wp2_with fail
      refine hp.mono ?_
      rintro e W3 ⟨rfl, h3, hG3, hkeep⟩
      have k1 := hG3.block w.heap.size hc12.lt (fun e => by omega)
      have k2 := hG3.block W1.heap.size hc2.lt (fun e => by omega)
      have hc13 := hc12.keep k1
      have hc3 := hc2.keep k2
      have d0' : W3.cell? ⟨w.heap.size, 0, none⟩ = some (.pointer (some ⟨sb, 0, none⟩)) := by rw [hc13.cell]; rfl
      have d2' : W3.cell? ⟨w.heap.size, 2, none⟩ = some (encStr y) := by rw [hc13.cell]; rfl
      have g0' : W3.cell? ⟨W1.heap.size, 0, none⟩ = some (.slice ao f.zs.length cap) := by rw [hc3.cell]; rfl
      have g1' : W3.cell? ⟨W1.heap.size, 1, none⟩ = some (.int .i64 (f.l : Int)) := by rw [hc3.cell]; rfl
      have HG3 : Hid (Grows F w W3) := HG2.out.trans hG3 fun k hk => Or.inl hk.1
      obtain ⟨r1, r2, r3, r4⟩ := h20.rows _ (lk_mem hl)
      have hap := own_apart (f := f) h20 hl
      have hcn := len_dl_lt hl
      have htd := tot_dl (x := x) h20.diff
      have hlf : ln fs x = f.zs.length := by simp only [ln, hl]
      have hfi := h20.fits
      have HSZ : Hid (W2.heap.size ≤ W3.heap.size) := hG3.size
      have HS12 : Hid (W1.heap.size ≤ W2.heap.size) := B2.size
      have hp2 := put_any (f := f) (x := y) (h3.ex _) hy (hkeep r1) r2 r3 r4 (fun q hq _ => hap q (dl_mem.1 hq).1 (dl_mem.1 hq).2) (by have := tot_dl_le (dl fs x) y; omega) (Nat.le_trans (len_pt_le _ _ _) (Nat.le_trans hcn h20.cnt))
      simp only [Fl.val, hf] at hp2
      clear hG3 k1 k2 hkeep hap hcn htd hlf hfi hp h20 h2
      go_wp2_with fail
      refine hp2.mono ?_
      rintro e W4 ⟨rfl, mb', h4, hG4⟩
      have HG4 : Hid (Grows F w W4) := HG3.out.trans hG4 fun k hk => Or.inl hk.1
      clear hG4
      go_wp2_with fail
      go_ret
      refine ⟨by simp [none7, hl], mb', ?_, HG4.out⟩
      simp only [renF, hl]
      refine h4.more fun k hk _ => ?_
      rcases hk with hk | hk
      · exact Or.inl hk.1
      · have := HLT1.out; have := HSZ.out; have := HS12.out
        exact Or.inr (by omega)
end Go.Proofs.Ythkgmnmdojmfgaa
