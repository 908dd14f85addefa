/-
  Joined from: Steps, StepsB, StepsC.
-/
import Derived.Test.YtnkjhooeklodcaaGreatDoorM13
section
/-
  disk's five as steps: sync, remove, by contracts.
-/
namespace Go.Proofs.YtnkjhooeklodcaaGreatDoor
open Go.RowKit Go.Maps
variable {w w' : World} {F : Nat → Prop} {sb : Nat} {mb : Option Nat} {room : Int} {fs : Fls} {lit : Bool} {left : Int}

theorem at0_form' (h : Dk w F sb mb room fs lit left) (x : Nm) : ∃ ao cap, (at0 fs x).v = .slice ao (at0 fs x).zs.length cap := by
  simp only [at0]
  cases hl : lk fs x with
  | none => exact ⟨none, 0, rfl⟩
  | some f =>
    obtain ⟨ao, cap, hv, _⟩ := (h.rows _ (lk_mem hl)).1.form
    exact ⟨ao, cap, hv⟩
/-- What a look-up of a step reads. -/
def LookS (N sb : Nat) (mb : Option Nat) (x : Nm) (val : Value) (t : Bool) (W : World) : Prop :=
  W.cell? ⟨N, 0, none⟩ = some (.pointer (some ⟨sb, 0, none⟩)) ∧ W.cell? ⟨N, 1, none⟩ = some (encStr x) ∧ W.cell? ⟨sb, 2, none⟩ = some (.map mb) ∧
    (Instr.lookup 86 (.map mb) (encStr x) true).run Tryz.prog W = .ok (.tuple #[val, .bool t]) W
theorem LookS.of {N : Nat} {x : Nm} (h : Dk w F sb mb room fs lit left) (hx : x.length ≤ maxLen) {o p n : Value} (hc : Cw w N [.pointer (some ⟨sb, 0, none⟩), encStr x, o, p, n] 118) (hb : Below w.heap.size w w') :
    LookS N sb mb x (at0 fs x).val (lk fs x).isSome w' := by
  have h' : Dk w' F sb mb room fs lit left := h.keep fun k _ hk => hb.block k hk
  have hc' := hc.below hb hc.lt
  refine ⟨by rw [hc'.cell]; rfl, by rw [hc'.cell]; rfl, h'.cell.2.2.1, look_ok h' x hx⟩
def Pl (F : Nat → Prop) (n : Nat) : Nat → Prop := fun k => F k ∨ n ≤ k
theorem Dx.to (h : Dk w F sb mb room fs lit left) {w1 : World} (hb : Below w.heap.size w w1) : Dk w1 F sb mb room fs lit left := h.keep fun k _ hk => hb.block k hk
theorem Dx.pl (h : Dk w F sb mb room fs lit left) (n : Nat) : Dk w (Pl F n) sb mb room fs lit left := h.more fun _ hk _ => Or.inl hk
theorem Dx.plpl {n m : Nat} (h : Dk w (Pl (Pl F n) m) sb mb room fs lit left) (hn : n ≤ m) : Dk w (Pl F n) sb mb room fs lit left := h.more fun _ hk _ => by
  rcases hk with (h | h) | h
  · exact Or.inl h
  · exact Or.inr h
  · exact Or.inr (Nat.le_trans hn h)
theorem Grows.pl {F : Nat → Prop} {w w' w'' : World} (h : Grows F w w') (h' : Grows (Pl F w.heap.size) w' w'') : Grows F w w'' := h.trans h' fun _ hk => hk
theorem Dx.fits_same (h : Dk w F sb mb room fs lit left) {x : Nm} {f : Fl} (hl : lk fs x = some f) {n : Nat} (hn : n ≤ f.zs.length) : ((n + tot (dl fs x) : Nat) : Int) ≤ room := by
  have := tot_dl (x := x) h.diff
  have := h.fits
  simp only [ln, hl] at *
  omega
theorem Grows.bel {F : Nat → Prop} {w w' w'' : World} (h : Grows F w w') (hb : Below w'.heap.size w' w'') : Grows F w w'' := h.trans (Grows.of_below hb F fun k hk hk' => by omega) fun k hk => Or.inl hk
/-- The files behind Sync. -/
def syncF (fs : Fls) (x : Nm) : Fls := match lk fs x with | none => fs | some f => pt fs x ⟨f.v, f.zs, f.zs.length⟩
def none7 (fs : Fls) (x : Nm) : Int := if (lk fs x).isSome then 0 else 7
theorem own_apart (h : Dk w F sb mb room fs lit left) {x : Nm} {f : Fl} (hl : lk fs x = some f) : ∀ p ∈ fs, p.1 ≠ x → f.v.ownBlock = none ∨ f.v.ownBlock ≠ p.2.v.ownBlock := fun p hp hne => h.apart _ (lk_mem hl) p hp (Ne.symm hne)
set_option maxRecDepth 20000 in
set_option maxHeartbeats 1600000 in
theorem sync_any (h : Dk w F sb mb room fs lit left) (x : Nm) (hx : x.length ≤ maxLen) (o p n : Value) :
    Calls Tryz.prog 84 #[.agg #[.pointer (some ⟨sb, 0, none⟩), encStr x, o, p, n]] w fun e w' => e = .returned (.int .i64 (none7 fs x)) ∧ ∃ mb', Dk w' (Pl F w.heap.size) sb mb' room (syncF fs x) lit left ∧ Grows F w w' := by
  obtain ⟨ao, cap, hf⟩ := at0_form' h x
  go_enter Tryz.func84, Tryz.ntmps84
  refine wp_seq (wp_region_lit (wpList_box_row rfl 118 (.tmp 0) rfl [.pointer (some ⟨sb, 0, none⟩), encStr x, o, p, n] rfl ?_))
  intro W1 hc1 B1 HS1
  have h1 : Dk W1 (Pl F w.heap.size) sb mb room fs lit left := (h.to B1).pl _
  have HLS : Hid (∀ W, Below W1.heap.size W1 W → LookS w.heap.size sb mb x (.agg #[.slice ao (at0 fs x).zs.length cap, .int .i64 ((at0 fs x).l : Int)]) (lk fs x).isSome W) := fun W hW => by
    have := LookS.of h1 hx hc1 hW
    rw [Fl.val, hf] at this
    exact this
  have hz67 := zero67
  go_upto_region 1 with fail
  go_cut [3, 4] (fun pv tv wx => pv = .pointer (some ⟨W1.heap.size, 0, none⟩) ∧ tv = .bool (lk fs x).isSome ∧ Cw wx W1.heap.size [.slice ao (at0 fs x).zs.length cap, .int .i64 ((at0 fs x).l : Int)] 106 ∧ Below W1.heap.size W1 wx)
  case first =>
    go_region_held3 (fun W => W.cell? ⟨w.heap.size, 0, none⟩ = some (.pointer (some ⟨sb, 0, none⟩)) ∧ W.cell? ⟨w.heap.size, 1, none⟩ = some (encStr x) ∧ W.cell? ⟨sb, 2, none⟩ = some (.map mb) ∧
      (Instr.lookup 86 (.map mb) (encStr x) true).run Tryz.prog W = .ok (.tuple #[.agg #[.slice ao (at0 fs x).zs.length cap, .int .i64 ((at0 fs x).l : Int)], .bool (lk fs x).isSome]) W)
      (first | exact HLS.out _ (Below.refl _ _).drew | exact HLS.out _ ((Below.refl _ _).drew.alloc (Nat.le_refl _) _))
      (fail)
    all_goals
      go_wp2_with fail
      go_meet
      exact ⟨rfl, rfl, Cw.new _ _ _, ((Below.refl _ _).alloc (Nat.le_refl _) _).drew⟩
  case rest =>
    rename World => W2
    obtain ⟨rfl, rfl, hc2, B2⟩ := hcut
    have hc12 := hc1.below B2 hc1.lt
    have h2 := h1.to B2
    have d0 : W2.cell? ⟨w.heap.size, 0, none⟩ = some (.pointer (some ⟨sb, 0, none⟩)) := by rw [hc12.cell]; rfl
    have d1 : W2.cell? ⟨w.heap.size, 1, none⟩ = some (encStr x) := by rw [hc12.cell]; rfl
    have g0 : W2.cell? ⟨W1.heap.size, 0, none⟩ = some (.slice ao (at0 fs x).zs.length cap) := by rw [hc2.cell]; rfl
    have g1f := hc2.frozen 1
    have g1 : W2.cell? ⟨W1.heap.size, 1, none⟩ = some (.int .i64 ((at0 fs x).l : Int)) := by rw [hc2.cell]; rfl
    have HG2 : Hid (Grows F w W2) := ((Grows.refl F w).bel B1).bel B2
    have hlt := hc1.lt
    have hlt2 := h1.cells.lt
    clear HLS hz67 h hc1 B1
    cases hl : lk fs x with
    | none =>
      go_wp2_with fail
      go_ret
      exact ⟨by simp [none7, hl], mb, by simp only [syncF, hl]; exact h2, HG2.out⟩
    | some f =>
      have hat : at0 fs x = f := by simp only [at0, hl]
      rw [hat] at hf hc2 g0 g1
      have hc12' : ∀ v, Cw (W2.setCell ⟨W1.heap.size, 1, none⟩ v) w.heap.size [.pointer (some ⟨sb, 0, none⟩), encStr x, o, p, n] 118 := fun v => hc12.keep (Below.heap_setCell _ _ _ _ (by show w.heap.size ≠ W1.heap.size; omega))
      have hc3 : Cw (W2.setCell ⟨W1.heap.size, 1, none⟩ (.int .i64 (f.zs.length : Int))) W1.heap.size [.slice ao f.zs.length cap, .int .i64 (f.zs.length : Int)] 106 := hc2.set 1 _
      have d0' : ∀ v, (W2.setCell ⟨W1.heap.size, 1, none⟩ v).cell? ⟨w.heap.size, 0, none⟩ = some (.pointer (some ⟨sb, 0, none⟩)) := fun v => by rw [(hc12' v).cell]; rfl
      have d1' : ∀ v, (W2.setCell ⟨W1.heap.size, 1, none⟩ v).cell? ⟨w.heap.size, 1, none⟩ = some (encStr x) := fun v => by rw [(hc12' v).cell]; rfl
      have g0' : (W2.setCell ⟨W1.heap.size, 1, none⟩ (.int .i64 (f.zs.length : Int))).cell? ⟨W1.heap.size, 0, none⟩ = some (.slice ao f.zs.length cap) := by rw [hc3.cell]; rfl
      have g1' : (W2.setCell ⟨W1.heap.size, 1, none⟩ (.int .i64 (f.zs.length : Int))).cell? ⟨W1.heap.size, 1, none⟩ = some (.int .i64 (f.zs.length : Int)) := by rw [hc3.cell]; rfl
      have B3 := B2.setCell (p := ⟨W1.heap.size, 1, none⟩) (Nat.le_refl _) (.int .i64 (f.zs.length : Int))
      have h3 := h1.to B3
      have HG3 : Hid (Grows F w (W2.setCell ⟨W1.heap.size, 1, none⟩ (.int .i64 (f.zs.length : Int)))) := HG2.out.pl (Grows.setCell _ _ _ (Or.inr (Nat.le_of_lt hlt)))
      obtain ⟨r1, r2, r3, r4⟩ := h3.rows _ (lk_mem hl)
      have hp := put_any (f := ⟨f.v, f.zs, f.zs.length⟩) (h3.ex _) hx r1 (Nat.le_refl _) r3 r4 (own_apart (f := f) h3 hl) (h3.fits_same hl (Nat.le_refl _)) (Nat.le_trans (len_pt_of hl) h3.cnt)
      simp only [Fl.val, hf] at hp
      go_wp2_with fail
      refine hp.mono ?_
      rintro e W4 ⟨rfl, mb', h4, hG4⟩
      have HG4 : Hid (Grows F w W4) := HG3.out.pl hG4
      clear hG4
      go_wp2_with fail
      go_ret
      exact ⟨by simp [none7, hl], mb', by simp only [syncF, hl]; rw [hf]; exact h4.plpl (Nat.le_trans (Nat.le_of_lt hlt) B3.size), HG4.out⟩
set_option maxRecDepth 20000 in
set_option maxHeartbeats 1600000 in
theorem remove_any (h : Dk w F sb mb room fs lit left) (x : Nm) (hx : x.length ≤ maxLen) (o p n : Value) :
    Calls Tryz.prog 131 #[.agg #[.pointer (some ⟨sb, 0, none⟩), encStr x, o, p, n]] w fun e w' => e = .returned (.int .i64 (none7 fs x)) ∧ ∃ mb', Dk w' (Pl F w.heap.size) sb mb' room (dl fs x) lit left ∧ Grows F w w' := by
  obtain ⟨ao, cap, hf⟩ := at0_form' h x
  go_enter Tryz.func131, Tryz.ntmps131
  refine wp_seq (wp_region_lit (wpList_box_row rfl 118 (.tmp 0) rfl [.pointer (some ⟨sb, 0, none⟩), encStr x, o, p, n] rfl ?_))
  intro W1 hc1 B1 HS1
  have h1 : Dk W1 (Pl F w.heap.size) sb mb room fs lit left := (h.to B1).pl _
  have HLS : Hid (∀ W, Below W1.heap.size W1 W → LookS w.heap.size sb mb x (.agg #[.slice ao (at0 fs x).zs.length cap, .int .i64 ((at0 fs x).l : Int)]) (lk fs x).isSome W) := fun W hW => by
    have := LookS.of h1 hx hc1 hW
    rw [Fl.val, hf] at this
    exact this
  have hz67 := zero67
  go_upto_region 1 with fail
  go_cut [3, 4] (fun pv tv wx => pv = .pointer (some ⟨W1.heap.size, 0, none⟩) ∧ tv = .bool (lk fs x).isSome ∧ Cw wx W1.heap.size [.slice ao (at0 fs x).zs.length cap, .int .i64 ((at0 fs x).l : Int)] 106 ∧ Below W1.heap.size W1 wx)
  case first =>
    go_region_held3 (fun W => W.cell? ⟨w.heap.size, 0, none⟩ = some (.pointer (some ⟨sb, 0, none⟩)) ∧ W.cell? ⟨w.heap.size, 1, none⟩ = some (encStr x) ∧ W.cell? ⟨sb, 2, none⟩ = some (.map mb) ∧
      (Instr.lookup 86 (.map mb) (encStr x) true).run Tryz.prog W = .ok (.tuple #[.agg #[.slice ao (at0 fs x).zs.length cap, .int .i64 ((at0 fs x).l : Int)], .bool (lk fs x).isSome]) W)
      (first | exact HLS.out _ (Below.refl _ _).drew | exact HLS.out _ ((Below.refl _ _).drew.alloc (Nat.le_refl _) _))
      (fail)
    all_goals
      go_wp2_with fail
      go_meet
      exact ⟨rfl, rfl, Cw.new _ _ _, ((Below.refl _ _).alloc (Nat.le_refl _) _).drew⟩
  case rest =>
    rename World => W2
    obtain ⟨rfl, rfl, hc2, B2⟩ := hcut
    have hc12 := hc1.below B2 hc1.lt
    have h2 := h1.to B2
    have d0 : W2.cell? ⟨w.heap.size, 0, none⟩ = some (.pointer (some ⟨sb, 0, none⟩)) := by rw [hc12.cell]; rfl
    have d1 : W2.cell? ⟨w.heap.size, 1, none⟩ = some (encStr x) := by rw [hc12.cell]; rfl
    have d2 : W2.cell? ⟨w.heap.size, 2, none⟩ = some o := by rw [hc12.cell]; rfl
    have d3 : W2.cell? ⟨w.heap.size, 3, none⟩ = some p := by rw [hc12.cell]; rfl
    have d4 : W2.cell? ⟨w.heap.size, 4, none⟩ = some n := by rw [hc12.cell]; rfl
    have g0 : W2.cell? ⟨W1.heap.size, 0, none⟩ = some (.slice ao (at0 fs x).zs.length cap) := by rw [hc2.cell]; rfl
    have g1 : W2.cell? ⟨W1.heap.size, 1, none⟩ = some (.int .i64 ((at0 fs x).l : Int)) := by rw [hc2.cell]; rfl
    have HG2 : Hid (Grows F w W2) := ((Grows.refl F w).bel B1).bel B2
    have hlt := hc1.lt
    clear HLS hz67 h hc1 B1
    cases hl : lk fs x with
    | none =>
      go_wp2_with fail
      go_ret
      exact ⟨by simp [none7, hl], mb, by rw [dl_of_none (lk_none hl)]; exact h2, HG2.out⟩
    | some f =>
      have hp := drop_any h2 x hx
      go_wp2_with fail
      refine hp.mono ?_
      rintro e W4 ⟨rfl, h4, hG4, _⟩
      have HG4 : Hid (Grows F w W4) := HG2.out.pl hG4
      clear hG4
      go_wp2_with fail
      go_ret
      exact ⟨by simp [none7, hl], mb, h4, HG4.out⟩
/-- The files behind Rename. -/
def renF (fs : Fls) (x y : Nm) : Fls := match lk fs x with | none => fs | some f => pt (dl fs x) y f
theorem tot_dl_le (fs : Fls) (y : Nm) : tot (dl fs y) ≤ tot fs := by
  induction fs with
  | nil => exact Nat.le_refl _
  | cons p r ih =>
    rw [dl_cons, tot_cons]
    split
    · omega
    · rw [tot_cons]; omega
theorem len_dl_lt {x : Nm} {f : Fl} (h : lk fs x = some f) : (dl fs x).length + 1 ≤ fs.length := by
  have := len_pt_of (f := f) h
  rw [(pt_perm fs x f).length_eq, List.length_cons] at this
  exact this
end Go.Proofs.YtnkjhooeklodcaaGreatDoor
end

section
/-
  disk's five as steps: cut, write, by contracts.
-/
namespace Go.Proofs.YtnkjhooeklodcaaGreatDoor
open Go.RowKit Go.Maps
variable {w w' : World} {F : Nat → Prop} {sb : Nat} {mb : Option Nat} {room : Int} {fs : Fls} {lit : Bool} {left : Int}

/-- What one of the five leaves: the disk with these files; all else is as it was. -/
def Res (F : Nat → Prop) (sb : Nat) (room : Int) (fs : Fls) (lit : Bool) (left : Int) (w w' : World) : Prop := ∃ mb', Dk w' (Pl F w.heap.size) sb mb' room fs lit left ∧ Grows F w w'
theorem Ow.cut {v : Value} {zs : List Int} {ao : Option Addr} {cap : Nat} (h : Ow w 0 v zs) (hv : v = .slice ao zs.length cap) (m : Nat) (hm : m ≤ zs.length) : Ow w 0 (.slice ao m cap) (zs.take m) := by
  have hl : (zs.take m).length = m := by simp [hm]
  refine ⟨by rw [hl]; simp [cellsOf, hm], ?_⟩
  rw [hl]
  rcases h.2 with ⟨h1, h2⟩ | ⟨g, c, cur, h1, h2, h3, h4, h5, h6, h7⟩
  · rw [h1] at hv
    simp only [Value.slice.injEq] at hv
    obtain ⟨rfl, _, rfl⟩ := hv
    exact Or.inl ⟨by rw [show m = 0 by omega], by omega⟩
  · rw [h1] at hv
    simp only [Value.slice.injEq] at hv
    obtain ⟨rfl, _, rfl⟩ := hv
    refine Or.inr ⟨g, c, cur, rfl, h2, h3, by omega, h5, h6, ?_⟩
    have := congrArg (List.take m) h7
    simp only [Nat.mul_one, List.take_take] at this ⊢
    rw [Nat.min_eq_left hm] at this
    rw [this]
    simp [cellsOf, List.map_take]
theorem Ow.cap_ge {v : Value} {zs : List Int} {ao : Option Addr} {cap : Nat} (h : Ow w 0 v zs) (hv : v = .slice ao zs.length cap) : zs.length ≤ cap := by
  rcases h.2 with ⟨h1, h2⟩ | ⟨g, c, cur, h1, h2, h3, h4, _⟩
  · rw [h1] at hv
    simp only [Value.slice.injEq] at hv
    omega
  · rw [h1] at hv
    simp only [Value.slice.injEq] at hv
    omega
theorem Byt.take {zs : List Int} (h : Byt zs) (m : Nat) : Byt (zs.take m) := fun z hz => h z (List.mem_of_mem_take hz)
theorem own_len (ao : Option Addr) (a b c : Nat) : (Value.slice ao a c).ownBlock = (Value.slice ao b c).ownBlock := by cases ao <;> rfl
def cutE (fs : Fls) (x : Nm) (n : Int) : Int := match lk fs x with | none => 7 | some f => if n < 0 ∨ (f.zs.length : Int) < n then 1 else 0
/-- The file behind Cut: its slice is cut. -/
def cutV (f : Fl) (n : Nat) : Fl := ⟨match f.v with | .slice ao _ cap => .slice ao n cap | v => v, f.zs.take n, min f.l n⟩
def cutF (fs : Fls) (x : Nm) (n : Int) : Fls := match lk fs x with | none => fs | some f => if n < 0 ∨ (f.zs.length : Int) < n then fs else pt fs x (cutV f n.toNat)
set_option maxRecDepth 20000 in
set_option maxHeartbeats 1600000 in
theorem cut_any (h : Dk w F sb mb room fs lit left) (x : Nm) (hx : x.length ≤ maxLen) (o p : Value) (m : Int) (hm : (Lit.int .i64 m).wf = true) :
    Calls Tryz.prog 73 #[.agg #[.pointer (some ⟨sb, 0, none⟩), encStr x, o, p, .int .i64 m]] w fun e w' => e = .returned (.int .i64 (cutE fs x m)) ∧ Res F sb room (cutF fs x m) lit left w w' := by
  obtain ⟨ao, cap, hf⟩ := at0_form' h x
  obtain ⟨n, hn⟩ : ∃ n, n = Value.int .i64 m := ⟨_, rfl⟩
  rw [← hn]
  go_enter Tryz.func73, Tryz.ntmps73
  refine wp_seq (wp_region_lit (wpList_box_row rfl 118 (.tmp 0) rfl [.pointer (some ⟨sb, 0, none⟩), encStr x, o, p, n] rfl ?_))
  intro W1 hc1 B1 HS1
  have h1 : Dk W1 (Pl F w.heap.size) sb mb room fs lit left := (h.to B1).pl _
  have HLS : Hid (∀ W, Below W1.heap.size W1 W → LookS w.heap.size sb mb x (.agg #[.slice ao (at0 fs x).zs.length cap, .int .i64 ((at0 fs x).l : Int)]) (lk fs x).isSome W) := fun W hW => by
    have := LookS.of h1 hx hc1 hW
    rw [Fl.val, hf] at this
    exact this
  have hz67 := zero67
  go_upto_region 1 with fail
  go_cut [3, 4] (fun pv tv wx => pv = .pointer (some ⟨W1.heap.size, 0, none⟩) ∧ tv = .bool (lk fs x).isSome ∧ Cw wx W1.heap.size [.slice ao (at0 fs x).zs.length cap, .int .i64 ((at0 fs x).l : Int)] 106 ∧ Below W1.heap.size W1 wx)
  case first =>
    go_region_held3 (fun W => W.cell? ⟨w.heap.size, 0, none⟩ = some (.pointer (some ⟨sb, 0, none⟩)) ∧ W.cell? ⟨w.heap.size, 1, none⟩ = some (encStr x) ∧ W.cell? ⟨sb, 2, none⟩ = some (.map mb) ∧
      (Instr.lookup 86 (.map mb) (encStr x) true).run Tryz.prog W = .ok (.tuple #[.agg #[.slice ao (at0 fs x).zs.length cap, .int .i64 ((at0 fs x).l : Int)], .bool (lk fs x).isSome]) W)
      (first | exact HLS.out _ (Below.refl _ _).drew | exact HLS.out _ ((Below.refl _ _).drew.alloc (Nat.le_refl _) _))
      (fail)
    all_goals
      go_wp2_with fail
      go_meet
      exact ⟨rfl, rfl, Cw.new _ _ _, ((Below.refl _ _).alloc (Nat.le_refl _) _).drew⟩
  case rest =>
    rename World => W2
    obtain ⟨rfl, rfl, hc2, B2⟩ := hcut
    have hc12 := hc1.below B2 hc1.lt
    have h2 := h1.to B2
    have d0 : W2.cell? ⟨w.heap.size, 0, none⟩ = some (.pointer (some ⟨sb, 0, none⟩)) := by rw [hc12.cell]; rfl
    have d1 : W2.cell? ⟨w.heap.size, 1, none⟩ = some (encStr x) := by rw [hc12.cell]; rfl
    have d2 : W2.cell? ⟨w.heap.size, 2, none⟩ = some o := by rw [hc12.cell]; rfl
    have d3 : W2.cell? ⟨w.heap.size, 3, none⟩ = some p := by rw [hc12.cell]; rfl
    have d4 : W2.cell? ⟨w.heap.size, 4, none⟩ = some n := by rw [hc12.cell]; rfl
    have g0 : W2.cell? ⟨W1.heap.size, 0, none⟩ = some (.slice ao (at0 fs x).zs.length cap) := by rw [hc2.cell]; rfl
    have g1 : W2.cell? ⟨W1.heap.size, 1, none⟩ = some (.int .i64 ((at0 fs x).l : Int)) := by rw [hc2.cell]; rfl
    have HG2 : Hid (Grows F w W2) := ((Grows.refl F w).bel B1).bel B2
    have hlt := hc1.lt
    subst hn
    clear HLS hz67 h hc1 B1
    cases hl : lk fs x with
    | none =>
      go_wp2_with fail
      go_ret
      exact ⟨by simp [cutE, hl], mb, by simp only [cutF, hl]; exact h2, HG2.out⟩
    | some f =>
      have hat : at0 fs x = f := by simp only [at0, hl]
      rw [hat] at hf hc2 g0 g1
      by_cases hm0 : m < 0
      · go_wp2_with fail
        go_ret
        exact ⟨by simp [cutE, hl, hm0], mb, by simp only [cutF, hl, hm0, true_or, if_true]; exact h2, HG2.out⟩
      · by_cases hm1 : (f.zs.length : Int) < m
        · go_wp2_with fail
          go_ret
          exact ⟨by simp [cutE, hl, hm1], mb, by simp only [cutF, hl, hm1, or_true, if_true]; exact h2, HG2.out⟩
        · obtain ⟨k, rfl⟩ := Int.eq_ofNat_of_zero_le (by omega : 0 ≤ m)
          obtain ⟨r1, r2, r3, r4⟩ := h2.rows _ (lk_mem hl)
          have hk : k ≤ f.zs.length := by omega
          have hkc : k ≤ cap := Nat.le_trans hk (r1.cap_ge hf)
          have hcv : cutV f k = ⟨.slice ao k cap, f.zs.take k, min f.l k⟩ := by simp only [cutV, hf]
          have hp := put_any (f := ⟨.slice ao k cap, f.zs.take k, min f.l k⟩) (x := x) ((h2.to (Below.refl _ _).drew).ex _) hx ((r1.cut hf k hk).keep fun _ _ => rfl) (by simp; omega) (r3.take k) (fun j hj => r4 j (by rw [hf, own_len ao _ k cap]; exact hj)) (fun q hq hne => by have := own_apart (f := f) h2 hl q hq hne; rw [hf, own_len ao _ k cap] at this; exact this) (h2.fits_same hl (by simp; omega)) (Nat.le_trans (len_pt_of hl) h2.cnt)
          simp only [Fl.val] at hp
          have hmin : ((min f.l k : Nat) : Int) = min (f.l : Int) (k : Int) := by omega
          rw [hmin] at hp
          have HCV := hid_into hcv
          have HPP := hid_into hp
          have HSZ : Hid (w.heap.size ≤ W2.heap.size) := Nat.le_trans (Nat.le_of_lt hlt) B2.size
          clear hp hcv r1 r2 r3 r4 h2
          go_wp2_with fail
          refine wp_region_still_tail 15 (by kernel_rfl) (by kernel_rfl) ?_
          simp only [List.take_succ_cons, List.take_zero, List.drop_succ_cons, List.drop_zero]
          change wpStill _ _ (World.drew _) _ _ _
          repeat still_step
          refine wpStill_nil ?_
          change wpList _ _ _ _ _ (World.drew _)
          go_wp2_with fail
          refine HPP.out.mono ?_
          rintro e W4 ⟨rfl, mb', h4, hG4⟩
          have HG4 : Hid (Grows F w W4) := HG2.out.pl ((Grows.drew _ _).trans hG4 fun _ hk => Or.inl hk)
          clear hG4
          go_wp2_with fail
          go_ret
          have e7 : cutE fs x (k : Int) = 0 := by simp only [cutE, hl]; exact if_neg (by omega)
          refine ⟨by simp [e7], mb', ?_, HG4.out⟩
          have e : cutF fs x (k : Int) = pt fs x ⟨.slice ao k cap, f.zs.take k, min f.l k⟩ := by
            simp only [cutF, hl]
            rw [if_neg (by omega), ← HCV.out]
            rfl
          rw [e]
          exact h4.plpl HSZ.out
end Go.Proofs.YtnkjhooeklodcaaGreatDoor
end

section
/-
  disk's step write, by its contract.
-/
namespace Go.Proofs.YtnkjhooeklodcaaGreatDoor
open Go.RowKit Go.Maps
variable {X : Nm → Prop} {w w' : World} {F : Nat → Prop} {sb : Nat} {mb : Option Nat} {room : Int} {fs : Fls} {lit : Bool} {left : Int}

theorem len_run (h : Dx X w F sb mb room fs lit left) (ty : TypeId) : (Builtin.len_ #[86] ty #[.map mb]).run Tryz.prog w = .ok (.int .i64 (fs.length : Int)) w := by
  cases mb with
  | none => rw [len_nil Tryz.underlying86, h.nn rfl]; rfl
  | some b => rw [(h.map b rfl).2.len Tryz.underlying86, Dm_size]
/-- Is there no room? -/
def wfull (fs : Fls) (x : Nm) (m : Nat) (room : Int) : Bool := decide (room - (tot fs : Int) < (m : Int)) || (!(lk fs x).isSome && decide (4096 ≤ fs.length))
def wrE (fs : Fls) (x : Nm) (m : Nat) (room : Int) : Int := if wfull fs x m room then 6 else 0
def wrF (fs : Fls) (x : Nm) (ps : List Int) (room : Int) (v : Value) : Fls := if wfull fs x ps.length room then fs else pt fs x ⟨v, (at0 fs x).zs ++ ps, (at0 fs x).l⟩
def WRes (F : Nat → Prop) (sb : Nat) (room : Int) (fs : Fls) (x : Nm) (ps : List Int) (lit : Bool) (left : Int) (w w' : World) : Prop := ∃ v, Res F sb room (wrF fs x ps room v) lit left w w'
theorem at0_ow (h : Dk w F sb mb room fs lit left) (x : Nm) : Ow w 0 (at0 fs x).v (at0 fs x).zs ∧ (at0 fs x).l ≤ (at0 fs x).zs.length ∧ Byt (at0 fs x).zs ∧ ∀ k, (at0 fs x).v.ownBlock = some k → F k := by
  simp only [at0]
  cases hl : lk fs x with
  | none => exact ⟨World.ownsRow_nil _ _ _ _, Nat.le_refl _, fun z hz => (by cases hz), fun k hk => (by cases hk)⟩
  | some f => exact h.rows _ (lk_mem hl)
theorem at0_apart (h : Dk w F sb mb room fs lit left) (x : Nm) : ∀ p ∈ fs, p.1 ≠ x → (at0 fs x).v.ownBlock = none ∨ (at0 fs x).v.ownBlock ≠ p.2.v.ownBlock := by
  intro p hp hne
  simp only [at0]
  cases hl : lk fs x with
  | none => exact Or.inl rfl
  | some f => exact own_apart h hl p hp hne
theorem ow67 {v : Value} {zs : List Int} (h : Ow w 0 v zs) {g : Nat} {cs : List Value} (hc : Cw w g cs 106) (i : Nat) (u : Value) : Ow (w.setCell ⟨g, i, none⟩ u) 0 v zs :=
  h.keep fun k hk => Below.heap_setCell _ _ _ _ fun e => by
    have e' : k = g := e
    obtain ⟨_, cur, hk'⟩ := h.lt hk
    rw [e', hc] at hk'
    simp at hk'
/-- Behind an append to the file of x all else of the disk is as it was. -/
theorem Dx.appended (h : Dk w F sb mb room fs lit left) (x : Nm) (hg : w.grownBy w' (at0 fs x).v.ownBlock) : Dx (fun y => y = x) w' F sb mb room fs lit left where
  cells := h.cells.keep (hg.block sb h.cells.lt fun e => (row_ne h (at0_ow h x).1 e.symm).1 rfl)
  sF := h.sF
  nn := h.nn
  map := fun b hb => ⟨(h.map b hb).1, ownsMap_keep (h.map b hb).2 (hg.block b (h.map b hb).2.lt fun e => (row_ne h (at0_ow h x).1 e.symm).2 hb.symm)⟩
  form := h.form
  rowsX := fun p hp hn => by
    obtain ⟨h1, h2, h3, h4⟩ := h.rows p hp
    refine ⟨h1.keep fun k hk => hg.block k (h1.lt hk).1 fun e => ?_, h2, h3, h4⟩
    rcases at0_apart h x p hp hn with e' | e'
    · rw [← e] at e'; cases e'
    · exact e' (by rw [← e, hk])
  apart := h.apart
  room0 := h.room0
  fits := h.fits
  left0 := h.left0
  cnt := h.cnt
theorem row_keep {w w' : World} {g : Nat} {cs : List Value} {t : TypeId} {v : Value} {zs : List Int} (h : Cw w g cs t) (ho : Ow w 0 v zs) (ht : t ≠ 5) (hg : w.grownBy w' v.ownBlock) : Cw w' g cs t :=
  h.keep (hg.block g h.lt fun e => by
    obtain ⟨_, cur, hc⟩ := ho.lt e.symm
    rw [Cw, hc] at h
    simp only [Option.some.injEq, Obj.cells.injEq] at h
    exact ht h.2.1.symm)
theorem wfull_none {x : Nm} {m : Nat} (hl : lk fs x = none) (h : ¬ room - (tot fs : Int) < (m : Int)) : wfull fs x m room = decide ((4096 : Int) ≤ (fs.length : Int)) := by
  simp only [wfull, hl, decide_eq_false h, Option.isSome_none, Bool.not_false, Bool.true_and, Bool.false_or]
  exact decide_eq_decide.2 (by omega)
/-- A store into a variable of a file leaves the disk. -/
theorem Dx.set67 (h : Dx X w F sb mb room fs lit left) {g : Nat} {cs : List Value} (hc : Cw w g cs 106) (i : Nat) (v : Value) : Dx X (w.setCell ⟨g, i, none⟩ v) F sb mb room fs lit left where
  cells := h.cells.keep (Below.heap_setCell _ _ _ _ fun e => by
    have e' : sb = g := e
    have := h.cells
    rw [e', Cw, hc] at this
    simp at this)
  sF := h.sF
  nn := h.nn
  map := fun b hb => ⟨(h.map b hb).1, ownsMap_keep (h.map b hb).2 (Below.heap_setCell _ _ _ _ fun e => by
    have e' : b = g := e
    obtain ⟨es, cl, hk⟩ := ownsMap_kind (h.map b hb).2
    rw [e', hc] at hk
    cases hk)⟩
  form := h.form
  rowsX := fun p hp hn => by
    obtain ⟨h1, h2, h3, h4⟩ := h.rowsX p hp hn
    exact ⟨ow67 h1 hc i v, h2, h3, h4⟩
  apart := h.apart
  room0 := h.room0
  fits := h.fits
  left0 := h.left0
  cnt := h.cnt
theorem Byt.append {a b : List Int} (h : Byt a) (h' : Byt b) : Byt (a ++ b) := fun z hz => by
  rcases List.mem_append.1 hz with e | e
  · exact h z e
  · exact h' z e
theorem ln_at0 (fs : Fls) (x : Nm) : ln fs x = (at0 fs x).zs.length := by
  simp only [ln, at0]
  cases lk fs x <;> rfl
set_option maxRecDepth 20000 in
set_option maxHeartbeats 1600000 in
theorem write_any (h : Dk w F sb mb room fs lit left) (x : Nm) (hx : x.length ≤ maxLen) (o n : Value) (ap : Option Addr) (cp : Nat) (ps : List Int) (hps : Bs w (.slice ap ps.length cp) ps) (hby : Byt ps) :
    Calls Tryz.prog 67 #[.agg #[.pointer (some ⟨sb, 0, none⟩), encStr x, o, .slice ap ps.length cp, n]] w fun e w' => e = .returned (.int .i64 (wrE fs x ps.length room)) ∧ WRes F sb room fs x ps lit left w w' := by
  obtain ⟨ao, cap, hf⟩ := at0_form' h x
  obtain ⟨p, hp⟩ : ∃ p, p = Value.slice ap ps.length cp := ⟨_, rfl⟩
  rw [← hp] at hps ⊢
  go_enter Tryz.func67, Tryz.ntmps67
  refine wp_seq (wp_region_lit (wpList_box_row rfl 118 (.tmp 0) rfl [.pointer (some ⟨sb, 0, none⟩), encStr x, o, p, n] rfl ?_))
  intro W1 hc1 B1 HS1
  have h1 : Dk W1 (Pl F w.heap.size) sb mb room fs lit left := (h.to B1).pl _
  have HLS : Hid (∀ W, Below W1.heap.size W1 W → LookS w.heap.size sb mb x (.agg #[.slice ao (at0 fs x).zs.length cap, .int .i64 ((at0 fs x).l : Int)]) (lk fs x).isSome W) := fun W hW => by
    have := LookS.of h1 hx hc1 hW
    rw [Fl.val, hf] at this
    exact this
  have hz67 := zero67
  have e0 : W1.cell? ⟨w.heap.size, 0, none⟩ = some (.pointer (some ⟨sb, 0, none⟩)) := by rw [hc1.cell]; rfl
  go_upto_region 2 with fail
  go_cut [4, 5] (fun pv tv wx => pv = .pointer (some ⟨W1.heap.size, 0, none⟩) ∧ tv = .bool (lk fs x).isSome ∧ Cw wx W1.heap.size [.slice ao (at0 fs x).zs.length cap, .int .i64 ((at0 fs x).l : Int)] 106 ∧ Below W1.heap.size W1 wx)
  case first =>
    go_region_held3 (fun W => W.cell? ⟨w.heap.size, 0, none⟩ = some (.pointer (some ⟨sb, 0, none⟩)) ∧ W.cell? ⟨w.heap.size, 1, none⟩ = some (encStr x) ∧ W.cell? ⟨sb, 2, none⟩ = some (.map mb) ∧
      (Instr.lookup 86 (.map mb) (encStr x) true).run Tryz.prog W = .ok (.tuple #[.agg #[.slice ao (at0 fs x).zs.length cap, .int .i64 ((at0 fs x).l : Int)], .bool (lk fs x).isSome]) W)
      (first | exact HLS.out _ (Below.refl _ _).drew | exact HLS.out _ ((Below.refl _ _).drew.alloc (Nat.le_refl _) _))
      (fail)
    all_goals
      go_wp2_with fail
      go_meet
      exact ⟨rfl, rfl, Cw.new _ _ _, ((Below.refl _ _).alloc (Nat.le_refl _) _).drew⟩
  case rest =>
    rename World => W2
    obtain ⟨rfl, rfl, hc2, B2⟩ := hcut
    have hc12 := hc1.below B2 hc1.lt
    have h2 := h1.to B2
    have d0 : W2.cell? ⟨w.heap.size, 0, none⟩ = some (.pointer (some ⟨sb, 0, none⟩)) := by rw [hc12.cell]; rfl
    have d1 : W2.cell? ⟨w.heap.size, 1, none⟩ = some (encStr x) := by rw [hc12.cell]; rfl
    have d2 : W2.cell? ⟨w.heap.size, 2, none⟩ = some o := by rw [hc12.cell]; rfl
    have d3 : W2.cell? ⟨w.heap.size, 3, none⟩ = some p := by rw [hc12.cell]; rfl
    have d4 : W2.cell? ⟨w.heap.size, 4, none⟩ = some n := by rw [hc12.cell]; rfl
    have g0 : W2.cell? ⟨W1.heap.size, 0, none⟩ = some (.slice ao (at0 fs x).zs.length cap) := by rw [hc2.cell]; rfl
    have g1 : W2.cell? ⟨W1.heap.size, 1, none⟩ = some (.int .i64 ((at0 fs x).l : Int)) := by rw [hc2.cell]; rfl
    have HG2 : Hid (Grows F w W2) := ((Grows.refl F w).bel B1).bel B2
    have hlt := hc1.lt
    subst hp
    have hps2 := (hps.below B1 (Nat.le_refl _)).below B2 (Nat.le_refl _)
    obtain ⟨c0, c1, c2, c3, c4⟩ := h2.cell
    have hlr : ∀ n ty, (Builtin.len_ #[86] ty #[.map mb]).run Tryz.prog (W2.drewN n) = .ok (.int .i64 (fs.length : Int)) (W2.drewN n) := fun n ty => len_run (h2.keep (w' := W2.drewN n) fun _ _ _ => rfl) ty
    have hpl : ps.length ≤ maxLen := by obtain ⟨_, _, e, hm⟩ := hps.len; exact hm
    unfold maxLen at hpl
    have HFI := hid_into h2.fits
    have HR0 := hid_into h2.room0
    have hwr : wrap64 (room - (tot fs : Int)) = room - (tot fs : Int) := wrap_id _ (by have := HFI.out; omega) (by have := HR0.out; omega)
    obtain ⟨d, hd⟩ : ∃ d, d = room - (tot fs : Int) := ⟨_, rfl⟩
    have hwr2 : IntKind.i64.wrap (room - (tot fs : Int)) = d := by
      have := HFI.out; have := HR0.out
      rw [hd, IntKind.wrap_i64]; omega
    have HD := hid_into hd
    clear hd hwr
    clear HLS hz67 h hc1 B1 hps e0
    go_upto_region 3 with fail
    go_cut [5, 42] (fun tv bv wx => tv = .bool (lk fs x).isSome ∧ bv = .bool (wfull fs x ps.length room) ∧ Sm W2 wx)
    case first =>
      by_cases hA : d < (ps.length : Int)
      · have hA2 : decide (d < (ps.length : Int)) = true := decide_eq_true hA
        go_quiet (fail)
        go_wp2_with fail
        go_meet
        exact ⟨rfl, by rw [HD.out] at hA; simp [wfull, hA], Sm.drewN _ _⟩
      · have hA2 : decide (d < (ps.length : Int)) = false := decide_eq_false hA
        cases hl : lk fs x with
        | some f =>
          go_quiet (fail)
          go_wp2_with fail
          go_meet
          exact ⟨by simp [hl], by rw [HD.out] at hA; simp [wfull, hA, hl], Sm.drewN _ _⟩
        | none =>
          go_quiet (fail)
          go_wp2_with fail
          go_meet
          exact ⟨by simp [hl], by rw [wfull_none hl (by rw [← HD.out]; omega)], Sm.drewN _ _⟩
    case rest =>
      obtain ⟨rfl, rfl, hsm⟩ := hcut
      rename World => W3
      replace hps2 := hsm.bs hps2
      replace h2 : Dk W3 (Pl F w.heap.size) sb mb room fs lit left := h2.keep fun _ _ _ => by rw [hsm.heap]
      have HB3 : Hid (Below W1.heap.size W1 W3) := B2.trans (hsm.below _)
      replace hc12 := hsm.cw hc12
      replace hc2 := hsm.cw hc2
      have HG3 : Hid (Grows F w W3) := HG2.out.bel (hsm.below _)
      clear B2 HG2 d0 d1 d2 d3 d4 g0 g1 c0 c1 c2 c3 c4 hlr hsm
      have d0 : W3.cell? ⟨w.heap.size, 0, none⟩ = some (.pointer (some ⟨sb, 0, none⟩)) := by rw [hc12.cell]; rfl
      have d1 : W3.cell? ⟨w.heap.size, 1, none⟩ = some (encStr x) := by rw [hc12.cell]; rfl
      have d3 : W3.cell? ⟨w.heap.size, 3, none⟩ = some (.slice ap ps.length cp) := by rw [hc12.cell]; rfl
      have g0 : W3.cell? ⟨W1.heap.size, 0, none⟩ = some (.slice ao (at0 fs x).zs.length cap) := by rw [hc2.cell]; rfl
      have g1 : W3.cell? ⟨W1.heap.size, 1, none⟩ = some (.int .i64 ((at0 fs x).l : Int)) := by rw [hc2.cell]; rfl
      have HSZ : Hid (w.heap.size ≤ W3.heap.size) := Nat.le_trans (Nat.le_of_lt hlt) HB3.out.size
      cases hfl : wfull fs x ps.length room with
      | true =>
        go_wp2_with fail
        go_ret
        exact ⟨by simp [wrE, hfl], .slice none 0 0, mb, by simp only [wrF, hfl, if_true]; exact h2, HG3.out⟩
      | false =>
        obtain ⟨r1, r2, r3, r4⟩ := at0_ow h2 x
        have hle : (ps.length : Int) ≤ room - (tot fs : Int) := by simp [wfull] at hfl; exact hfl.1
        have hcn : (lk fs x).isSome = true ∨ fs.length < 4096 := by
          simp [wfull] at hfl
          cases hl : lk fs x with
          | none => exact Or.inr (by have := hfl.2 hl; omega)
          | some f => exact Or.inl rfl
        have HLE := hid_into hle
        have HCN := hid_into hcn
        have htd := tot_dl (x := x) h2.diff
        rw [ln_at0] at htd
        have HTD := hid_into htd
        clear htd hle hcn
        have r1' : Ow W3 0 (.slice ao (at0 fs x).zs.length cap) (at0 fs x).zs := by rw [← hf]; exact r1
        have HNV : Hid (w.heap.size ≠ W1.heap.size) := Nat.ne_of_lt hlt
        have hap := at0_apart h2 x
        have HAP := hid_into hap
        clear hap
        go_wp2_with (at_builtin; refine wpList_append_bs _ rfl (.tmp 44) (.tmp 46) rfl 0 _ (at0 fs x).zs rfl r1' _ ps rfl hps2 (by have := HLE.out; have := HTD.out; have := HR0.out; omega) (Nat.zero_le _) ?_; intro ao5 cap5 W5 ho5 hg5 hat5; replace hat5 := hid_into hat5; have hc15 := row_keep hc12 r1' (by decide) hg5; have hc25 := row_keep hc2 r1' (by decide) hg5; have q0 := hc25.frozen 0; have q1 : W5.cell? ⟨W1.heap.size, 0, none⟩ = some (.slice ao (at0 fs x).zs.length cap) := (by rw [hc25.cell]; rfl); have hc16 : ∀ v, Cw (W5.setCell ⟨W1.heap.size, 0, none⟩ v) w.heap.size [.pointer (some ⟨sb, 0, none⟩), encStr x, o, .slice ap ps.length cp, n] 118 := (fun v => hc15.keep (Below.heap_setCell _ _ _ _ HNV.out)); have hc26 : ∀ v, Cw (W5.setCell ⟨W1.heap.size, 0, none⟩ v) W1.heap.size [v, .int .i64 ((at0 fs x).l : Int)] 106 := (fun v => hc25.set 0 v); have q2 : ∀ v, (W5.setCell ⟨W1.heap.size, 0, none⟩ v).cell? ⟨w.heap.size, 1, none⟩ = some (encStr x) := (fun v => by rw [(hc16 v).cell]; rfl); have q3 : ∀ v, (W5.setCell ⟨W1.heap.size, 0, none⟩ v).cell? ⟨W1.heap.size, 0, none⟩ = some v := (fun v => by rw [(hc26 v).cell]; rfl); have q4 : ∀ v, (W5.setCell ⟨W1.heap.size, 0, none⟩ v).cell? ⟨W1.heap.size, 1, none⟩ = some (.int .i64 ((at0 fs x).l : Int)) := (fun v => by rw [(hc26 v).cell]; rfl))
        have hlen : ((at0 fs x).zs ++ ps).length = (at0 fs x).zs.length + ps.length := List.length_append
        have h5 := (h2.appended x (by rw [hf]; exact hg5)).set67 hc25 0 (.slice ao5 ((at0 fs x).zs.length + ps.length) cap5)
        have ho6 := ow67 ho5 hc25 0 (.slice ao5 ((at0 fs x).zs.length + ps.length) cap5)
        have hown : ∀ k, (Value.slice ao5 ((at0 fs x).zs.length + ps.length) cap5).ownBlock = some k → Pl F w.heap.size k := fun k hk => by
          rcases hat5.out with e | e
          · rw [e] at hk
            exact r4 k (by rw [hf]; exact hk)
          · rw [hk] at e
            cases e
            exact Or.inr HSZ.out
        have hapn : ∀ q ∈ fs, q.1 ≠ x → (Value.slice ao5 ((at0 fs x).zs.length + ps.length) cap5).ownBlock = none ∨ (Value.slice ao5 ((at0 fs x).zs.length + ps.length) cap5).ownBlock ≠ q.2.v.ownBlock := fun q hq hne => by
          rcases hat5.out with e | e
          · rw [e, ← hf]; exact HAP.out q hq hne
          · refine Or.inr fun e' => ?_
            rw [e] at e'
            have := ((h2.rows q hq).1.lt e'.symm).1
            omega
        have hp := put_any (f := ⟨.slice ao5 ((at0 fs x).zs.length + ps.length) cap5, (at0 fs x).zs ++ ps, (at0 fs x).l⟩) (x := x) h5 hx ho6 (by simp only [hlen]; omega) (r3.append hby) hown hapn (by simp only [hlen]; have := HLE.out; have := HTD.out; omega)
          (by
            rcases HCN.out with e | e
            · obtain ⟨f, e'⟩ := Option.isSome_iff_exists.1 e
              exact Nat.le_trans (len_pt_of e') h2.cnt
            · exact Nat.le_trans (len_pt_le _ _ _) e)
        simp only [Fl.val] at hp
        have HG6 : Hid (Grows F w (W5.setCell ⟨W1.heap.size, 0, none⟩ (.slice ao5 ((at0 fs x).zs.length + ps.length) cap5))) :=
          HG3.out.pl ((Grows.grownBy (F := Pl F w.heap.size) hg5 fun k hk => r4 k (by rw [hf]; exact hk)).trans (Grows.setCell (F := Pl F w.heap.size) _ _ _ (Or.inr (Nat.le_of_lt hlt))) fun _ hk => Or.inl hk)
        have HS6 : Hid (w.heap.size ≤ (W5.setCell ⟨W1.heap.size, 0, none⟩ (.slice ao5 ((at0 fs x).zs.length + ps.length) cap5)).heap.size) := HG6.out.size
        refine hp.mono ?_
        rintro e W7 ⟨rfl, mb', h7, hG7⟩
        have HG7 : Hid (Grows F w W7) := HG6.out.pl hG7
        clear hG7 hp hapn hown h5 ho6 hg5 hat5 q0 q1 q2 q3 q4
        go_wp2_with fail
        go_ret
        refine ⟨by simp [wrE, hfl], .slice ao5 ((at0 fs x).zs.length + ps.length) cap5, mb', ?_, HG7.out⟩
        simp only [wrF, hfl]
        exact h7.plpl HS6.out
end Go.Proofs.YtnkjhooeklodcaaGreatDoor
end
