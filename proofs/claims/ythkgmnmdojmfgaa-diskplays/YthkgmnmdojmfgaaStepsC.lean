/-
  disk's step write, by its contract.
-/
import Derived.Test.YthkgmnmdojmfgaaStepsB
namespace Go.Proofs.Ythkgmnmdojmfgaa
open Go.RowKit Go.Maps
variable {X : Nm → Prop} {w w' : World} {F : Nat → Prop} {sb : Nat} {mb : Option Nat} {room : Int} {fs : Fls} {lit : Bool} {left : Int}

theorem len_run (h : Dx X w F sb mb room fs lit left) (ty : TypeId) : (Builtin.len_ #[58] ty #[.map mb]).run Try.prog w = .ok (.int .i64 (fs.length : Int)) w := by
  cases mb with
  | none => rw [len_nil Try.underlying58, h.nn rfl]; rfl
  | some b => rw [(h.map b rfl).2.len Try.underlying58, Dm_size]
/-- Is there no room? -/
def wfull (fs : Fls) (x : Nm) (m : Nat) (room : Int) : Bool := decide (room - (tot fs : Int) < (m : Int)) || (!(lk fs x).isSome && decide (4096 ≤ fs.length))
def wrE (fs : Fls) (x : Nm) (m : Nat) (room : Int) : Int := if wfull fs x m room then 6 else 0
def wrF (fs : Fls) (x : Nm) (ps : List Int) (room : Int) (v : Value) : Fls := if wfull fs x ps.length room then fs else pt fs x ⟨v, (at0 fs x).zs ++ ps, (at0 fs x).l⟩
def WRes (F : Nat → Prop) (sb : Nat) (room : Int) (fs : Fls) (x : Nm) (ps : List Int) (lit : Bool) (left : Int) (w w' : World) : Prop := ∃ v, Res F sb room (wrF fs x ps room v) lit left w w'
theorem at0_ow (h : Dk w F sb mb room fs lit left) (x : Nm) : Ow w 0 (at0 fs x).v (at0 fs x).zs ∧ (at0 fs x).l ≤ (at0 fs x).zs.length ∧ Byt (at0 fs x).zs ∧ ∀ k, (at0 fs x).v.ownBlock = some k → F k := by
  simp only [at0]
  cases hl : lk fs x with
  | none => exact ⟨World.ownsRow_nil _ _ _ _, Nat.le_refl _, fun z hz => (by cases hz), fun k hk => (by cases hk)⟩
  | some f => exact h.rows _ (lk_mem hl)
theorem at0_apart (h : Dk w F sb mb room fs lit left) (x : Nm) : ∀ p ∈ fs, p.1 ≠ x → (at0 fs x).v.ownBlock = none ∨ (at0 fs x).v.ownBlock ≠ p.2.v.ownBlock := by
  intro p hp hne
  simp only [at0]
  cases hl : lk fs x with
  | none => exact Or.inl rfl
  | some f => exact own_apart h hl p hp hne
theorem ow67 {v : Value} {zs : List Int} (h : Ow w 0 v zs) {g : Nat} {cs : List Value} (hc : Cw w g cs 67) (i : Nat) (u : Value) : Ow (w.setCell ⟨g, i, none⟩ u) 0 v zs :=
  h.keep fun k hk => Below.heap_setCell _ _ _ _ fun e => by
    have e' : k = g := e
    obtain ⟨_, cur, hk'⟩ := h.lt hk
    rw [e', hc] at hk'
    simp at hk'
/-- Behind an append to the file of x all else of the disk is as it was. -/
theorem Dx.appended (h : Dk w F sb mb room fs lit left) (x : Nm) (hg : w.grownBy w' (at0 fs x).v.ownBlock) : Dx (fun y => y = x) w' F sb mb room fs lit left where
  cells := h.cells.keep (hg.block sb h.cells.lt fun e => (row_ne h (at0_ow h x).1 e.symm).1 rfl)
  sF := h.sF
  nn := h.nn
  map := fun b hb => ⟨(h.map b hb).1, ownsMap_keep (h.map b hb).2 (hg.block b (h.map b hb).2.lt fun e => (row_ne h (at0_ow h x).1 e.symm).2 hb.symm)⟩
  form := h.form
  rowsX := fun p hp hn => by
    obtain ⟨h1, h2, h3, h4⟩ := h.rows p hp
    refine ⟨h1.keep fun k hk => hg.block k (h1.lt hk).1 fun e => ?_, h2, h3, h4⟩
    rcases at0_apart h x p hp hn with e' | e'
    · rw [← e] at e'; cases e'
    · exact e' (by rw [← e, hk])
  apart := h.apart
  room0 := h.room0
  fits := h.fits
  left0 := h.left0
  cnt := h.cnt
theorem row_keep {w w' : World} {g : Nat} {cs : List Value} {t : TypeId} {v : Value} {zs : List Int} (h : Cw w g cs t) (ho : Ow w 0 v zs) (ht : t ≠ 5) (hg : w.grownBy w' v.ownBlock) : Cw w' g cs t :=
  h.keep (hg.block g h.lt fun e => by
    obtain ⟨_, cur, hc⟩ := ho.lt e.symm
    rw [Cw, hc] at h
    simp only [Option.some.injEq, Obj.cells.injEq] at h
    exact ht h.2.1.symm)
theorem wfull_none {x : Nm} {m : Nat} (hl : lk fs x = none) (h : ¬ room - (tot fs : Int) < (m : Int)) : wfull fs x m room = decide ((4096 : Int) ≤ (fs.length : Int)) := by
  simp only [wfull, hl, decide_eq_false h, Option.isSome_none, Bool.not_false, Bool.true_and, Bool.false_or]
  exact decide_eq_decide.2 (by omega)
/-- A store into a variable of a file leaves the disk. -/
theorem Dx.set67 (h : Dx X w F sb mb room fs lit left) {g : Nat} {cs : List Value} (hc : Cw w g cs 67) (i : Nat) (v : Value) : Dx X (w.setCell ⟨g, i, none⟩ v) F sb mb room fs lit left where
  cells := h.cells.keep (Below.heap_setCell _ _ _ _ fun e => by
    have e' : sb = g := e
    have := h.cells
    rw [e', Cw, hc] at this
    simp at this)
  sF := h.sF
  nn := h.nn
  map := fun b hb => ⟨(h.map b hb).1, ownsMap_keep (h.map b hb).2 (Below.heap_setCell _ _ _ _ fun e => by
    have e' : b = g := e
    obtain ⟨es, cl, hk⟩ := ownsMap_kind (h.map b hb).2
    rw [e', hc] at hk
    cases hk)⟩
  form := h.form
  rowsX := fun p hp hn => by
    obtain ⟨h1, h2, h3, h4⟩ := h.rowsX p hp hn
    exact ⟨ow67 h1 hc i v, h2, h3, h4⟩
  apart := h.apart
  room0 := h.room0
  fits := h.fits
  left0 := h.left0
  cnt := h.cnt
theorem Byt.append {a b : List Int} (h : Byt a) (h' : Byt b) : Byt (a ++ b) := fun z hz => by
  rcases List.mem_append.1 hz with e | e
  · exact h z e
  · exact h' z e
theorem ln_at0 (fs : Fls) (x : Nm) : ln fs x = (at0 fs x).zs.length := by
  simp only [ln, at0]
  cases lk fs x <;> rfl
set_option maxRecDepth 20000 in
set_option maxHeartbeats 1600000 in
theorem write_any (h : Dk w F sb mb room fs lit left) (x : Nm) (hx : x.length ≤ maxLen) (o n : Value) (ap : Option Addr) (cp : Nat) (ps : List Int) (hps : Bs w (.slice ap ps.length cp) ps) (hby : Byt ps) :
    Calls Try.prog 32 #[.agg #[.pointer (some ⟨sb, 0, none⟩), encStr x, o, .slice ap ps.length cp, n]] w fun e w' => e = .returned (.int .i64 (wrE fs x ps.length room)) ∧ WRes F sb room fs x ps lit left w w' := by
  obtain ⟨ao, cap, hf⟩ := at0_form' h x
  obtain ⟨p, hp⟩ : ∃ p, p = Value.slice ap ps.length cp := ⟨_, rfl⟩
  rw [← hp] at hps ⊢
  go_enter Try.func32, Try.ntmps32
  refine wp_seq (wp_region_lit (wpList_box_row rfl 75 (.tmp 0) rfl [.pointer (some ⟨sb, 0, none⟩), encStr x, o, p, n] rfl ?_))
  intro W1 hc1 B1 HS1
  have h1 : Dk W1 (Pl F w.heap.size) sb mb room fs lit left := (h.to B1).pl _
  have HLS : Hid (∀ W, Below W1.heap.size W1 W → LookS w.heap.size sb mb x (.agg #[.slice ao (at0 fs x).zs.length cap, .int .i64 ((at0 fs x).l : Int)]) (lk fs x).isSome W) := fun W hW => by
    have := LookS.of h1 hx hc1 hW
    rw [Fl.val, hf] at this
    exact this
  have hz67 := zero67
  have e0 : W1.cell? ⟨w.heap.size, 0, none⟩ = some (.pointer (some ⟨sb, 0, none⟩)) := by rw [hc1.cell]; rfl
  go_upto_region 2 with fail
  go_cut [4, 5] (fun pv tv wx => pv = .pointer (some ⟨W1.heap.size, 0, none⟩) ∧ tv = .bool (lk fs x).isSome ∧ Cw wx W1.heap.size [.slice ao (at0 fs x).zs.length cap, .int .i64 ((at0 fs x).l : Int)] 67 ∧ Below W1.heap.size W1 wx)
  case first =>
    go_region_held3 (fun W => W.cell? ⟨w.heap.size, 0, none⟩ = some (.pointer (some ⟨sb, 0, none⟩)) ∧ W.cell? ⟨w.heap.size, 1, none⟩ = some (encStr x) ∧ W.cell? ⟨sb, 2, none⟩ = some (.map mb) ∧
      (Instr.lookup 58 (.map mb) (encStr x) true).run Try.prog W = .ok (.tuple #[.agg #[.slice ao (at0 fs x).zs.length cap, .int .i64 ((at0 fs x).l : Int)], .bool (lk fs x).isSome]) W)
      (first | exact HLS.out _ (Below.refl _ _).drew | exact HLS.out _ ((Below.refl _ _).drew.alloc (Nat.le_refl _) _))
      (fail)
    all_goals
      go_wp2_with fail
      go_meet
      exact ⟨rfl, rfl, Cw.new _ _ _, ((Below.refl _ _).alloc (Nat.le_refl _) _).drew⟩
  case rest =>
    rename World => W2
    obtain ⟨rfl, rfl, hc2, B2⟩ := hcut
    have hc12 := hc1.below B2 hc1.lt
    have h2 := h1.to B2
    have d0 : W2.cell? ⟨w.heap.size, 0, none⟩ = some (.pointer (some ⟨sb, 0, none⟩)) := by rw [hc12.cell]; rfl
    have d1 : W2.cell? ⟨w.heap.size, 1, none⟩ = some (encStr x) := by rw [hc12.cell]; rfl
    have d2 : W2.cell? ⟨w.heap.size, 2, none⟩ = some o := by rw [hc12.cell]; rfl
    have d3 : W2.cell? ⟨w.heap.size, 3, none⟩ = some p := by rw [hc12.cell]; rfl
    have d4 : W2.cell? ⟨w.heap.size, 4, none⟩ = some n := by rw [hc12.cell]; rfl
    have g0 : W2.cell? ⟨W1.heap.size, 0, none⟩ = some (.slice ao (at0 fs x).zs.length cap) := by rw [hc2.cell]; rfl
    have g1 : W2.cell? ⟨W1.heap.size, 1, none⟩ = some (.int .i64 ((at0 fs x).l : Int)) := by rw [hc2.cell]; rfl
    have HG2 : Hid (Grows F w W2) := ((Grows.refl F w).bel B1).bel B2
    have hlt := hc1.lt
    subst hp
    have hps2 := (hps.below B1 (Nat.le_refl _)).below B2 (Nat.le_refl _)
    obtain ⟨c0, c1, c2, c3, c4⟩ := h2.cell
    have hlr : ∀ n ty, (Builtin.len_ #[58] ty #[.map mb]).run Try.prog (W2.drewN n) = .ok (.int .i64 (fs.length : Int)) (W2.drewN n) := fun n ty => len_run (h2.keep (w' := W2.drewN n) fun _ _ _ => rfl) ty
    have hpl : ps.length ≤ maxLen := by obtain ⟨_, _, e, hm⟩ := hps.len; exact hm
    unfold maxLen at hpl
    have HFI := hid_into h2.fits
    have HR0 := hid_into h2.room0
    have hwr : wrap64 (room - (tot fs : Int)) = room - (tot fs : Int) := wrap_id _ (by have := HFI.out; omega) (by have := HR0.out; omega)
    obtain ⟨d, hd⟩ : ∃ d, d = room - (tot fs : Int) := ⟨_, rfl⟩
    have hwr2 : IntKind.i64.wrap (room - (tot fs : Int)) = d := by
      have := HFI.out; have := HR0.out
      rw [hd, IntKind.wrap_i64]; omega
    have HD := hid_into hd
    clear hd hwr
    clear HLS hz67 h hc1 B1 hps e0
    go_upto_region 3 with fail
    go_cut [5, 42] (fun tv bv wx => tv = .bool (lk fs x).isSome ∧ bv = .bool (wfull fs x ps.length room) ∧ Sm W2 wx)
    case first =>
      by_cases hA : d < (ps.length : Int)
      · have hA2 : decide (d < (ps.length : Int)) = true := decide_eq_true hA
        go_quiet (fail)
        go_wp2_with fail
        go_meet
        exact ⟨rfl, by rw [HD.out] at hA; simp [wfull, hA], Sm.drewN _ _⟩
      · have hA2 : decide (d < (ps.length : Int)) = false := decide_eq_false hA
        cases hl : lk fs x with
        | some f =>
          go_quiet (fail)
          go_wp2_with fail
          go_meet
          exact ⟨by simp [hl], by rw [HD.out] at hA; simp [wfull, hA, hl], Sm.drewN _ _⟩
        | none =>
          go_quiet (fail)
          go_wp2_with fail
          go_meet
          exact ⟨by simp [hl], by rw [wfull_none hl (by rw [← HD.out]; omega)], Sm.drewN _ _⟩
    case rest =>
      obtain ⟨rfl, rfl, hsm⟩ := hcut
      rename World => W3
      replace hps2 := hsm.bs hps2
      replace h2 : Dk W3 (Pl F w.heap.size) sb mb room fs lit left := h2.keep fun _ _ _ => by rw [hsm.heap]
      have HB3 : Hid (Below W1.heap.size W1 W3) := B2.trans (hsm.below _)
      replace hc12 := hsm.cw hc12
      replace hc2 := hsm.cw hc2
      have HG3 : Hid (Grows F w W3) := HG2.out.bel (hsm.below _)
      clear B2 HG2 d0 d1 d2 d3 d4 g0 g1 c0 c1 c2 c3 c4 hlr hsm
      have d0 : W3.cell? ⟨w.heap.size, 0, none⟩ = some (.pointer (some ⟨sb, 0, none⟩)) := by rw [hc12.cell]; rfl
      have d1 : W3.cell? ⟨w.heap.size, 1, none⟩ = some (encStr x) := by rw [hc12.cell]; rfl
      have d3 : W3.cell? ⟨w.heap.size, 3, none⟩ = some (.slice ap ps.length cp) := by rw [hc12.cell]; rfl
      have g0 : W3.cell? ⟨W1.heap.size, 0, none⟩ = some (.slice ao (at0 fs x).zs.length cap) := by rw [hc2.cell]; rfl
      have g1 : W3.cell? ⟨W1.heap.size, 1, none⟩ = some (.int .i64 ((at0 fs x).l : Int)) := by rw [hc2.cell]; rfl
      have HSZ : Hid (w.heap.size ≤ W3.heap.size) := Nat.le_trans (Nat.le_of_lt hlt) HB3.out.size
      cases hfl : wfull fs x ps.length room with
      | true =>
        go_wp2_with fail
        go_ret
        exact ⟨by simp [wrE, hfl], .slice none 0 0, mb, by simp only [wrF, hfl, if_true]; exact h2, HG3.out⟩
      | false =>
        obtain ⟨r1, r2, r3, r4⟩ := at0_ow h2 x
        have hle : (ps.length : Int) ≤ room - (tot fs : Int) := by simp [wfull] at hfl; exact hfl.1
        have hcn : (lk fs x).isSome = true ∨ fs.length < 4096 := by
          simp [wfull] at hfl
          cases hl : lk fs x with
          | none => exact Or.inr (by have := hfl.2 hl; omega)
          | some f => exact Or.inl rfl
        have HLE := hid_into hle
        have HCN := hid_into hcn
        have htd := tot_dl (x := x) h2.diff
        rw [ln_at0] at htd
        have HTD := hid_into htd
        clear htd hle hcn
        have r1' : Ow W3 0 (.slice ao (at0 fs x).zs.length cap) (at0 fs x).zs := by rw [← hf]; exact r1
        have HNV : Hid (w.heap.size ≠ W1.heap.size) := Nat.ne_of_lt hlt
        have hap := at0_apart h2 x
        have HAP := hid_into hap
        clear hap
        go_wp2_with (at_builtin; refine wpList_append_bs _ rfl (.tmp 44) (.tmp 46) rfl 0 _ (at0 fs x).zs rfl r1' _ ps rfl hps2 (by have := HLE.out; have := HTD.out; have := HR0.out; omega) (Nat.zero_le _) ?_; intro ao5 cap5 W5 ho5 hg5 hat5; replace hat5 := hid_into hat5; have hc15 := row_keep hc12 r1' (by decide) hg5; have hc25 := row_keep hc2 r1' (by decide) hg5; have q0 := hc25.frozen 0; have q1 : W5.cell? ⟨W1.heap.size, 0, none⟩ = some (.slice ao (at0 fs x).zs.length cap) := (by rw [hc25.cell]; rfl); have hc16 : ∀ v, Cw (W5.setCell ⟨W1.heap.size, 0, none⟩ v) w.heap.size [.pointer (some ⟨sb, 0, none⟩), encStr x, o, .slice ap ps.length cp, n] 75 := (fun v => hc15.keep (Below.heap_setCell _ _ _ _ HNV.out)); have hc26 : ∀ v, Cw (W5.setCell ⟨W1.heap.size, 0, none⟩ v) W1.heap.size [v, .int .i64 ((at0 fs x).l : Int)] 67 := (fun v => hc25.set 0 v); have q2 : ∀ v, (W5.setCell ⟨W1.heap.size, 0, none⟩ v).cell? ⟨w.heap.size, 1, none⟩ = some (encStr x) := (fun v => by rw [(hc16 v).cell]; rfl); have q3 : ∀ v, (W5.setCell ⟨W1.heap.size, 0, none⟩ v).cell? ⟨W1.heap.size, 0, none⟩ = some v := (fun v => by rw [(hc26 v).cell]; rfl); have q4 : ∀ v, (W5.setCell ⟨W1.heap.size, 0, none⟩ v).cell? ⟨W1.heap.size, 1, none⟩ = some (.int .i64 ((at0 fs x).l : Int)) := (fun v => by rw [(hc26 v).cell]; rfl))
        have hlen : ((at0 fs x).zs ++ ps).length = (at0 fs x).zs.length + ps.length := List.length_append
        have h5 := (h2.appended x (by rw [hf]; exact hg5)).set67 hc25 0 (.slice ao5 ((at0 fs x).zs.length + ps.length) cap5)
        have ho6 := ow67 ho5 hc25 0 (.slice ao5 ((at0 fs x).zs.length + ps.length) cap5)
        have hown : ∀ k, (Value.slice ao5 ((at0 fs x).zs.length + ps.length) cap5).ownBlock = some k → Pl F w.heap.size k := fun k hk => by
          rcases hat5.out with e | e
          · rw [e] at hk
            exact r4 k (by rw [hf]; exact hk)
          · rw [hk] at e
            cases e
            exact Or.inr HSZ.out
        have hapn : ∀ q ∈ fs, q.1 ≠ x → (Value.slice ao5 ((at0 fs x).zs.length + ps.length) cap5).ownBlock = none ∨ (Value.slice ao5 ((at0 fs x).zs.length + ps.length) cap5).ownBlock ≠ q.2.v.ownBlock := fun q hq hne => by
          rcases hat5.out with e | e
          · rw [e, ← hf]; exact HAP.out q hq hne
          · refine Or.inr fun e' => ?_
            rw [e] at e'
            have := ((h2.rows q hq).1.lt e'.symm).1
            omega
        have hp := put_any (f := ⟨.slice ao5 ((at0 fs x).zs.length + ps.length) cap5, (at0 fs x).zs ++ ps, (at0 fs x).l⟩) (x := x) h5 hx ho6 (by simp only [hlen]; omega) (r3.append hby) hown hapn (by simp only [hlen]; have := HLE.out; have := HTD.out; omega)
          (by
            rcases HCN.out with e | e
            · obtain ⟨f, e'⟩ := Option.isSome_iff_exists.1 e
              exact Nat.le_trans (len_pt_of e') h2.cnt
            · exact Nat.le_trans (len_pt_le _ _ _) e)
        simp only [Fl.val] at hp
        have HG6 : Hid (Grows F w (W5.setCell ⟨W1.heap.size, 0, none⟩ (.slice ao5 ((at0 fs x).zs.length + ps.length) cap5))) :=
          HG3.out.pl ((Grows.grownBy (F := Pl F w.heap.size) hg5 fun k hk => r4 k (by rw [hf]; exact hk)).trans (Grows.setCell (F := Pl F w.heap.size) _ _ _ (Or.inr (Nat.le_of_lt hlt))) fun _ hk => Or.inl hk)
        have HS6 : Hid (w.heap.size ≤ (W5.setCell ⟨W1.heap.size, 0, none⟩ (.slice ao5 ((at0 fs x).zs.length + ps.length) cap5)).heap.size) := HG6.out.size
        refine hp.mono ?_
        rintro e W7 ⟨rfl, mb', h7, hG7⟩
        have HG7 : Hid (Grows F w W7) := HG6.out.pl hG7
        clear hG7 hp hapn hown h5 ho6 hg5 hat5 q0 q1 q2 q3 q4
        go_wp2_with fail
        go_ret
        refine ⟨by simp [wrE, hfl], .slice ao5 ((at0 fs x).zs.length + ps.length) cap5, mb', ?_, HG7.out⟩
        simp only [wrF, hfl]
        exact h7.plpl HS6.out
end Go.Proofs.Ythkgmnmdojmfgaa
