/-
  Joined from: StepsC, Gate, GateB, Five.
-/
import Derived.Test.YtnkjhooeklodcaaGreatDoorM21
import Derived.LoopN
import Derived.Shelf.Abstract
section
/-
  disk's step write, by its contract.
-/
namespace Go.Proofs.YtnkjhooeklodcaaGreatDoor
open Go.RowKit Go.Maps
variable {X : Nm → Prop} {w w' : World} {F : Nat → Prop} {sb : Nat} {mb : Option Nat} {room : Int} {fs : Fls} {lit : Bool} {left : Int}

theorem len_run (h : Dx X w F sb mb room fs lit left) (ty : TypeId) : (Builtin.len_ #[86] ty #[.map mb]).run Tryz.prog w = .ok (.int .i64 (fs.length : Int)) w := by
  cases mb with
  | none => rw [len_nil Tryz.underlying86, h.nn rfl]; rfl
  | some b => rw [(h.map b rfl).2.len Tryz.underlying86, Dm_size]
def wfull (fs : Fls) (x : Nm) (m : Nat) (room : Int) : Bool := decide (room - (tot fs : Int) < (m : Int)) || (!(lk fs x).isSome && decide (4096 ≤ fs.length))
def wrE (fs : Fls) (x : Nm) (m : Nat) (room : Int) : Int := if wfull fs x m room then 6 else 0
def wrF (fs : Fls) (x : Nm) (ps : List Int) (room : Int) (v : Value) : Fls := if wfull fs x ps.length room then fs else pt fs x ⟨v, (at0 fs x).zs ++ ps, (at0 fs x).l⟩
def WRes (F : Nat → Prop) (sb : Nat) (room : Int) (fs : Fls) (x : Nm) (ps : List Int) (lit : Bool) (left : Int) (w w' : World) : Prop := ∃ v, Res F sb room (wrF fs x ps room v) lit left w w'
theorem at0_ow (h : Dk w F sb mb room fs lit left) (x : Nm) : Ow w 0 (at0 fs x).v (at0 fs x).zs ∧ (at0 fs x).l ≤ (at0 fs x).zs.length ∧ Byt (at0 fs x).zs ∧ ∀ k, (at0 fs x).v.ownBlock = some k → F k := by
  simp only [at0]
  cases hl : lk fs x with
  | none => exact ⟨World.ownsRow_nil _ _ _ _, Nat.le_refl _, fun z hz => (by cases hz), fun k hk => (by cases hk)⟩
  | some f => exact h.rows _ (lk_mem hl)
theorem at0_apart (h : Dk w F sb mb room fs lit left) (x : Nm) : ∀ p ∈ fs, p.1 ≠ x → (at0 fs x).v.ownBlock = none ∨ (at0 fs x).v.ownBlock ≠ p.2.v.ownBlock := by
  intro p hp hne
  simp only [at0]
  cases hl : lk fs x with
  | none => exact Or.inl rfl
  | some f => exact own_apart h hl p hp hne
theorem ow67 {v : Value} {zs : List Int} (h : Ow w 0 v zs) {g : Nat} {cs : List Value} (hc : Cw w g cs 106) (i : Nat) (u : Value) : Ow (w.setCell ⟨g, i, none⟩ u) 0 v zs :=
  h.keep fun k hk => Below.heap_setCell _ _ _ _ fun e => by
    have e' : k = g := e
    obtain ⟨_, cur, hk'⟩ := h.lt hk
    rw [e', hc] at hk'
    simp at hk'
theorem Dx.appended (h : Dk w F sb mb room fs lit left) (x : Nm) (hg : w.grownBy w' (at0 fs x).v.ownBlock) : Dx (fun y => y = x) w' F sb mb room fs lit left where
  cells := h.cells.keep (hg.block sb h.cells.lt fun e => (row_ne h (at0_ow h x).1 e.symm).1 rfl)
  sF := h.sF
  nn := h.nn
  map := fun b hb => ⟨(h.map b hb).1, ownsMap_keep (h.map b hb).2 (hg.block b (h.map b hb).2.lt fun e => (row_ne h (at0_ow h x).1 e.symm).2 hb.symm)⟩
  form := h.form
  rowsX := fun p hp hn => by
    obtain ⟨h1, h2, h3, h4⟩ := h.rows p hp
    refine ⟨h1.keep fun k hk => hg.block k (h1.lt hk).1 fun e => ?_, h2, h3, h4⟩
    rcases at0_apart h x p hp hn with e' | e'
    · rw [← e] at e'; cases e'
    · exact e' (by rw [← e, hk])
  apart := h.apart
  room0 := h.room0
  fits := h.fits
  left0 := h.left0
  cnt := h.cnt
theorem row_keep {w w' : World} {g : Nat} {cs : List Value} {t : TypeId} {v : Value} {zs : List Int} (h : Cw w g cs t) (ho : Ow w 0 v zs) (ht : t ≠ 5) (hg : w.grownBy w' v.ownBlock) : Cw w' g cs t :=
  h.keep (hg.block g h.lt fun e => by
    obtain ⟨_, cur, hc⟩ := ho.lt e.symm
    rw [Cw, hc] at h
    simp only [Option.some.injEq, Obj.cells.injEq] at h
    exact ht h.2.1.symm)
theorem wfull_none {x : Nm} {m : Nat} (hl : lk fs x = none) (h : ¬ room - (tot fs : Int) < (m : Int)) : wfull fs x m room = decide ((4096 : Int) ≤ (fs.length : Int)) := by
  simp only [wfull, hl, decide_eq_false h, Option.isSome_none, Bool.not_false, Bool.true_and, Bool.false_or]
  exact decide_eq_decide.2 (by omega)
theorem Dx.set67 (h : Dx X w F sb mb room fs lit left) {g : Nat} {cs : List Value} (hc : Cw w g cs 106) (i : Nat) (v : Value) : Dx X (w.setCell ⟨g, i, none⟩ v) F sb mb room fs lit left where
  cells := h.cells.keep (Below.heap_setCell _ _ _ _ fun e => by
    have e' : sb = g := e
    have := h.cells
    rw [e', Cw, hc] at this
    simp at this)
  sF := h.sF
  nn := h.nn
  map := fun b hb => ⟨(h.map b hb).1, ownsMap_keep (h.map b hb).2 (Below.heap_setCell _ _ _ _ fun e => by
    have e' : b = g := e
    obtain ⟨es, cl, hk⟩ := ownsMap_kind (h.map b hb).2
    rw [e', hc] at hk
    cases hk)⟩
  form := h.form
  rowsX := fun p hp hn => by
    obtain ⟨h1, h2, h3, h4⟩ := h.rowsX p hp hn
    exact ⟨ow67 h1 hc i v, h2, h3, h4⟩
  apart := h.apart
  room0 := h.room0
  fits := h.fits
  left0 := h.left0
  cnt := h.cnt
theorem Byt.append {a b : List Int} (h : Byt a) (h' : Byt b) : Byt (a ++ b) := fun z hz => by
  rcases List.mem_append.1 hz with e | e
  · exact h z e
  · exact h' z e
theorem ln_at0 (fs : Fls) (x : Nm) : ln fs x = (at0 fs x).zs.length := by
  simp only [ln, at0]
  cases lk fs x <;> rfl
set_option maxRecDepth 20000 in
set_option maxHeartbeats 1600000 in
theorem write_any (h : Dk w F sb mb room fs lit left) (x : Nm) (hx : x.length ≤ maxLen) (o n : Value) (ap : Option Addr) (cp : Nat) (ps : List Int) (hps : Bs w (.slice ap ps.length cp) ps) (hby : Byt ps) :
    Calls Tryz.prog 67 #[.agg #[.pointer (some ⟨sb, 0, none⟩), encStr x, o, .slice ap ps.length cp, n]] w fun e w' => e = .returned (.int .i64 (wrE fs x ps.length room)) ∧ WRes F sb room fs x ps lit left w w' := by
  obtain ⟨ao, cap, hf⟩ := at0_form' h x
  obtain ⟨p, hp⟩ : ∃ p, p = Value.slice ap ps.length cp := ⟨_, rfl⟩
  rw [← hp] at hps ⊢
  go_enter Tryz.func67, Tryz.ntmps67
  refine wp_seq (wp_region_lit (wpList_box_row rfl 118 (.tmp 0) rfl [.pointer (some ⟨sb, 0, none⟩), encStr x, o, p, n] rfl ?_))
  intro W1 hc1 B1 HS1
  have h1 : Dk W1 (Pl F w.heap.size) sb mb room fs lit left := (h.to B1).pl _
  have HLS : Hid (∀ W, Below W1.heap.size W1 W → LookS w.heap.size sb mb x (.agg #[.slice ao (at0 fs x).zs.length cap, .int .i64 ((at0 fs x).l : Int)]) (lk fs x).isSome W) := fun W hW => by
    have := LookS.of h1 hx hc1 hW
    rw [Fl.val, hf] at this
    exact this
  have hz67 := zero67
  have e0 : W1.cell? ⟨w.heap.size, 0, none⟩ = some (.pointer (some ⟨sb, 0, none⟩)) := by rw [hc1.cell]; rfl
  go_upto_region 2 with fail
  go_cut [4, 5] (fun pv tv wx => pv = .pointer (some ⟨W1.heap.size, 0, none⟩) ∧ tv = .bool (lk fs x).isSome ∧ Cw wx W1.heap.size [.slice ao (at0 fs x).zs.length cap, .int .i64 ((at0 fs x).l : Int)] 106 ∧ Below W1.heap.size W1 wx)
  case first =>
    go_region_held3 (fun W => W.cell? ⟨w.heap.size, 0, none⟩ = some (.pointer (some ⟨sb, 0, none⟩)) ∧ W.cell? ⟨w.heap.size, 1, none⟩ = some (encStr x) ∧ W.cell? ⟨sb, 2, none⟩ = some (.map mb) ∧
      (Instr.lookup 86 (.map mb) (encStr x) true).run Tryz.prog W = .ok (.tuple #[.agg #[.slice ao (at0 fs x).zs.length cap, .int .i64 ((at0 fs x).l : Int)], .bool (lk fs x).isSome]) W)
      (first | exact HLS.out _ (Below.refl _ _).drew | exact HLS.out _ ((Below.refl _ _).drew.alloc (Nat.le_refl _) _))
      (fail)
    all_goals
      go_wp2_with fail
      go_meet
      exact ⟨rfl, rfl, Cw.new _ _ _, ((Below.refl _ _).alloc (Nat.le_refl _) _).drew⟩
  case rest =>
    rename World => W2
    obtain ⟨rfl, rfl, hc2, B2⟩ := hcut
    have hc12 := hc1.below B2 hc1.lt
    have h2 := h1.to B2
    have d0 : W2.cell? ⟨w.heap.size, 0, none⟩ = some (.pointer (some ⟨sb, 0, none⟩)) := by rw [hc12.cell]; rfl
    have d1 : W2.cell? ⟨w.heap.size, 1, none⟩ = some (encStr x) := by rw [hc12.cell]; rfl
    have d2 : W2.cell? ⟨w.heap.size, 2, none⟩ = some o := by rw [hc12.cell]; rfl
    have d3 : W2.cell? ⟨w.heap.size, 3, none⟩ = some p := by rw [hc12.cell]; rfl
    have d4 : W2.cell? ⟨w.heap.size, 4, none⟩ = some n := by rw [hc12.cell]; rfl
    have g0 : W2.cell? ⟨W1.heap.size, 0, none⟩ = some (.slice ao (at0 fs x).zs.length cap) := by rw [hc2.cell]; rfl
    have g1 : W2.cell? ⟨W1.heap.size, 1, none⟩ = some (.int .i64 ((at0 fs x).l : Int)) := by rw [hc2.cell]; rfl
    have HG2 : Hid (Grows F w W2) := ((Grows.refl F w).bel B1).bel B2
    have hlt := hc1.lt
    subst hp
    have hps2 := (hps.below B1 (Nat.le_refl _)).below B2 (Nat.le_refl _)
    obtain ⟨c0, c1, c2, c3, c4⟩ := h2.cell
    have hlr : ∀ n ty, (Builtin.len_ #[86] ty #[.map mb]).run Tryz.prog (W2.drewN n) = .ok (.int .i64 (fs.length : Int)) (W2.drewN n) := fun n ty => len_run (h2.keep (w' := W2.drewN n) fun _ _ _ => rfl) ty
    have hpl : ps.length ≤ maxLen := by obtain ⟨_, _, e, hm⟩ := hps.len; exact hm
    unfold maxLen at hpl
    have HFI := hid_into h2.fits
    have HR0 := hid_into h2.room0
    have hwr : wrap64 (room - (tot fs : Int)) = room - (tot fs : Int) := wrap_id _ (by have := HFI.out; omega) (by have := HR0.out; omega)
    obtain ⟨d, hd⟩ : ∃ d, d = room - (tot fs : Int) := ⟨_, rfl⟩
    have hwr2 : IntKind.i64.wrap (room - (tot fs : Int)) = d := by
      have := HFI.out; have := HR0.out
      rw [hd, IntKind.wrap_i64]; omega
    have HD := hid_into hd
    clear hd hwr
    clear HLS hz67 h hc1 B1 hps e0
    go_upto_region 3 with fail
    go_cut [5, 42] (fun tv bv wx => tv = .bool (lk fs x).isSome ∧ bv = .bool (wfull fs x ps.length room) ∧ Sm W2 wx)
    case first =>
      by_cases hA : d < (ps.length : Int)
      · have hA2 : decide (d < (ps.length : Int)) = true := decide_eq_true hA
        go_quiet (fail)
        go_wp2_with fail
        go_meet
        exact ⟨rfl, by rw [HD.out] at hA; simp [wfull, hA], Sm.drewN _ _⟩
      · have hA2 : decide (d < (ps.length : Int)) = false := decide_eq_false hA
        cases hl : lk fs x with
        | some f =>
          go_quiet (fail)
          go_wp2_with fail
          go_meet
          exact ⟨by simp [hl], by rw [HD.out] at hA; simp [wfull, hA, hl], Sm.drewN _ _⟩
        | none =>
          go_quiet (fail)
          go_wp2_with fail
          go_meet
          exact ⟨by simp [hl], by rw [wfull_none hl (by rw [← HD.out]; omega)], Sm.drewN _ _⟩
    case rest =>
      obtain ⟨rfl, rfl, hsm⟩ := hcut
      rename World => W3
      replace hps2 := hsm.bs hps2
      replace h2 : Dk W3 (Pl F w.heap.size) sb mb room fs lit left := h2.keep fun _ _ _ => by rw [hsm.heap]
      have HB3 : Hid (Below W1.heap.size W1 W3) := B2.trans (hsm.below _)
      replace hc12 := hsm.cw hc12
      replace hc2 := hsm.cw hc2
      have HG3 : Hid (Grows F w W3) := HG2.out.bel (hsm.below _)
      clear B2 HG2 d0 d1 d2 d3 d4 g0 g1 c0 c1 c2 c3 c4 hlr hsm
      have d0 : W3.cell? ⟨w.heap.size, 0, none⟩ = some (.pointer (some ⟨sb, 0, none⟩)) := by rw [hc12.cell]; rfl
      have d1 : W3.cell? ⟨w.heap.size, 1, none⟩ = some (encStr x) := by rw [hc12.cell]; rfl
      have d3 : W3.cell? ⟨w.heap.size, 3, none⟩ = some (.slice ap ps.length cp) := by rw [hc12.cell]; rfl
      have g0 : W3.cell? ⟨W1.heap.size, 0, none⟩ = some (.slice ao (at0 fs x).zs.length cap) := by rw [hc2.cell]; rfl
      have g1 : W3.cell? ⟨W1.heap.size, 1, none⟩ = some (.int .i64 ((at0 fs x).l : Int)) := by rw [hc2.cell]; rfl
      have HSZ : Hid (w.heap.size ≤ W3.heap.size) := Nat.le_trans (Nat.le_of_lt hlt) HB3.out.size
      cases hfl : wfull fs x ps.length room with
      | true =>
        go_wp2_with fail
        go_ret
        exact ⟨by simp [wrE, hfl], .slice none 0 0, mb, by simp only [wrF, hfl, if_true]; exact h2, HG3.out⟩
      | false =>
        obtain ⟨r1, r2, r3, r4⟩ := at0_ow h2 x
        have hle : (ps.length : Int) ≤ room - (tot fs : Int) := by simp [wfull] at hfl; exact hfl.1
        have hcn : (lk fs x).isSome = true ∨ fs.length < 4096 := by
          simp [wfull] at hfl
          cases hl : lk fs x with
          | none => exact Or.inr (by have := hfl.2 hl; omega)
          | some f => exact Or.inl rfl
        have HLE := hid_into hle
        have HCN := hid_into hcn
        have htd := tot_dl (x := x) h2.diff
        rw [ln_at0] at htd
        have HTD := hid_into htd
        clear htd hle hcn
        have r1' : Ow W3 0 (.slice ao (at0 fs x).zs.length cap) (at0 fs x).zs := by rw [← hf]; exact r1
        have HNV : Hid (w.heap.size ≠ W1.heap.size) := Nat.ne_of_lt hlt
        have hap := at0_apart h2 x
        have HAP := hid_into hap
        clear hap
        go_wp2_with (at_builtin; refine wpList_append_bs _ rfl (.tmp 44) (.tmp 46) rfl 0 _ (at0 fs x).zs rfl r1' _ ps rfl hps2 (by have := HLE.out; have := HTD.out; have := HR0.out; omega) (Nat.zero_le _) ?_; intro ao5 cap5 W5 ho5 hg5 hat5; replace hat5 := hid_into hat5; have hc15 := row_keep hc12 r1' (by decide) hg5; have hc25 := row_keep hc2 r1' (by decide) hg5; have q0 := hc25.frozen 0; have q1 : W5.cell? ⟨W1.heap.size, 0, none⟩ = some (.slice ao (at0 fs x).zs.length cap) := (by rw [hc25.cell]; rfl); have hc16 : ∀ v, Cw (W5.setCell ⟨W1.heap.size, 0, none⟩ v) w.heap.size [.pointer (some ⟨sb, 0, none⟩), encStr x, o, .slice ap ps.length cp, n] 118 := (fun v => hc15.keep (Below.heap_setCell _ _ _ _ HNV.out)); have hc26 : ∀ v, Cw (W5.setCell ⟨W1.heap.size, 0, none⟩ v) W1.heap.size [v, .int .i64 ((at0 fs x).l : Int)] 106 := (fun v => hc25.set 0 v); have q2 : ∀ v, (W5.setCell ⟨W1.heap.size, 0, none⟩ v).cell? ⟨w.heap.size, 1, none⟩ = some (encStr x) := (fun v => by rw [(hc16 v).cell]; rfl); have q3 : ∀ v, (W5.setCell ⟨W1.heap.size, 0, none⟩ v).cell? ⟨W1.heap.size, 0, none⟩ = some v := (fun v => by rw [(hc26 v).cell]; rfl); have q4 : ∀ v, (W5.setCell ⟨W1.heap.size, 0, none⟩ v).cell? ⟨W1.heap.size, 1, none⟩ = some (.int .i64 ((at0 fs x).l : Int)) := (fun v => by rw [(hc26 v).cell]; rfl))
        have hlen : ((at0 fs x).zs ++ ps).length = (at0 fs x).zs.length + ps.length := List.length_append
        have h5 := (h2.appended x (by rw [hf]; exact hg5)).set67 hc25 0 (.slice ao5 ((at0 fs x).zs.length + ps.length) cap5)
        have ho6 := ow67 ho5 hc25 0 (.slice ao5 ((at0 fs x).zs.length + ps.length) cap5)
        have hown : ∀ k, (Value.slice ao5 ((at0 fs x).zs.length + ps.length) cap5).ownBlock = some k → Pl F w.heap.size k := fun k hk => by
          rcases hat5.out with e | e
          · rw [e] at hk
            exact r4 k (by rw [hf]; exact hk)
          · rw [hk] at e
            cases e
            exact Or.inr HSZ.out
        have hapn : ∀ q ∈ fs, q.1 ≠ x → (Value.slice ao5 ((at0 fs x).zs.length + ps.length) cap5).ownBlock = none ∨ (Value.slice ao5 ((at0 fs x).zs.length + ps.length) cap5).ownBlock ≠ q.2.v.ownBlock := fun q hq hne => by
          rcases hat5.out with e | e
          · rw [e, ← hf]; exact HAP.out q hq hne
          · refine Or.inr fun e' => ?_
            rw [e] at e'
            have := ((h2.rows q hq).1.lt e'.symm).1
            omega
        have hp := put_any (f := ⟨.slice ao5 ((at0 fs x).zs.length + ps.length) cap5, (at0 fs x).zs ++ ps, (at0 fs x).l⟩) (x := x) h5 hx ho6 (by simp only [hlen]; omega) (r3.append hby) hown hapn (by simp only [hlen]; have := HLE.out; have := HTD.out; omega)
          (by
            rcases HCN.out with e | e
            · obtain ⟨f, e'⟩ := Option.isSome_iff_exists.1 e
              exact Nat.le_trans (len_pt_of e') h2.cnt
            · exact Nat.le_trans (len_pt_le _ _ _) e)
        simp only [Fl.val] at hp
        have HG6 : Hid (Grows F w (W5.setCell ⟨W1.heap.size, 0, none⟩ (.slice ao5 ((at0 fs x).zs.length + ps.length) cap5))) :=
          HG3.out.pl ((Grows.grownBy (F := Pl F w.heap.size) hg5 fun k hk => r4 k (by rw [hf]; exact hk)).trans (Grows.setCell (F := Pl F w.heap.size) _ _ _ (Or.inr (Nat.le_of_lt hlt))) fun _ hk => Or.inl hk)
        have HS6 : Hid (w.heap.size ≤ (W5.setCell ⟨W1.heap.size, 0, none⟩ (.slice ao5 ((at0 fs x).zs.length + ps.length) cap5)).heap.size) := HG6.out.size
        refine hp.mono ?_
        rintro e W7 ⟨rfl, mb', h7, hG7⟩
        have HG7 : Hid (Grows F w W7) := HG6.out.pl hG7
        clear hG7 hp hapn hown h5 ho6 hg5 hat5 q0 q1 q2 q3 q4
        go_wp2_with fail
        go_ret
        refine ⟨by simp [wrE, hfl], .slice ao5 ((at0 fs x).zs.length + ps.length) cap5, mb', ?_, HG7.out⟩
        simp only [wrF, hfl]
        exact h7.plpl HS6.out
end Go.Proofs.YtnkjhooeklodcaaGreatDoor
end

section
/-
  disk's gate: the names (isNone, slices.ContainsFunc of one or two names), the fuse (burnt, burn), and what is done, by contracts.
-/
namespace Go.Proofs.YtnkjhooeklodcaaGreatDoor
open Go.RowKit Go.Maps
variable {X : Nm → Prop} {w w' : World} {F : Nat → Prop} {sb : Nat} {mb : Option Nat} {room : Int} {fs : Fls} {lit : Bool} {left : Int}

def noneB (x : Nm) : Bool := decide ((x.length : Int) < 1) || decide ((64 : Int) < (x.length : Int))
theorem str_size (x : Nm) : (⟨x.toArray⟩ : ByteArray).size = x.length := by simp [ByteArray.size]
theorem isNone_any (x : Nm) (w : World) : Calls Tryz.prog 95 #[encStr x] w fun e w' => e = .returned (.bool (noneB x)) ∧ w' = w := by
  have hs := str_size x
  by_cases h1 : (x.length : Int) < 1
  · have HN : Hid (noneB x = true) := by simp [Hid, noneB, h1]
    go_enter Tryz.func95, Tryz.ntmps95
    go_wp2
    go_ret
    exact ⟨by rw [HN.out]; rfl, rfl⟩
  · have HN : Hid (noneB x = decide ((64 : Int) < (x.length : Int))) := by simp [Hid, noneB, h1]
    go_enter Tryz.func95, Tryz.ntmps95
    go_wp2
    go_ret
    exact ⟨by rw [HN.out]; rfl, rfl⟩
def burntB (lit : Bool) (left : Int) : Bool := lit && (left == 0)
theorem burnt_any (lit : Bool) (left : Int) (w : World) : Calls Tryz.prog 93 #[.agg #[.bool lit, .int .i64 left]] w fun e w' => e = .returned (.bool (burntB lit left)) ∧ Below w.heap.size w w' := by
  cases lit with
  | false =>
    go_enter Tryz.func93, Tryz.ntmps93
    go_wp2
    go_ret
    exact ⟨rfl, (Below.refl _ _).alloc (Nat.le_refl _) _⟩
  | true =>
    go_enter Tryz.func93, Tryz.ntmps93
    go_wp2
    go_ret
    exact ⟨by simp [burntB], (Below.refl _ _).alloc (Nat.le_refl _) _⟩
theorem has_one (b : Nat) (x : Nm) (w : World) (hc : Cw w b [encStr x] 9) : Calls Tryz.prog 94 #[.slice (some ⟨b, 0, none⟩) 1 1, .func (.func 95) #[] #[]] w fun e w' => e = .returned (.bool (noneB x)) ∧ w' = w := by
  have c0 : w.cell? ⟨b, 0, none⟩ = some (encStr x) := by rw [hc.cell]; rfl
  cases hn : noneB x with
  | true =>
    have hi : Calls Tryz.prog 117 #[.slice (some ⟨b, 0, none⟩) 1 1, .func (.func 95) #[] #[]] w fun e w' => e = .returned (.int .i64 0) ∧ w' = w := by
      go_enter Tryz.func117, Tryz.ntmps117
      go_wp2_with fail
      refine wp_loop_rounds 2 ?_
      rw [rounds_succ]
      go_wp2_with fail
      refine (isNone_any x w).mono ?_
      rintro e w' ⟨rfl, rfl⟩
      go_wp2_with fail
      go_ret
      exact ⟨rfl, rfl⟩
    go_enter Tryz.func94, Tryz.ntmps94
    go_wp2_with fail
    refine hi.mono ?_
    rintro e w' ⟨rfl, rfl⟩
    go_wp2_with fail
    go_ret
    exact ⟨rfl, rfl⟩
  | false =>
    have hi : Calls Tryz.prog 117 #[.slice (some ⟨b, 0, none⟩) 1 1, .func (.func 95) #[] #[]] w fun e w' => e = .returned (.int .i64 (-1)) ∧ w' = w := by
      go_enter Tryz.func117, Tryz.ntmps117
      go_wp2_with fail
      refine wp_loop_rounds 2 ?_
      rw [rounds_succ]
      go_wp2_with fail
      refine (isNone_any x w).mono ?_
      rintro e w' ⟨rfl, rfl⟩
      go_wp2_with fail
      rw [rounds_succ]
      go_wp2_with fail
      go_ret
      exact ⟨rfl, rfl⟩
    go_enter Tryz.func94, Tryz.ntmps94
    go_wp2_with fail
    refine hi.mono ?_
    rintro e w' ⟨rfl, rfl⟩
    go_wp2_with fail
    go_ret
    exact ⟨rfl, rfl⟩
theorem has_two (b : Nat) (x y : Nm) (w : World) (hc : Cw w b [encStr x, encStr y] 9) : Calls Tryz.prog 94 #[.slice (some ⟨b, 0, none⟩) 2 2, .func (.func 95) #[] #[]] w fun e w' => e = .returned (.bool (noneB x || noneB y)) ∧ w' = w := by
  have c0 : w.cell? ⟨b, 0, none⟩ = some (encStr x) := by rw [hc.cell]; rfl
  have c1 : w.cell? ⟨b, 1, none⟩ = some (encStr y) := by rw [hc.cell]; rfl
  cases hn : noneB x with
  | true =>
    have hi : Calls Tryz.prog 117 #[.slice (some ⟨b, 0, none⟩) 2 2, .func (.func 95) #[] #[]] w fun e w' => e = .returned (.int .i64 0) ∧ w' = w := by
      go_enter Tryz.func117, Tryz.ntmps117
      go_wp2_with fail
      refine wp_loop_rounds 2 ?_
      rw [rounds_succ]
      go_wp2_with fail
      refine (isNone_any x w).mono ?_
      rintro e w' ⟨rfl, rfl⟩
      go_wp2_with fail
      go_ret
      exact ⟨rfl, rfl⟩
    go_enter Tryz.func94, Tryz.ntmps94
    go_wp2_with fail
    refine hi.mono ?_
    rintro e w' ⟨rfl, rfl⟩
    go_wp2_with fail
    go_ret
    exact ⟨rfl, rfl⟩
  | false =>
    cases hm : noneB y with
    | true =>
      have hi : Calls Tryz.prog 117 #[.slice (some ⟨b, 0, none⟩) 2 2, .func (.func 95) #[] #[]] w fun e w' => e = .returned (.int .i64 1) ∧ w' = w := by
        go_enter Tryz.func117, Tryz.ntmps117
        go_wp2_with fail
        refine wp_loop_rounds 3 ?_
        rw [rounds_succ]
        go_wp2_with fail
        refine (isNone_any x w).mono ?_
        rintro e w' ⟨rfl, rfl⟩
        go_wp2_with fail
        rw [rounds_succ]
        go_wp2_with fail
        refine (isNone_any y _).mono ?_
        rintro e w' ⟨rfl, rfl⟩
        go_wp2_with fail
        go_ret
        exact ⟨rfl, rfl⟩
      go_enter Tryz.func94, Tryz.ntmps94
      go_wp2_with fail
      refine hi.mono ?_
      rintro e w' ⟨rfl, rfl⟩
      go_wp2_with fail
      go_ret
      exact ⟨rfl, rfl⟩
    | false =>
      have hi : Calls Tryz.prog 117 #[.slice (some ⟨b, 0, none⟩) 2 2, .func (.func 95) #[] #[]] w fun e w' => e = .returned (.int .i64 (-1)) ∧ w' = w := by
        go_enter Tryz.func117, Tryz.ntmps117
        go_wp2_with fail
        refine wp_loop_rounds 3 ?_
        rw [rounds_succ]
        go_wp2_with fail
        refine (isNone_any x w).mono ?_
        rintro e w' ⟨rfl, rfl⟩
        go_wp2_with fail
        rw [rounds_succ]
        go_wp2_with fail
        refine (isNone_any y _).mono ?_
        rintro e w' ⟨rfl, rfl⟩
        go_wp2_with fail
        rw [rounds_succ]
        go_wp2_with fail
        go_ret
        exact ⟨rfl, rfl⟩
      go_enter Tryz.func94, Tryz.ntmps94
      go_wp2_with fail
      refine hi.mono ?_
      rintro e w' ⟨rfl, rfl⟩
      go_wp2_with fail
      go_ret
      exact ⟨rfl, rfl⟩
def burnL (ev : Int) (lit : Bool) (left : Int) : Int := if ev = 0 ∧ lit = true then left - 1 else left
theorem Dx.setLeft (h : Dk w F sb mb room fs lit left) (n : Int) (hn : 0 ≤ n ∧ n < 9223372036854775808) : Dk (w.setCell ⟨sb, 4, none⟩ (.int .i64 n)) F sb mb room fs lit n where
  cells := h.cells.set 4 _
  sF := h.sF
  nn := h.nn
  map := fun b hb => ⟨(h.map b hb).1, ownsMap_keep (h.map b hb).2 (Below.heap_setCell _ _ _ _ fun e => mb_ne h (by rw [hb]; exact congrArg some e.symm))⟩
  form := h.form
  rowsX := fun p hp hx => by
    obtain ⟨h1, h2, h3, h4⟩ := h.rowsX p hp hx
    exact ⟨h1.keep fun k hk => Below.heap_setCell _ _ _ _ (row_ne h h1 hk).1, h2, h3, h4⟩
  apart := h.apart
  room0 := h.room0
  fits := h.fits
  left0 := hn
  cnt := h.cnt
theorem burn_any (h : Dk w F sb mb room fs lit left) (hb : burntB lit left = false) :
    Calls Tryz.prog 96 #[.pointer (some ⟨sb, 3, none⟩)] w fun e w' => e = .returned (.tuple #[]) ∧ Dk w' F sb mb room fs lit (burnL 0 lit left) ∧ Grows F w w' := by
  obtain ⟨c0, c1, c2, c3, c4⟩ := h.cell
  have f4 := h.cells.frozen 4
  cases lit with
  | false =>
    go_enter Tryz.func96, Tryz.ntmps96
    go_wp2
    go_end0
    exact ⟨rfl, h, Grows.refl _ _⟩
  | true =>
    have hl0 := h.left0
    have hn0 : left ≠ 0 := by intro e; simp [burntB, e] at hb
    have hw : wrap64 (left - 1) = left - 1 := by simp only [wrap64]; omega
    have HD : Hid (Dk (w.setCell ⟨sb, 4, none⟩ (.int .i64 (left - 1))) F sb mb room fs true (left - 1)) := h.setLeft (left - 1) (by omega)
    have HG : Hid (Grows F w (w.setCell ⟨sb, 4, none⟩ (.int .i64 (left - 1)))) := Grows.setCell _ _ _ h.sF
    clear hl0 hn0 hb
    go_enter Tryz.func96, Tryz.ntmps96
    go_wp2
    go_end0
    exact ⟨rfl, by simpa [burnL] using HD.out, HG.out⟩
end Go.Proofs.YtnkjhooeklodcaaGreatDoor
end

section
/-
  disk's gate whole: dead, a name that is none, done.
-/
namespace Go.Proofs.YtnkjhooeklodcaaGreatDoor
open Go.RowKit Go.Maps
variable {X : Nm → Prop} {w w' : World} {F : Nat → Prop} {sb : Nat} {mb : Option Nat} {room : Int} {fs : Fls} {lit : Bool} {left : Int}

theorem gate_nil (dv sv : Value) (w : World) : Calls Tryz.prog 66 #[.pointer none, dv, sv] w fun e w' => e = .returned (.int .i64 1) ∧ w' = w := by
  go_enter Tryz.func66, Tryz.ntmps66
  go_wp2
  go_ret
  exact ⟨rfl, rfl⟩
theorem gate_dead (h : Dk w F sb mb room fs lit left) (dv sv : Value) (hb : burntB lit left = true) :
    Calls Tryz.prog 66 #[.pointer (some ⟨sb, 0, none⟩), dv, sv] w fun e w' => e = .returned (.int .i64 9) ∧ Below w.heap.size w w' := by
  obtain ⟨c0, c1, c2, c3, c4⟩ := h.cell
  go_enter Tryz.func66, Tryz.ntmps66
  go_wp2_with fail
  refine (burnt_any lit left w).mono ?_
  rintro e W1 ⟨rfl, B1⟩
  rw [hb]
  go_wp2_with fail
  go_ret
  exact ⟨rfl, B1⟩
theorem gate_arg (h : Dk w F sb mb room fs lit left) (dv sv : Value) (hb : burntB lit left = false) (hn : ∀ w1, Below w.heap.size w w1 → Calls Tryz.prog 94 #[sv, .func (.func 95) #[] #[]] w1 fun e w' => e = .returned (.bool true) ∧ w' = w1) :
    Calls Tryz.prog 66 #[.pointer (some ⟨sb, 0, none⟩), dv, sv] w fun e w' => e = .returned (.int .i64 1) ∧ Below w.heap.size w w' := by
  obtain ⟨c0, c1, c2, c3, c4⟩ := h.cell
  have HN := hid_into hn
  clear hn
  go_enter Tryz.func66, Tryz.ntmps66
  go_wp2_with fail
  refine (burnt_any lit left w).mono ?_
  rintro e W1 ⟨rfl, B1⟩
  rw [hb]
  go_wp2_with fail
  refine (HN.out W1 B1).mono ?_
  rintro e W2 ⟨rfl, rfl⟩
  go_wp2_with fail
  go_ret
  exact ⟨rfl, B1⟩
def GRes (P : Int → Fls → Prop) (F : Nat → Prop) (sb : Nat) (room : Int) (lit : Bool) (left : Int) (w : World) (e : Ending) (w' : World) : Prop :=
  ∃ ev fs', P ev fs' ∧ e = .returned (.int .i64 ev) ∧ Res F sb room fs' lit (burnL ev lit left) w w'
set_option maxHeartbeats 800000 in
theorem gate_do (P : Int → Fls → Prop) (h : Dk w F sb mb room fs lit left) (fn : FuncId) (en : ∀ (args : Array Value) (w : World), (callFunc fn args).run Tryz.prog w = .ok (.enter fn args) w) (sa sv : Value) (hb : burntB lit left = false) (hn : ∀ w1, Below w.heap.size w w1 → Calls Tryz.prog 94 #[sv, .func (.func 95) #[] #[]] w1 fun e w' => e = .returned (.bool false) ∧ w' = w1)
    (hdo : ∀ w1, Below w.heap.size w w1 → Calls Tryz.prog fn #[sa] w1 fun e w' => ∃ ev fs', P ev fs' ∧ e = .returned (.int .i64 ev) ∧ Res F sb room fs' lit left w1 w') :
    Calls Tryz.prog 66 #[.pointer (some ⟨sb, 0, none⟩), .func (.func fn) #[sa] #[], sv] w fun e w' => GRes P F sb room lit left w e w' := by
  obtain ⟨c0, c1, c2, c3, c4⟩ := h.cell
  have HN := hid_into hn
  have HD := hid_into hdo
  clear hn hdo
  go_enter Tryz.func66, Tryz.ntmps66
  go_wp2_with fail
  refine (burnt_any lit left w).mono ?_
  rintro e W1 ⟨rfl, B1⟩
  rw [hb]
  go_wp2_with fail
  refine (HN.out W1 B1).mono ?_
  rintro e W2 ⟨rfl, rfl⟩
  have HB := hid_into hb
  have HB1 := hid_into B1
  clear hb B1 h c0 c1 c2 c3 c4
  go_wp2_with fail
  refine (HD.out W2 HB1.out).mono ?_
  rintro e W3 ⟨ev, fs', hP, rfl, mb', h3, hG3⟩
  have HG3 : Hid (Grows F w W3) := ((Grows.refl F w).bel HB1.out).trans hG3 fun _ hk => Or.inl hk
  have HS : Hid (w.heap.size ≤ W2.heap.size) := HB1.out.size
  replace hP := hid_into hP
  clear hG3
  by_cases he : ev = 0
  · subst he
    go_wp2_with fail
    refine (burn_any h3 HB.out).mono ?_
    rintro e W4 ⟨rfl, h4, hG4⟩
    have HG4 : Hid (Grows F w W4) := HG3.out.trans hG4 fun k hk => by
      rcases hk with hk | hk
      · exact Or.inl hk
      · exact Or.inr (Nat.le_trans HS.out hk)
    clear hG4
    go_wp2_with fail
    go_ret
    exact ⟨0, fs', hP.out, rfl, mb', h4.more fun k hk _ => (by rcases hk with hk | hk; exact Or.inl hk; exact Or.inr (Nat.le_trans HS.out hk)), HG4.out⟩
  · have HE := hid_into he
    have he2 : (ev == 0) = false := by simp [he]
    go_wp2_with fail
    go_ret
    refine ⟨ev, fs', hP.out, rfl, mb', ?_, HG3.out⟩
    have e1 : burnL ev lit left = left := by simp [burnL, HE.out]
    rw [e1]
    exact h3.more fun k hk _ => (by rcases hk with hk | hk; exact Or.inl hk; exact Or.inr (Nat.le_trans HS.out hk))
end Go.Proofs.YtnkjhooeklodcaaGreatDoor
end

section
/-
  The five: Write, Sync, Cut, Rename, Remove, by contracts.
-/
namespace Go.Proofs.YtnkjhooeklodcaaGreatDoor
open Go.RowKit Go.Maps
variable {X : Nm → Prop} {w w' : World} {F : Nat → Prop} {sb : Nat} {mb : Option Nat} {room : Int} {fs : Fls} {lit : Bool} {left : Int}

def fiveP (lit : Bool) (left : Int) (nn : Bool) (fs : Fls) (P : Int → Fls → Prop) (ev : Int) (fs' : Fls) : Prop :=
  if burntB lit left then ev = 9 ∧ fs' = fs else if nn then ev = 1 ∧ fs' = fs else P ev fs'
theorem GRes.below {P : Int → Fls → Prop} {e : Ending} {W W' : World} (h : GRes P F sb room lit left W e W') (hb : Below w.heap.size w W) : GRes P F sb room lit left w e W' := by
  obtain ⟨ev, fs', hP, he, mb', h1, hG⟩ := h
  refine ⟨ev, fs', hP, he, mb', h1.more fun k hk _ => ?_, ((Grows.refl F w).bel hb).trans hG fun _ hk => Or.inl hk⟩
  rcases hk with hk | hk
  · exact Or.inl hk
  · exact Or.inr (Nat.le_trans hb.size hk)
theorem GRes.stay {P : Int → Fls → Prop} {e : Ending} {ev : Int} (h : Dk w F sb mb room fs lit left) (hb : Below w.heap.size w w') (he : e = .returned (.int .i64 ev)) (hP : P ev fs) (h0 : ev ≠ 0) : GRes P F sb room lit left w e w' := by
  refine ⟨ev, fs, hP, he, mb, ?_, (Grows.refl F w).bel hb⟩
  have e1 : burnL ev lit left = left := by simp [burnL, h0]
  rw [e1]
  exact (h.to hb).pl _
theorem gate_any (P : Int → Fls → Prop) (nn : Bool) (h : Dk w F sb mb room fs lit left) (fn : FuncId) (en : ∀ (args : Array Value) (w : World), (callFunc fn args).run Tryz.prog w = .ok (.enter fn args) w) (sa sv : Value)
    (hn : ∀ w1, Below w.heap.size w w1 → Calls Tryz.prog 94 #[sv, .func (.func 95) #[] #[]] w1 fun e w' => e = .returned (.bool nn) ∧ w' = w1)
    (hdo : ∀ w1, Below w.heap.size w w1 → Calls Tryz.prog fn #[sa] w1 fun e w' => ∃ ev fs', P ev fs' ∧ e = .returned (.int .i64 ev) ∧ Res F sb room fs' lit left w1 w') :
    Calls Tryz.prog 66 #[.pointer (some ⟨sb, 0, none⟩), .func (.func fn) #[sa] #[], sv] w fun e w' => GRes (fiveP lit left nn fs P) F sb room lit left w e w' := by
  cases hb : burntB lit left with
  | true =>
    refine (gate_dead h _ sv hb).mono ?_
    rintro e W ⟨he, hB⟩
    exact GRes.stay h hB he (by simp [fiveP, hb]) (by decide)
  | false =>
    cases nn with
    | true =>
      refine (gate_arg h _ sv hb hn).mono ?_
      rintro e W ⟨he, hB⟩
      exact GRes.stay h hB he (by simp [fiveP, hb]) (by decide)
    | false =>
      refine (gate_do P h fn en sa sv hb hn hdo).mono ?_
      rintro e W ⟨ev, fs', hP, he, hR⟩
      exact ⟨ev, fs', by simpa [fiveP, hb] using hP, he, hR⟩
theorem below_cw {w W : World} {cs : List Value} {t : TypeId} (hb : Below (w.alloc (.cells cs.toArray t)).heap.size (w.alloc (.cells cs.toArray t)) W) : Cw W w.heap.size cs t := (Cw.new w cs t).below hb (by simp)
def syncP (fs : Fls) (x : Nm) (ev : Int) (fs' : Fls) : Prop := ev = none7 fs x ∧ fs' = syncF fs x
def removeP (fs : Fls) (x : Nm) (ev : Int) (fs' : Fls) : Prop := ev = none7 fs x ∧ fs' = dl fs x
def renameP (fs : Fls) (x y : Nm) (ev : Int) (fs' : Fls) : Prop := ev = none7 fs x ∧ fs' = renF fs x y
def cutP (fs : Fls) (x : Nm) (m : Int) (ev : Int) (fs' : Fls) : Prop := ev = cutE fs x m ∧ fs' = cutF fs x m
def writeP (fs : Fls) (x : Nm) (ps : List Int) (room : Int) (ev : Int) (fs' : Fls) : Prop := ev = wrE fs x ps.length room ∧ ∃ v, fs' = wrF fs x ps room v
set_option maxHeartbeats 800000 in
theorem Sync_any (h : Dk w F sb mb room fs lit left) (x : Nm) (hx : x.length ≤ maxLen) :
    Calls Tryz.prog 56 #[.pointer (some ⟨sb, 0, none⟩), encStr x] w fun e w' => GRes (fiveP lit left (noneB x) fs (syncP fs x)) F sb room lit left w e w' := by
  have hmf : ∀ (fn : Fn) (first cap : Array Value) (w : World), (Instr.makeFunc fn first cap).run Tryz.prog w = .ok (.func fn first cap) w := fun _ _ _ _ => rfl
  have B0 : Below w.heap.size w (w.alloc (.cells #[encStr x] 9)) := (Below.refl _ _).alloc (Nat.le_refl _) _
  have hg := gate_any (syncP fs x) (noneB x) (h.to B0) 84 (enters_of Tryz.func84 (by kernel_rfl) rfl) (.agg #[.pointer (some ⟨sb, 0, none⟩), encStr x, .string ⟨#[]⟩, .slice none 0 0, .int .i64 0]) (.slice (some ⟨w.heap.size, 0, none⟩) 1 1)
    (fun w1 hb => has_one w.heap.size x w1 (below_cw (cs := [encStr x]) hb))
    (fun w1 hb => (sync_any ((h.to B0).to hb) x hx _ _ _).mono fun e w' hr => ⟨_, _, ⟨rfl, rfl⟩, hr.1, hr.2⟩)
  have HG := hid_into hg
  have HB := hid_into B0
  clear hg B0
  go_enter Tryz.func56, Tryz.ntmps56
  go_wp2_with fail
  refine HG.out.mono ?_
  rintro e W2 ⟨ev, fs', hP, rfl, hR⟩
  have HR : Hid (GRes (fiveP lit left (noneB x) fs (syncP fs x)) F sb room lit left w (.returned (.int .i64 ev)) W2) := GRes.below ⟨ev, fs', hP, rfl, hR⟩ HB.out
  clear hP hR
  go_wp2_with fail
  go_ret
  exact HR.out
set_option maxHeartbeats 800000 in
theorem Remove_any (h : Dk w F sb mb room fs lit left) (x : Nm) (hx : x.length ≤ maxLen) :
    Calls Tryz.prog 113 #[.pointer (some ⟨sb, 0, none⟩), encStr x] w fun e w' => GRes (fiveP lit left (noneB x) fs (removeP fs x)) F sb room lit left w e w' := by
  have hmf : ∀ (fn : Fn) (first cap : Array Value) (w : World), (Instr.makeFunc fn first cap).run Tryz.prog w = .ok (.func fn first cap) w := fun _ _ _ _ => rfl
  have B0 : Below w.heap.size w (w.alloc (.cells #[encStr x] 9)) := (Below.refl _ _).alloc (Nat.le_refl _) _
  have hg := gate_any (removeP fs x) (noneB x) (h.to B0) 131 (enters_of Tryz.func131 (by kernel_rfl) rfl) (.agg #[.pointer (some ⟨sb, 0, none⟩), encStr x, .string ⟨#[]⟩, .slice none 0 0, .int .i64 0]) (.slice (some ⟨w.heap.size, 0, none⟩) 1 1)
    (fun w1 hb => has_one w.heap.size x w1 (below_cw (cs := [encStr x]) hb))
    (fun w1 hb => (remove_any ((h.to B0).to hb) x hx _ _ _).mono fun e w' hr => ⟨_, _, ⟨rfl, rfl⟩, hr.1, hr.2⟩)
  have HG := hid_into hg
  have HB := hid_into B0
  clear hg B0
  go_enter Tryz.func113, Tryz.ntmps113
  go_wp2_with fail
  refine HG.out.mono ?_
  rintro e W2 ⟨ev, fs', hP, rfl, hR⟩
  have HR : Hid (GRes (fiveP lit left (noneB x) fs (removeP fs x)) F sb room lit left w (.returned (.int .i64 ev)) W2) := GRes.below ⟨ev, fs', hP, rfl, hR⟩ HB.out
  clear hP hR
  go_wp2_with fail
  go_ret
  exact HR.out
set_option maxHeartbeats 800000 in
theorem Cut_any (h : Dk w F sb mb room fs lit left) (x : Nm) (hx : x.length ≤ maxLen) (m : Int) (hm : (Lit.int .i64 m).wf = true) :
    Calls Tryz.prog 41 #[.pointer (some ⟨sb, 0, none⟩), encStr x, .int .i64 m] w fun e w' => GRes (fiveP lit left (noneB x) fs (cutP fs x m)) F sb room lit left w e w' := by
  have hmf : ∀ (fn : Fn) (first cap : Array Value) (w : World), (Instr.makeFunc fn first cap).run Tryz.prog w = .ok (.func fn first cap) w := fun _ _ _ _ => rfl
  have B0 : Below w.heap.size w (w.alloc (.cells #[encStr x] 9)) := (Below.refl _ _).alloc (Nat.le_refl _) _
  have hg := gate_any (cutP fs x m) (noneB x) (h.to B0) 73 (enters_of Tryz.func73 (by kernel_rfl) rfl) (.agg #[.pointer (some ⟨sb, 0, none⟩), encStr x, .string ⟨#[]⟩, .slice none 0 0, .int .i64 m]) (.slice (some ⟨w.heap.size, 0, none⟩) 1 1)
    (fun w1 hb => has_one w.heap.size x w1 (below_cw (cs := [encStr x]) hb))
    (fun w1 hb => (cut_any ((h.to B0).to hb) x hx _ _ m hm).mono fun e w' hr => ⟨_, _, ⟨rfl, rfl⟩, hr.1, hr.2⟩)
  have HG := hid_into hg
  have HB := hid_into B0
  clear hg B0
  go_enter Tryz.func41, Tryz.ntmps41
  go_wp2_with fail
  refine HG.out.mono ?_
  rintro e W2 ⟨ev, fs', hP, rfl, hR⟩
  have HR : Hid (GRes (fiveP lit left (noneB x) fs (cutP fs x m)) F sb room lit left w (.returned (.int .i64 ev)) W2) := GRes.below ⟨ev, fs', hP, rfl, hR⟩ HB.out
  clear hP hR
  go_wp2_with fail
  go_ret
  exact HR.out
set_option maxHeartbeats 800000 in
theorem Write_any (h : Dk w F sb mb room fs lit left) (x : Nm) (hx : x.length ≤ maxLen) (ap : Option Addr) (cp : Nat) (ps : List Int) (hps : Bs w (.slice ap ps.length cp) ps) (hby : Byt ps) :
    Calls Tryz.prog 29 #[.pointer (some ⟨sb, 0, none⟩), encStr x, .slice ap ps.length cp] w fun e w' => GRes (fiveP lit left (noneB x) fs (writeP fs x ps room)) F sb room lit left w e w' := by
  have hmf : ∀ (fn : Fn) (first cap : Array Value) (w : World), (Instr.makeFunc fn first cap).run Tryz.prog w = .ok (.func fn first cap) w := fun _ _ _ _ => rfl
  have B0 : Below w.heap.size w (w.alloc (.cells #[encStr x] 9)) := (Below.refl _ _).alloc (Nat.le_refl _) _
  have hg := gate_any (writeP fs x ps room) (noneB x) (h.to B0) 67 (enters_of Tryz.func67 (by kernel_rfl) rfl) (.agg #[.pointer (some ⟨sb, 0, none⟩), encStr x, .string ⟨#[]⟩, .slice ap ps.length cp, .int .i64 0]) (.slice (some ⟨w.heap.size, 0, none⟩) 1 1)
    (fun w1 hb => has_one w.heap.size x w1 (below_cw (cs := [encStr x]) hb))
    (fun w1 hb => (write_any ((h.to B0).to hb) x hx _ _ ap cp ps ((hps.below B0 (Nat.le_refl _)).below hb (Nat.le_refl _)) hby).mono fun e w' hr => by
      obtain ⟨he, v, hR⟩ := hr
      exact ⟨_, _, ⟨rfl, v, rfl⟩, he, hR⟩)
  have HG := hid_into hg
  have HB := hid_into B0
  clear hg B0
  go_enter Tryz.func29, Tryz.ntmps29
  go_wp2_with fail
  refine HG.out.mono ?_
  rintro e W2 ⟨ev, fs', hP, rfl, hR⟩
  have HR : Hid (GRes (fiveP lit left (noneB x) fs (writeP fs x ps room)) F sb room lit left w (.returned (.int .i64 ev)) W2) := GRes.below ⟨ev, fs', hP, rfl, hR⟩ HB.out
  clear hP hR
  go_wp2_with fail
  go_ret
  exact HR.out
end Go.Proofs.YtnkjhooeklodcaaGreatDoor
end
