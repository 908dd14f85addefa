/-
  Joined from: Names, Crash.
-/
import Derived.Test.YtnkjhooeklodcaaGreatDoorM22
import Derived.Test.YtnkjhooeklodcaaGreatDoorM24
import Derived.Test.YtnkjhooeklodcaaGreatDoorM23
section
/-
  Names: all names, rising. By its contract.
-/
namespace Go.Proofs.YtnkjhooeklodcaaGreatDoor
open Go.RowKit Go.Maps Go.Sort Go.Shelf
variable {X : Nm → Prop} {w w' : World} {F : Nat → Prop} {sb : Nat} {mb : Option Nat} {room : Int} {fs : Fls} {lit : Bool} {left : Int}

theorem before_lt : ∀ (a b : List UInt8), bytesBefore a b = true ↔ a < b
  | [], [] => by simp [bytesBefore]
  | [], _ :: _ => by simp [bytesBefore]
  | _ :: _, [] => by simp [bytesBefore]
  | a :: r, b :: s => by
    have ih := before_lt r s
    simp only [bytesBefore, Bool.or_eq_true, Bool.and_eq_true, decide_eq_true_eq, beq_iff_eq, ih, List.cons_lt_cons_iff]
theorem before_le {a b : List UInt8} (h : bytesBefore a b = true) : a ≤ b := List.le_of_lt ((before_lt a b).1 h)
def nms (fs : Fls) : List Nm := fs.map (·.1)
theorem sort_nms (h : fs.Pairwise (fun p q => bytesBefore p.1 q.1 = true)) {ss : List (List UInt8)} (hp : ss.Perm (strKeys (Dm fs))) : ss.mergeSort (fun x y => decide (x ≤ y)) = nms fs := by
  rw [mergeSort_of_perm hp, Dm_keys]
  refine List.mergeSort_of_pairwise ?_
  rw [List.pairwise_map]
  exact h.imp fun hb => decide_eq_true (before_le hb)
set_option maxHeartbeats 1000000 in
theorem Names_any (h : Dk w F sb mb room fs lit left) :
    Calls Tryz.prog 44 #[.pointer (some ⟨sb, 0, none⟩)] w fun e w' => ∃ v, e = .returned v ∧ w'.ownsRow w.heap.size 9 1 v fs.length ((nms fs).map encStr) ∧ Below w.heap.size w w' := by
  obtain ⟨c0, c1, c2, c3, c4⟩ := h.cell
  have hr := h.rising
  have hcnt := h.cnt
  refine (callsIn_wide (n := 6)).1 ?_
  have hfK : Fence.wide.fn 75 := trivial
  have hfS : Fence.wide.fn 74 := trivial
  cases mb with
  | some b =>
    have hown := (h.map b rfl).2
    refine callsIn_of_wp Tryz.func44 rfl trivial ?_ rfl
    simp only [Tryz.ntmps44, List.size_toArray, List.length_cons, List.length_nil, Nat.reduceAdd, Nat.reduceSub, Array.replicate_succ, Array.replicate_zero, List.push_toArray, List.append_toArray, List.nil_append, List.cons_append]
    gi_wp2_with (first
      | (gi_at_call 75; refine (keys_any _ _).mono ?_; rintro e w' ⟨rfl, rfl⟩)
      | (gi_at_call 74; refine (sorted_any b fs.length (Dm fs) Rv w hown (by rw [Dm_size]; unfold maxLen; omega) (by rw [Dm_size]; omega)).mono ?_; rintro e w' ⟨v, ss, rfl, hS, hrow, hnil, hb⟩))
    go_ret
    refine ⟨v, rfl, ?_, ((Below.refl _ w).alloc (Nat.le_refl _) _).trans (hb.mono (by simp))⟩
    have e1 := sort_nms hr hS
    have e2 : ss.length = fs.length := by rw [hS.length_eq, Dm_keys, List.length_map]
    rw [e1, e2] at hrow
    exact ownsRow_base_a hrow (by simp)
  | none =>
    have e0 := h.nn rfl
    refine callsIn_of_wp Tryz.func44 rfl trivial ?_ rfl
    simp only [Tryz.ntmps44, List.size_toArray, List.length_cons, List.length_nil, Nat.reduceAdd, Nat.reduceSub, Array.replicate_succ, Array.replicate_zero, List.push_toArray, List.append_toArray, List.nil_append, List.cons_append]
    gi_wp2_with (first
      | (gi_at_call 75; refine (keys_any _ _).mono ?_; rintro e w' ⟨rfl, rfl⟩)
      | (gi_at_call 74; refine (sorted_nil w).mono ?_; rintro e w' ⟨v, ss, rfl, hS, hrow, hnil, hb⟩))
    go_ret
    refine ⟨v, rfl, ?_, ((Below.refl _ w).alloc (Nat.le_refl _) _).trans (hb.mono (by simp))⟩
    rw [hS, List.mergeSort_nil] at hrow
    rw [e0]
    exact ownsRow_base_a hrow (by simp)
theorem Names_nil (w : World) : Calls Tryz.prog 44 #[.pointer none] w fun e w' => e = .returned (.slice none 0 0) ∧ w' = w := by
  go_enter Tryz.func44, Tryz.ntmps44
  go_wp2
  go_ret
  exact ⟨rfl, rfl⟩
end Go.Proofs.YtnkjhooeklodcaaGreatDoor
end

section
/-
  Fuse and Crash, by contracts.
-/
namespace Go.Proofs.YtnkjhooeklodcaaGreatDoor
open Go.RowKit Go.Maps
variable {X : Nm → Prop} {w w' : World} {F : Nat → Prop} {sb : Nat} {mb : Option Nat} {room : Int} {fs : Fls} {lit : Bool} {left : Int}

theorem Dx.setFuse (h : Dk w F sb mb room fs lit left) (b : Bool) (n : Int) (hn : 0 ≤ n ∧ n < 9223372036854775808) : Dk ((w.setCell ⟨sb, 3, none⟩ (.bool b)).setCell ⟨sb, 4, none⟩ (.int .i64 n)) F sb mb room fs b n where
  cells := (h.cells.set 3 _).set 4 _
  sF := h.sF
  nn := h.nn
  map := fun c hc => ⟨(h.map c hc).1, ownsMap_keep (h.map c hc).2 ((Below.heap_setCell _ _ _ _ fun e => mb_ne h (by rw [hc]; exact congrArg some e.symm)).trans (Below.heap_setCell _ _ _ _ fun e => mb_ne h (by rw [hc]; exact congrArg some e.symm)))⟩
  form := h.form
  rowsX := fun p hp hx => by
    obtain ⟨h1, h2, h3, h4⟩ := h.rowsX p hp hx
    exact ⟨h1.keep fun k hk => (Below.heap_setCell _ _ _ _ (row_ne h h1 hk).1).trans (Below.heap_setCell _ _ _ _ (row_ne h h1 hk).1), h2, h3, h4⟩
  apart := h.apart
  room0 := h.room0
  fits := h.fits
  left0 := hn
  cnt := h.cnt
theorem Fuse_any (h : Dk w F sb mb room fs lit left) (n : Int) (hn : (Lit.int .i64 n).wf = true) :
    Calls Tryz.prog 14 #[.pointer (some ⟨sb, 0, none⟩), .int .i64 n] w fun e w' => e = .returned (.tuple #[]) ∧ Dk w' F sb mb room fs (decide (0 ≤ n)) (max n 0) ∧ Grows F w w' := by
  obtain ⟨c0, c1, c2, c3, c4⟩ := h.cell
  have f3 := h.cells.frozen 3
  have f4 := h.cells.frozen 4
  have hnb : n < 9223372036854775808 := by simp [Lit.wf] at hn; omega
  have HD := hid_into (h.setFuse (decide (0 ≤ n)) (max n 0) (by omega))
  have HG : Hid (Grows F w ((w.setCell ⟨sb, 3, none⟩ (.bool (decide (0 ≤ n)))).setCell ⟨sb, 4, none⟩ (.int .i64 (max n 0)))) := (Grows.setCell _ _ _ h.sF).trans (Grows.setCell _ _ _ h.sF) fun _ hk => Or.inl hk
  go_enter Tryz.func14, Tryz.ntmps14
  go_wp2_with fail
  go_end0
  exact ⟨rfl, HD.out, HG.out⟩
theorem Fuse_nil (n : Value) (w : World) : Calls Tryz.prog 14 #[.pointer none, n] w fun e w' => e = .returned (.tuple #[]) ∧ w' = w := by
  go_enter Tryz.func14, Tryz.ntmps14
  go_wp2
  go_end0
  exact ⟨rfl, rfl⟩
theorem Crash_nil (n t : Value) (w : World) : Calls Tryz.prog 20 #[.pointer none, n, t] w fun e w' => e = .returned (.tuple #[]) ∧ w' = w := by
  go_enter Tryz.func20, Tryz.ntmps20
  go_wp2
  refine bodyPost_ret (results_none rfl _ _ _) rfl ?_
  exact ⟨rfl, rfl⟩
theorem ins_front (x : Nm) (f : Fl) : ∀ r : Fls, (∀ q ∈ r, bytesBefore x q.1 = true) → ins x f r = (x, f) :: r
  | [], _ => rfl
  | y :: r, h => by simp only [ins, h y (by simp), if_true]
theorem pt_set : ∀ {fs : Fls} {i : Nat} {x : Nm} {g f : Fl}, fs.Pairwise (fun p q => bytesBefore p.1 q.1 = true) → fs[i]? = some (x, g) → pt fs x f = fs.set i (x, f)
  | [], _, _, _, _, _, h => by simp at h
  | p :: r, 0, x, g, f, hp, h => by
    simp only [List.getElem?_cons_zero, Option.some.injEq] at h
    subst h
    obtain ⟨h1, h2⟩ := List.pairwise_cons.1 hp
    have hd : dl ((x, g) :: r) x = r := by
      rw [dl_cons, if_pos rfl]
      exact dl_of_none fun q hq e => by have := h1 q hq; rw [e, WideAt.bytes_irrefl] at this; cases this
    rw [pt, hd, ins_front x f r h1]
    rfl
  | p :: r, i + 1, x, g, f, hp, h => by
    simp only [List.getElem?_cons_succ] at h
    obtain ⟨h1, h2⟩ := List.pairwise_cons.1 hp
    have hb := h1 _ (List.mem_of_getElem? h)
    have hne : p.1 ≠ x := fun e => by rw [e, WideAt.bytes_irrefl] at hb; cases hb
    have hnb : bytesBefore x p.1 = false := by
      cases hc : bytesBefore x p.1 with
      | false => rfl
      | true => have := WideShapes.bytes_trans _ _ _ hb hc; rw [WideAt.bytes_irrefl] at this; cases this
    have ih := pt_set (f := f) h2 h
    rw [pt, dl_cons, if_neg hne, ins, if_neg (by rw [hnb]; decide), List.set_cons_succ, ← ih]
    rfl
def abs (fs : Fls) : List (Nm × List Int × Nat) := fs.map fun p => (p.1, p.2.zs, p.2.l)
def crA (k : Nat) (t : Int) (q : Nm × List Int × Nat) : Nm × List Int × Nat := (q.1, crB q.2.1 q.2.2 k t, crN q.2.1 q.2.2 k)
def crI (k : Nat) (t : Int) (i : Nat) (us : List (Nm × List Int × Nat)) : List (Nm × List Int × Nat) := us.mapIdx fun j q => if j < i then crA k t q else q
theorem crI_zero (k : Nat) (t : Int) (us : List (Nm × List Int × Nat)) : crI k t 0 us = us := by
  apply List.ext_getElem (by simp [crI])
  intro j h1 h2
  simp [crI]
theorem crI_all (k : Nat) (t : Int) (us : List (Nm × List Int × Nat)) : crI k t us.length us = us.map (crA k t) := by
  apply List.ext_getElem (by simp [crI])
  intro j h1 h2
  simp only [crI, List.getElem_mapIdx, List.getElem_map]
  rw [if_pos (by simpa [crI] using h1)]
theorem crI_step (k : Nat) (t : Int) (i : Nat) (us : List (Nm × List Int × Nat)) (q : Nm × List Int × Nat) (h : us[i]? = some q) : (crI k t i us).set i (crA k t q) = crI k t (i + 1) us := by
  apply List.ext_getElem (by simp [crI])
  intro j h1 h2
  simp only [crI, List.getElem_set, List.getElem_mapIdx]
  by_cases hj : i = j
  · subst hj
    rw [if_pos rfl, if_pos (by omega)]
    obtain ⟨_, e⟩ := List.getElem?_eq_some_iff.1 h
    rw [e]
  · rw [if_neg hj]
    by_cases hc : j < i
    · rw [if_pos hc, if_pos (by omega)]
    · rw [if_neg hc, if_neg (by omega)]
theorem crI_get (k : Nat) (t : Int) (i : Nat) (us : List (Nm × List Int × Nat)) : (crI k t i us)[i]? = us[i]? := by
  simp only [crI, List.getElem?_mapIdx]
  cases us[i]? <;> simp
theorem abs_set (fs : Fls) (i : Nat) (x : Nm) (f : Fl) : abs (fs.set i (x, f)) = (abs fs).set i (x, f.zs, f.l) := by simp [abs, List.map_set]
theorem abs_get (fs : Fls) (i : Nat) : (abs fs)[i]? = fs[i]?.map fun p => (p.1, p.2.zs, p.2.l) := by simp [abs]
theorem abs_length (fs : Fls) : (abs fs).length = fs.length := by simp [abs]
theorem abs_names (fs : Fls) : (abs fs).map (·.1) = nms fs := by simp [abs, nms, List.map_map, Function.comp_def]
theorem crI_names (k : Nat) (t : Int) (i : Nat) (us : List (Nm × List Int × Nat)) : (crI k t i us).map (·.1) = us.map (·.1) := by
  apply List.ext_getElem (by simp [crI])
  intro j h1 h2
  simp only [crI, List.getElem_map, List.getElem_mapIdx]
  split <;> rfl
theorem xb_byt {z t : Int} (hz : 0 ≤ z ∧ z < 256) (ht : 0 ≤ t ∧ t < 256) : 0 ≤ xb z t ∧ xb z t < 256 := by
  obtain ⟨a, rfl⟩ := Int.eq_ofNat_of_zero_le hz.1
  obtain ⟨b, rfl⟩ := Int.eq_ofNat_of_zero_le ht.1
  have e : xb (a : Int) (b : Int) = ((a ^^^ b : Nat) : Int) := u8_xor_nat a b (by omega) (by omega)
  have := Nat.xor_lt_two_pow (n := 8) (show a < 2 ^ 8 by omega) (show b < 2 ^ 8 by omega)
  rw [e]
  omega
theorem crB_byt {zs : List Int} {l k : Nat} {t : Int} (h : Byt zs) (ht : 0 ≤ t ∧ t < 256) : Byt (crB zs l k t) := by
  intro z hz
  simp only [crB, xq, List.mem_mapIdx] at hz
  obtain ⟨j, hj, rfl⟩ := hz
  have := h _ (List.mem_of_mem_take (List.getElem_mem hj))
  split
  · exact xb_byt this ht
  · exact this
theorem lk_of_mem : ∀ {fs : Fls} {x : Nm} {f : Fl}, fs.Pairwise (fun p q => p.1 ≠ q.1) → (x, f) ∈ fs → lk fs x = some f
  | [], _, _, _, h => by cases h
  | p :: r, x, f, hp, h => by
    obtain ⟨h1, h2⟩ := List.pairwise_cons.1 hp
    rw [lk_cons]
    rcases List.mem_cons.1 h with e | e
    · subst e; simp
    · rw [if_neg (h1 _ e)]
      exact lk_of_mem h2 e
theorem Dx.name_le (h : Dk w F sb mb room fs lit left) {p : Nm × Fl} (hp : p ∈ fs) : p.1.length ≤ maxLen := by
  cases mb with
  | none => rw [h.nn rfl] at hp; cases hp
  | some b =>
    refine strKeys_le (h.map b rfl).2 Tryz.underlying9 p.1 ?_
    rw [Dm_keys]
    exact List.mem_map.2 ⟨p, hp, rfl⟩
def CRes (F : Nat → Prop) (sb : Nat) (room : Int) (fs : Fls) (k : Nat) (t : Int) (w w' : World) : Prop := ∃ fs', abs fs' = (abs fs).map (crA k t) ∧ Res F sb room fs' false 0 w w'
theorem row_str {W : World} {base : Nat} {v : Value} {xs : List Nm} (h : W.ownsRow base 9 1 v xs.length (xs.map encStr)) : (v = .slice none 0 0 ∧ xs = []) ∨ ∃ g cap, v = .slice (some ⟨g, 0, none⟩) xs.length cap ∧ base ≤ g ∧ g < W.heap.size ∧ ∀ i x, xs[i]? = some x → W.cell? ⟨g, i, none⟩ = some (encStr x) := by
  rcases h.2 with ⟨h1, h2⟩ | ⟨g, cap, cur, h1, h2, h3, h4, h5, h6, h7⟩
  · exact Or.inl ⟨h1, List.eq_nil_of_length_eq_zero h2⟩
  · refine Or.inr ⟨g, cap, h1, h2, (Array.getElem?_eq_some_iff.1 h3).1, fun i x hx => ?_⟩
    have := World.ownsRow.cells h (g := g) (by rw [h1]; rfl) i (encStr x) (by simp [hx])
    simpa [Addr.add_lit] using this
set_option maxRecDepth 20000 in
set_option maxHeartbeats 1600000 in
theorem Crash_any (h : Dk w F sb mb room fs lit left) (keep t : Int) (hk : keep < 9223372036854775808) (ht : 0 ≤ t ∧ t < 256) :
    Calls Tryz.prog 20 #[.pointer (some ⟨sb, 0, none⟩), .int .i64 keep, .int .u8 t] w fun e w' => e = .returned (.tuple #[]) ∧ CRes F sb room fs keep.toNat t w w' := by
  have h0 : Dk w (fun k => F k ∧ k < w.heap.size) sb mb room fs lit left := h.more fun k hk hl => ⟨hk, hl⟩
  have hmax : max keep 0 = ((keep.toNat : Nat) : Int) := by omega
  have hkn : keep.toNat < 9223372036854775808 := by omega
  generalize keep.toNat = k at *
  have hnm : (nms fs).length = fs.length := by simp [nms]
  go_enter Tryz.func20, Tryz.ntmps20
  go_wp2_with fail
  refine (Names_any h0).mono ?_
  rintro e W1 ⟨v, rfl, hrow, B1⟩
  have h1 : Dk W1 (Pl (fun k => F k ∧ k < w.heap.size) W1.heap.size) sb mb room fs lit left := (h0.to B1).pl _
  have HG1 : Hid (Grows F w W1) := (Grows.refl F w).bel B1
  rw [← hnm] at hrow
  obtain ⟨g, cap, rfl, HROW⟩ : ∃ (g : Option Addr) (cap : Nat), v = .slice g fs.length cap ∧ Hid (fs = [] ∨ ∃ b, g = some ⟨b, 0, none⟩ ∧ w.heap.size ≤ b ∧ b < W1.heap.size ∧ ∀ i x, (nms fs)[i]? = some x → W1.cell? ⟨b, i, none⟩ = some (encStr x)) := by
    rcases row_str hrow with ⟨e1, e2⟩ | ⟨b, cap, e1, e2, e3, e4⟩
    · have e3 : fs = [] := by simpa [nms] using e2
      exact ⟨none, 0, by rw [e1, e3]; rfl, Or.inl e3⟩
    · exact ⟨_, cap, by rw [e1, hnm], Or.inr ⟨b, rfl, e2, e3, e4⟩⟩
  have HB1 : Hid (w.heap.size ≤ W1.heap.size) := B1.size
  have hcnt := h.cnt
  clear h h0 hrow B1 hnm
  go_wp2_with fail
  go_loopw [13] (fun iv wx => ∃ (i : Nat) (fs' : Fls) (mb' : Option Nat), i ≤ fs.length ∧ iv = .int .i64 (i : Int) ∧ Hid (abs fs' = crI k t i (abs fs)) ∧ Dk wx (Pl (fun k => F k ∧ k < w.heap.size) W1.heap.size) sb mb' room fs' lit left ∧ Grows (Pl (fun k => F k ∧ k < w.heap.size) W1.heap.size) W1 wx) (fun iv _ => fs.length - (intOf iv).toNat)
  case atStart => exact ⟨0, fs, mb, Nat.zero_le _, rfl, (crI_zero k t _).symm, h1, Grows.refl _ _⟩
  case round =>
    clear h1
    obtain ⟨i, fs', mb', hi, rfl, HA, hD, hG⟩ := hrel
    have hlen' : fs'.length = fs.length := by have e := congrArg List.length HA.out; simpa [abs, crI] using e
    by_cases hlt : i < fs.length
    · obtain ⟨b, rfl, hb1, hb2, hcell⟩ : ∃ b, g = some ⟨b, 0, none⟩ ∧ w.heap.size ≤ b ∧ b < W1.heap.size ∧ ∀ i x, (nms fs)[i]? = some x → W1.cell? ⟨b, i, none⟩ = some (encStr x) := by
        rcases HROW.out with e | e
        · rw [e] at hlt; simp at hlt
        · exact e
      obtain ⟨⟨x, f⟩, hget⟩ : ∃ p, fs'[i]? = some p := ⟨fs'[i]'(by omega), List.getElem?_eq_getElem (by omega)⟩
      have hnx : (nms fs)[i]? = some x := by
        have e := congrArg (fun l => (l.map (·.1))[i]?) HA.out
        simp only [crI_names, abs_names] at e
        rw [← e]
        simp [nms, hget]
      have hblk : wr.heap[b]? = W1.heap[b]? := hG.block b hb2 fun hk => by rcases hk with ⟨_, hk⟩ | hk <;> omega
      have hce : wr.cell? ⟨b, i, none⟩ = some (encStr x) := (World.cell?_of_block (w := W1) hblk).trans (hcell i x hnx)
      clear hcell hblk
      obtain ⟨c0, c1, c2, c3, c4⟩ := hD.cell
      have hmem : (x, f) ∈ fs' := List.mem_of_getElem? hget
      have hlk : lk fs' x = some f := lk_of_mem hD.diff hmem
      have hxl := hD.name_le hmem
      have hat : at0 fs' x = f := by simp only [at0, hlk]
      obtain ⟨ao, cp, hfv⟩ := at0_form' hD x
      rw [hat] at hfv
      have hrun := look_no hD x hxl
      rw [hat, Fl.val, hfv] at hrun
      obtain ⟨r1, r2, r3, r4⟩ := hD.rows _ hmem
      have hfl : f.zs.length ≤ 1073741824 := by have := tot_at0 hD x; rw [hat] at this; exact this
      have r1' : Ow wr 0 (.slice ao f.zs.length cp) f.zs := by rw [← hfv]; exact r1
      have hcr := crashed_any ao cp f.zs f.l k t wr r1' r2 hfl hkn
      have hasi : (abs fs)[i]? = some (x, f.zs, f.l) := by
        have e := crI_get k t i (abs fs)
        rw [← HA.out, abs_get, hget] at e
        exact e.symm
      have hbl := crB_length f.zs f.l k t r2
      have hnl := crN_le f.zs f.l k r2
      have hby := crB_byt (l := f.l) (k := k) r3 ht
      have hstep : abs (pt fs' x ⟨.slice none 0 0, crB f.zs f.l k t, crN f.zs f.l k⟩) = crI k t (i + 1) (abs fs) := by
        rw [pt_set hD.rising hget, abs_set, HA.out, ← crI_step k t i (abs fs) _ hasi]
        rfl
      have hvind : ∀ v, abs (pt fs' x ⟨v, crB f.zs f.l k t, crN f.zs f.l k⟩) = crI k t (i + 1) (abs fs) := fun v => by
        rw [← hstep, pt_set hD.rising hget, pt_set hD.rising hget, abs_set, abs_set]
      have HV := hid_into hvind
      have HBL := hid_into hbl
      have HNL := hid_into hnl
      have HBY := hid_into hby
      generalize crB f.zs f.l k t = ys at *
      generalize crN f.zs f.l k = n at *
      have HCR := hid_into hcr
      have HHL := hid_into hlen'
      clear hcr hstep hvind hbl hnl hby hasi r4 r1 r1' HA hlen'
      go_wp2_with fail
      refine HCR.out.mono ?_
      rintro e W3 ⟨ao3, cap3, rfl, ho3, B3⟩
      have h3 := hD.to B3
      have hown3 : ∀ j, (Value.slice ao3 n cap3).ownBlock = some j → wr.heap.size ≤ j := fun j hj => ho3.base_le hj
      have HS : Hid (W1.heap.size ≤ wr.heap.size) := hG.size
      have hp := put_any (f := ⟨.slice ao3 n cap3, ys, n⟩) (x := x) (h3.ex _) hxl (ho3.mono (Nat.zero_le _)) (by rw [HBL.out]; exact Nat.le_refl _) HBY.out (fun j hj => Or.inr (Nat.le_trans HS.out (hown3 j hj)))
        (fun q hq _ => by
          cases ho : (Value.slice ao3 n cap3).ownBlock with
          | none => exact Or.inl rfl
          | some j =>
            refine Or.inr fun e => ?_
            have := ((hD.rows q hq).1.lt e.symm).1
            have := hown3 j ho
            omega)
        (hD.fits_same hlk (by rw [HBL.out]; exact HNL.out)) (Nat.le_trans (len_pt_of hlk) hD.cnt)
      simp only [Fl.val] at hp
      have HP := hid_into hp
      have HG3 : Hid (Grows (Pl (fun k => F k ∧ k < w.heap.size) W1.heap.size) W1 W3) := hG.bel B3
      have HB3 : Hid (wr.heap.size ≤ W3.heap.size) := B3.size
      clear hp hown3 ho3 hG h3 B3
      go_wp2_with fail
      refine HP.out.mono ?_
      rintro e W5 ⟨rfl, mb5, h5, hG5⟩
      have HG5 : Hid (Grows (Pl (fun k => F k ∧ k < w.heap.size) W1.heap.size) W1 W5) := HG3.out.trans hG5 fun _ hk => Or.inl hk
      have h5' : Dk W5 (Pl (fun k => F k ∧ k < w.heap.size) W1.heap.size) sb mb5 room (pt fs' x ⟨.slice ao3 n cap3, ys, n⟩) lit left := h5.plpl (Nat.le_trans HS.out HB3.out)
      clear hG5 h5 HP hD
      go_wp2_with fail
      go_roundw
      case rel => exact ⟨i + 1, _, mb5, by omega, by go_num, HV.out _, h5', HG5.out⟩
      case measure => simp [intOf]; omega
    · have HI : Hid (i = fs.length) := by show _ = _; omega
      obtain ⟨c0, c1, c2, c3, c4⟩ := hD.cell
      have f3 := hD.cells.frozen 3
      have f4 := hD.cells.frozen 4
      have HD := hid_into (hD.setFuse false 0 (by decide))
      have HG2 : Hid (Grows F w ((wr.setCell ⟨sb, 3, none⟩ (.bool false)).setCell ⟨sb, 4, none⟩ (.int .i64 0))) :=
        (HG1.out.trans hG fun k hk => by
          rcases hk with hk | hk
          · exact Or.inl hk.1
          · exact Or.inr (Nat.le_trans HB1.out hk)).trans ((Grows.setCell (F := Pl (fun k => F k ∧ k < w.heap.size) W1.heap.size) _ _ _ hD.sF).trans (Grows.setCell _ _ _ hD.sF) fun _ hk => Or.inl hk) fun k hk => by
          rcases hk with hk | hk
          · exact Or.inl hk.1
          · exact Or.inr (Nat.le_trans HB1.out hk)
      clear hD hG
      go_wp2_with fail
      go_end0
      refine ⟨rfl, fs', ?_, mb', HD.out.more fun k hk _ => ?_, HG2.out⟩
      · rw [HA.out, HI.out, ← abs_length fs, crI_all]
      · rcases hk with hk | hk
        · exact Or.inl hk.1
        · exact Or.inr (Nat.le_trans HB1.out hk)
end Go.Proofs.YtnkjhooeklodcaaGreatDoor
end
