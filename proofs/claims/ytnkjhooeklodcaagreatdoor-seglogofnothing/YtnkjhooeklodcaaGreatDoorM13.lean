/-
  Joined from: Disk, Put.
-/
import Derived.Test.YtnkjhooeklodcaaGreatDoorM12
import Derived.Maps.OwnSet
import Derived.Maps.Ext
import Derived.Sort.KeysCollected
import Derived.StillTailTactics
import Derived.Deep.RegionHeld3
import Derived.Deep.DeepCutAuto
import Derived.WalkSpells
section
/-
  The disk in memory: its five cells, its map of files, each file's own row of bytes (Dk); lists of files by names (lk, pt, dl); what a step leaves of all else (Grows). Plain facts; no walk.
-/
namespace Go.Proofs.YtnkjhooeklodcaaGreatDoor
open Go.RowKit Go.Maps

theorem lawS : Keyed Tryz.prog 9 := string_keyed Tryz.underlying9
theorem zero67 (w : World) : (zeroValue 106).run Tryz.prog w = .ok (.agg #[.slice none 0 0, .int .i64 0]) w := by kernel_rfl

/-- A name, as bytes. -/
abbrev Nm := List UInt8
/-- A file: its slice, its bytes, how many last. -/
structure Fl where
  v : Value
  zs : List Int
  l : Nat
/-- The file as a value. -/
def Fl.val (f : Fl) : Value := .agg #[f.v, .int .i64 (f.l : Int)]
/-- An element of the map is read as itself. -/
abbrev Rv : Value → Option (DataW Value × List MemPlace) := fun v => some (.held v, [])
abbrev Fls := List (Nm × Fl)
def ents (fs : Fls) : List (Lit × DataW Value) := fs.map fun p => (.string p.1, .held p.2.val)
/-- The files as the map's datum. -/
def Dm (fs : Fls) : DataW Value := .map (ents fs)
def lk (fs : Fls) (x : Nm) : Option Fl := (fs.find? fun p => p.1 == x).map (·.2)
def dl (fs : Fls) (x : Nm) : Fls := fs.filter fun p => !(p.1 == x)
def ins (x : Nm) (f : Fl) : Fls → Fls
  | [] => [(x, f)]
  | y :: r => if bytesBefore x y.1 then (x, f) :: y :: r else y :: ins x f r
def pt (fs : Fls) (x : Nm) (f : Fl) : Fls := ins x f (dl fs x)
def tot (fs : Fls) : Nat := (fs.map fun p => p.2.zs.length).sum

theorem ents_ins (x : Nm) (f : Fl) : ∀ fs : Fls, ents (ins x f fs) = DataW.insert (.string x, .held f.val) (ents fs)
  | [] => rfl
  | y :: r => by
    have ih := ents_ins x f r
    simp only [ins, ents, List.map_cons, DataW.insert, Lit.before] at ih ⊢
    by_cases h : bytesBefore x y.1 = true
    · simp [h]
    · simp [h, ih]
theorem ents_dl (fs : Fls) (x : Nm) : ents (dl fs x) = (ents fs).filter fun p => !p.1.sameKey (.string x) := by
  simp only [ents, dl, List.filter_map]
  rfl
theorem Dm_put (fs : Fls) (x : Nm) (f : Fl) : (Dm fs).put (.string x) (.held f.val) = Dm (pt fs x f) := by
  simp only [Dm, DataW.put, pt, ents_ins, ents_dl]
theorem Dm_del (fs : Fls) (x : Nm) : (Dm fs).del (.string x) = Dm (dl fs x) := by
  simp only [Dm, DataW.del, ents_dl]
theorem Dm_size (fs : Fls) : Maps.size (Dm fs) = fs.length := by simp [Dm, Maps.size, ents]
theorem Dm_keys (fs : Fls) : strKeys (Dm fs) = fs.map (·.1) := by
  simp only [Dm, strKeys, ents, List.map_map]
  rfl
theorem Dm_at (fs : Fls) (x : Nm) (z : DataW Value) : (Dm fs).atKey (.string x) z = match lk fs x with | some f => .held f.val | none => z := by
  simp only [Dm, DataW.atKey, ents, List.find?_map, lk]
  have e : ((fun p : Lit × DataW Value => p.1.sameKey (.string x)) ∘ fun p : Nm × Fl => (Lit.string p.1, DataW.held p.2.val)) = fun p => p.1 == x := rfl
  rw [e]
  cases fs.find? fun p => p.1 == x <;> rfl
theorem Dm_has (fs : Fls) (x : Nm) : Maps.has (Dm fs) (.string x) = (lk fs x).isSome := by
  cases h : lk fs x with
  | none =>
    have := has_false_of_atKey (D := Dm fs) (k := .string x) (fun z => by rw [Dm_at, h])
    rw [this]; rfl
  | some f =>
    have := has_true_of_atKey (D := Dm fs) (k := .string x) (y := .held f.val) (fun z => by rw [Dm_at, h])
    rw [this]; rfl

theorem lk_mem {fs : Fls} {x : Nm} {f : Fl} (h : lk fs x = some f) : (x, f) ∈ fs := by
  simp only [lk, Option.map_eq_some_iff] at h
  obtain ⟨p, hp, rfl⟩ := h
  have h1 := List.find?_some hp
  have h2 := List.mem_of_find?_eq_some hp
  simp only [beq_iff_eq] at h1
  subst h1
  exact h2
theorem lk_none {fs : Fls} {x : Nm} (h : lk fs x = none) : ∀ p ∈ fs, p.1 ≠ x := by
  intro p hp
  simp only [lk, Option.map_eq_none_iff, List.find?_eq_none, beq_iff_eq] at h
  exact h p hp
theorem dl_mem {fs : Fls} {x : Nm} {p : Nm × Fl} : p ∈ dl fs x ↔ p ∈ fs ∧ p.1 ≠ x := by simp [dl]
theorem ins_perm (x : Nm) (f : Fl) : ∀ fs : Fls, (ins x f fs).Perm ((x, f) :: fs)
  | [] => List.Perm.refl _
  | y :: r => by
    simp only [ins]
    split
    · exact List.Perm.refl _
    · exact ((ins_perm x f r).cons y).trans (List.Perm.swap _ _ _)
theorem pt_perm (fs : Fls) (x : Nm) (f : Fl) : (pt fs x f).Perm ((x, f) :: dl fs x) := ins_perm x f _
theorem pt_mem {fs : Fls} {x : Nm} {f : Fl} {p : Nm × Fl} : p ∈ pt fs x f ↔ p = (x, f) ∨ (p ∈ fs ∧ p.1 ≠ x) := by
  rw [(pt_perm fs x f).mem_iff, List.mem_cons, dl_mem]
theorem tot_cons (p : Nm × Fl) (fs : Fls) : tot (p :: fs) = p.2.zs.length + tot fs := by simp [tot]
theorem tot_perm {fs gs : Fls} (h : fs.Perm gs) : tot fs = tot gs := (h.map _).sum_nat
theorem tot_pt (fs : Fls) (x : Nm) (f : Fl) : tot (pt fs x f) = f.zs.length + tot (dl fs x) := by rw [tot_perm (pt_perm fs x f), tot_cons]
/-- How long the file of a name is; 0 where there is none. -/
def ln (fs : Fls) (x : Nm) : Nat := match lk fs x with | some f => f.zs.length | none => 0
theorem lk_cons (p : Nm × Fl) (fs : Fls) (x : Nm) : lk (p :: fs) x = if p.1 = x then some p.2 else lk fs x := by
  simp only [lk, List.find?_cons]
  by_cases h : p.1 = x
  · simp [h]
  · simp [h, beq_eq_false_iff_ne.2 h]
theorem dl_cons (p : Nm × Fl) (fs : Fls) (x : Nm) : dl (p :: fs) x = if p.1 = x then dl fs x else p :: dl fs x := by
  by_cases h : p.1 = x <;> simp [dl, h]
theorem dl_of_none {fs : Fls} {x : Nm} (h : ∀ p ∈ fs, p.1 ≠ x) : dl fs x = fs := by
  simp only [dl, List.filter_eq_self]
  intro p hp
  simp [h p hp]
theorem tot_dl : ∀ {fs : Fls} {x : Nm}, fs.Pairwise (fun p q => p.1 ≠ q.1) → tot (dl fs x) + ln fs x = tot fs
  | [], _, _ => rfl
  | p :: r, x, h => by
    have ih := tot_dl (x := x) (List.pairwise_cons.1 h).2
    by_cases hp : p.1 = x
    · have h1 : dl r x = r := dl_of_none fun q hq e => (List.pairwise_cons.1 h).1 q hq (hp.trans e.symm)
      rw [dl_cons, if_pos hp, h1, tot_cons]
      simp only [ln, lk_cons, if_pos hp]
      omega
    · rw [dl_cons, if_neg hp, tot_cons, tot_cons]
      simp only [ln, lk_cons, if_neg hp] at ih ⊢
      omega
theorem len_pt_le (fs : Fls) (x : Nm) (f : Fl) : (pt fs x f).length ≤ fs.length + 1 := by
  rw [(pt_perm fs x f).length_eq, List.length_cons]
  exact Nat.succ_le_succ (List.length_filter_le _ _)
theorem len_pt_of {fs : Fls} {x : Nm} {f g : Fl} (h : lk fs x = some g) : (pt fs x f).length ≤ fs.length := by
  rw [(pt_perm fs x f).length_eq, List.length_cons]
  have hm := lk_mem h
  have : (dl fs x).length < fs.length := by
    refine Nat.lt_of_le_of_ne (List.length_filter_le _ _) fun e => ?_
    have := (List.length_filter_eq_length_iff.1 e) (x, g) hm
    simp at this
  exact this

/-- Bytes are bytes. -/
def Byt (zs : List Int) : Prop := ∀ z ∈ zs, 0 ≤ z ∧ z < 256

/-- The world w' is w but for the blocks of F, and new ones. -/
structure Grows (F : Nat → Prop) (w w' : World) : Prop where
  os : w'.os = w.os
  tape : w'.tape = w.tape
  output : w'.output = w.output
  size : w.heap.size ≤ w'.heap.size
  block : ∀ k, k < w.heap.size → ¬ F k → w'.heap[k]? = w.heap[k]?
theorem Grows.refl (F : Nat → Prop) (w : World) : Grows F w w := ⟨rfl, rfl, rfl, Nat.le_refl _, fun _ _ _ => rfl⟩
theorem Grows.mono {F G : Nat → Prop} {w w' : World} (h : Grows F w w') (hg : ∀ k, F k → G k) : Grows G w w' := ⟨h.os, h.tape, h.output, h.size, fun k hk hn => h.block k hk fun hf => hn (hg k hf)⟩
theorem Grows.trans {F F' : Nat → Prop} {w w' w'' : World} (h : Grows F w w') (h' : Grows F' w' w'') (hn : ∀ k, F' k → F k ∨ w.heap.size ≤ k) : Grows F w w'' :=
  ⟨h'.os.trans h.os, h'.tape.trans h.tape, h'.output.trans h.output, Nat.le_trans h.size h'.size, fun k hk hf => (h'.block k (Nat.lt_of_lt_of_le hk h.size) fun h1 => by rcases hn k h1 with h2 | h2; exact hf h2; omega).trans (h.block k hk hf)⟩
theorem Grows.of_below {w w' : World} {B : Nat} (h : Below B w w') (F : Nat → Prop) (hF : ∀ k, k < w.heap.size → B ≤ k → F k) : Grows F w w' :=
  ⟨h.os, h.tape, h.output, h.size, fun k hk hf => by
    by_cases hb : k < B
    · exact h.block k hb
    · exact absurd (hF k hk (by omega)) hf⟩
theorem Grows.below {F : Nat → Prop} {w w' : World} (h : Grows F w w') {B : Nat} (hB : B ≤ w.heap.size) (hF : ∀ k, F k → B ≤ k) : Below B w w' :=
  ⟨h.os, h.tape, h.output, h.size, fun k hk => h.block k (by omega) fun hf => by have := hF k hf; omega⟩
theorem Grows.alloc (F : Nat → Prop) (w : World) (o : Obj) : Grows F w (w.alloc o) := ⟨rfl, rfl, rfl, by simp, fun k hk _ => Below.heap_alloc _ _ _ hk⟩
theorem Grows.drew (F : Nat → Prop) (w : World) : Grows F w w.drew := ⟨rfl, rfl, rfl, Nat.le_refl _, fun _ _ _ => rfl⟩
theorem Grows.setCell {F : Nat → Prop} (w : World) (a : Addr) (v : Value) (h : F a.block) : Grows F w (w.setCell a v) :=
  ⟨rfl, rfl, rfl, by simp [World.setCell], fun k _ hf => Below.heap_setCell _ _ _ _ fun e => hf (e ▸ h)⟩
theorem Grows.grownBy {F : Nat → Prop} {w w' : World} {r : Option Nat} (h : w.grownBy w' r) (hr : ∀ k, r = some k → F k) : Grows F w w' :=
  ⟨h.os, h.tape, h.output, h.size, fun k hk hf => h.block k hk fun e => hf (hr k e.symm)⟩

/-- The disk at block sb: room, files, fuse; all its blocks lie in F. Of a file whose name is in X the map's own entry is said, not its row. -/
structure Dx (X : Nm → Prop) (w : World) (F : Nat → Prop) (sb : Nat) (mb : Option Nat) (room : Int) (fs : Fls) (lit : Bool) (left : Int) : Prop where
  cells : Cw w sb [.int .i64 room, .int .i64 (tot fs : Int), .map mb, .bool lit, .int .i64 left] 88
  sF : F sb
  nn : mb = none → fs = []
  map : ∀ b, mb = some b → F b ∧ w.ownsMap Tryz.prog 9 Rv b fs.length (Dm fs)
  form : ∀ p ∈ fs, ∃ ao cap, p.2.v = .slice ao p.2.zs.length cap
  rowsX : ∀ p ∈ fs, ¬ X p.1 → Ow w 0 p.2.v p.2.zs ∧ p.2.l ≤ p.2.zs.length ∧ Byt p.2.zs ∧ ∀ k, p.2.v.ownBlock = some k → F k
  apart : ∀ p ∈ fs, ∀ q ∈ fs, p.1 ≠ q.1 → p.2.v.ownBlock = .none ∨ p.2.v.ownBlock ≠ q.2.v.ownBlock
  room0 : 0 ≤ room ∧ room ≤ 1073741824
  fits : (tot fs : Int) ≤ room
  left0 : 0 ≤ left ∧ left < 9223372036854775808
  cnt : fs.length ≤ 4096
/-- .. of every file. -/
abbrev Dk := Dx fun _ => False
theorem Ow.keep {w w' : World} {base : Nat} {v : Value} {zs : List Int} (h : Ow w base v zs) (hk : ∀ k, v.ownBlock = some k → w'.heap[k]? = w.heap[k]?) : Ow w' base v zs := by
  refine ⟨h.1, ?_⟩
  rcases h.2 with h2 | ⟨g, cap, cur, h1, h2, h3, h4⟩
  · exact Or.inl h2
  · exact Or.inr ⟨g, cap, cur, h1, h2, (hk g (by rw [h1]; rfl)).trans h3, h4⟩
theorem Ow.lt {w : World} {base : Nat} {v : Value} {zs : List Int} (h : Ow w base v zs) {k : Nat} (hk : v.ownBlock = some k) : k < w.heap.size ∧ ∃ cur, w.heap[k]? = some (.cells cur 5 (0, 0)) := by
  rcases h.2 with ⟨h2, _⟩ | ⟨g, cap, cur, h1, h2, h3, h4⟩
  · rw [h2] at hk; cases hk
  · rw [h1] at hk
    obtain rfl : g = k := by simpa [Value.ownBlock] using hk
    exact ⟨(Array.getElem?_eq_some_iff.1 h3).1, cur, h3⟩
theorem ownsMap_tight {w : World} {b n : Nat} {D : DataW Value} (h : w.ownsMap Tryz.prog 9 Rv b n D) : w.ownsMap Tryz.prog 9 Rv b (Maps.size D) D := by
  obtain ⟨es, clock, hb, F, hs, rfl⟩ := h
  exact ⟨es, clock, hb, F, by simp [Maps.size, length_sorted], rfl⟩
theorem ownsMap_keep {w w' : World} {b n : Nat} {D : DataW Value} (h : w.ownsMap Tryz.prog 9 Rv b n D) (hk : w'.heap[b]? = w.heap[b]?) : w'.ownsMap Tryz.prog 9 Rv b n D := by
  obtain ⟨es, clock, hb, r⟩ := h
  exact ⟨es, clock, hk.trans hb, r⟩
theorem ownsMap_kind {w : World} {b n : Nat} {D : DataW Value} (h : w.ownsMap Tryz.prog 9 Rv b n D) : ∃ es clock, w.heap[b]? = some (.map es clock) := by
  obtain ⟨es, clock, hb, _⟩ := h
  exact ⟨es, clock, hb⟩

variable {X : Nm → Prop} {w w' : World} {F : Nat → Prop} {sb : Nat} {mb : Option Nat} {room : Int} {fs : Fls} {lit : Bool} {left : Int}

theorem Dx.keep (h : Dx X w F sb mb room fs lit left) (hk : ∀ k, F k → k < w.heap.size → w'.heap[k]? = w.heap[k]?) : Dx X w' F sb mb room fs lit left where
  cells := h.cells.keep (hk sb h.sF h.cells.lt)
  sF := h.sF
  nn := h.nn
  map := fun b hb => ⟨(h.map b hb).1, ownsMap_keep (h.map b hb).2 (hk b (h.map b hb).1 (h.map b hb).2.lt)⟩
  form := h.form
  rowsX := fun p hp hn => by
    obtain ⟨h1, h2, h3, h4⟩ := h.rowsX p hp hn
    exact ⟨h1.keep fun k e => hk k (h4 k e) (h1.lt e).1, h2, h3, h4⟩
  apart := h.apart
  room0 := h.room0
  fits := h.fits
  left0 := h.left0
  cnt := h.cnt
theorem Dx.more {G : Nat → Prop} (h : Dx X w F sb mb room fs lit left) (hg : ∀ k, F k → k < w.heap.size → G k) : Dx X w G sb mb room fs lit left where
  cells := h.cells
  sF := hg _ h.sF h.cells.lt
  nn := h.nn
  map := fun b hb => ⟨hg b (h.map b hb).1 (h.map b hb).2.lt, (h.map b hb).2⟩
  form := h.form
  rowsX := fun p hp hn => by
    obtain ⟨h1, h2, h3, h4⟩ := h.rowsX p hp hn
    exact ⟨h1, h2, h3, fun k e => hg k (h4 k e) (h1.lt e).1⟩
  apart := h.apart
  room0 := h.room0
  fits := h.fits
  left0 := h.left0
  cnt := h.cnt
theorem Dx.rows (h : Dk w F sb mb room fs lit left) : ∀ p ∈ fs, Ow w 0 p.2.v p.2.zs ∧ p.2.l ≤ p.2.zs.length ∧ Byt p.2.zs ∧ ∀ k, p.2.v.ownBlock = some k → F k := fun p hp => h.rowsX p hp fun e => e
theorem Dx.ex (h : Dk w F sb mb room fs lit left) (X : Nm → Prop) : Dx X w F sb mb room fs lit left := ⟨h.cells, h.sF, h.nn, h.map, h.form, fun p hp _ => h.rows p hp, h.apart, h.room0, h.fits, h.left0, h.cnt⟩
theorem Dx.cell (h : Dx X w F sb mb room fs lit left) :
    w.cell? ⟨sb, 0, .none⟩ = some (.int .i64 room) ∧ w.cell? ⟨sb, 1, .none⟩ = some (.int .i64 (tot fs : Int)) ∧ w.cell? ⟨sb, 2, .none⟩ = some (.map mb) ∧ w.cell? ⟨sb, 3, .none⟩ = some (.bool lit) ∧ w.cell? ⟨sb, 4, .none⟩ = some (.int .i64 left) := by
  refine ⟨?_, ?_, ?_, ?_, ?_⟩ <;> rw [h.cells.cell] <;> rfl
/-- No name twice; the names rise. -/
theorem Dx.rising (h : Dx X w F sb mb room fs lit left) : fs.Pairwise (fun p q => bytesBefore p.1 q.1 = true) := by
  cases mb with
  | none => rw [h.nn rfl]; exact List.Pairwise.nil
  | some b =>
    obtain ⟨es, he, hp, _⟩ := (h.map b rfl).2.canon lawS
    have : ents fs = es := by simpa [Dm] using he
    subst this
    simpa [ents, List.pairwise_map, Lit.before] using hp
theorem Dx.diff (h : Dx X w F sb mb room fs lit left) : fs.Pairwise (fun p q => p.1 ≠ q.1) :=
  h.rising.imp fun {p q} hb e => by rw [e, WideAt.bytes_irrefl] at hb; cases hb
theorem key9 (x : Nm) (hx : x.length ≤ maxLen) : keyOf Tryz.prog 9 (encStr x) = some (.string x) := by
  have h9 := Tryz.underlying9
  simp [keyOf, mapKey, h9, ByteArray.size, hx]

/-- The file of a name as the look-up hands it: the zero value where there is none. -/
def at0 (fs : Fls) (x : Nm) : Fl := match lk fs x with | some f => f | none => ⟨.slice none 0 0, [], 0⟩
theorem look_ok (h : Dx X w F sb mb room fs lit left) (x : Nm) (hx : x.length ≤ maxLen) :
    (Instr.lookup 86 (.map mb) (encStr x) true).run Tryz.prog w = .ok (.tuple #[(at0 fs x).val, .bool (lk fs x).isSome]) w := by
  cases mb with
  | none =>
    have := look_nil (w := w) true lawS Tryz.underlying86 (zero67 w) (key9 x hx)
    rw [this, h.nn rfl]
    rfl
  | some b =>
    obtain ⟨v, ps, hr, hv⟩ := (h.map b rfl).2.look_ok lawS Tryz.underlying86 (zero67 w) (zd := .held (.agg #[.slice none 0 0, .int .i64 0])) rfl (key9 x hx)
    rw [hr, Dm_has]
    have e : v = (at0 fs x).val := by
      simp only [Option.some.injEq, Prod.mk.injEq, Dm_at] at hv
      have hv1 := hv.1
      simp only [at0]
      cases hl : lk fs x <;> rw [hl] at hv1 <;> simp only [DataW.held.injEq] at hv1 <;> rw [hv1]
      rfl
    rw [e]
theorem look_no (h : Dx X w F sb mb room fs lit left) (x : Nm) (hx : x.length ≤ maxLen) :
    (Instr.lookup 86 (.map mb) (encStr x) false).run Tryz.prog w = .ok (at0 fs x).val w := by
  cases mb with
  | none =>
    have := look_nil (w := w) false lawS Tryz.underlying86 (zero67 w) (key9 x hx)
    rw [this, h.nn rfl]
    rfl
  | some b =>
    obtain ⟨v, ps, hr, hv⟩ := (h.map b rfl).2.lookup lawS Tryz.underlying86 (zero67 w) (zd := .held (.agg #[.slice none 0 0, .int .i64 0])) rfl (key9 x hx)
    rw [hr]
    have e : v = (at0 fs x).val := by
      simp only [Option.some.injEq, Prod.mk.injEq, Dm_at] at hv
      have hv1 := hv.1
      simp only [at0]
      cases hl : lk fs x <;> rw [hl] at hv1 <;> simp only [DataW.held.injEq] at hv1 <;> rw [hv1]
      rfl
    rw [e]
end Go.Proofs.YtnkjhooeklodcaaGreatDoor
end

section
/-
  disk's put and drop, by contracts.
-/
namespace Go.Proofs.YtnkjhooeklodcaaGreatDoor
open Go.RowKit Go.Maps
variable {X : Nm → Prop} {w w' : World} {F : Nat → Prop} {sb : Nat} {mb : Option Nat} {room : Int} {fs : Fls} {lit : Bool} {left : Int}

theorem Dx.drew (h : Dx X w F sb mb room fs lit left) : Dx X w.drew F sb mb room fs lit left := h.keep fun _ _ _ => rfl
theorem field67 (a b : Value) (w : World) : (Instr.field 106 (.agg #[a, b]) 0).run Tryz.prog w = .ok a w := by kernel_rfl
theorem at0_form (h : Dx X w F sb mb room fs lit left) (x : Nm) : ∃ ao cap l, (at0 fs x).val = .agg #[.slice ao (ln fs x) cap, .int .i64 l] := by
  simp only [at0, ln]
  cases hl : lk fs x with
  | none => exact ⟨none, 0, 0, rfl⟩
  | some f =>
    obtain ⟨ao, cap, hv⟩ := h.form _ (lk_mem hl)
    have hv' : f.v = .slice ao f.zs.length cap := hv
    exact ⟨ao, cap, f.l, by simp only [Fl.val]; rw [hv']⟩
/-- delete(d.files, x). -/
theorem del_run (mb : Option Nat) (fs : Fls) (n : Nat) (x : Nm) (hx : x.length ≤ maxLen) (w : World) (ty : TypeId) (hm : ∀ b, mb = some b → w.ownsMap Tryz.prog 9 Rv b n (Dm fs)) :
    ∃ w', (Builtin.delete_ #[86, 9] ty #[.map mb, encStr x]).run Tryz.prog w = .ok (.tuple #[]) w' ∧ (∀ b, mb = some b → w'.ownsMap Tryz.prog 9 Rv b n (Dm (dl fs x))) ∧ w.grownBy w' mb := by
  cases mb with
  | none => exact ⟨w, drop_nil lawS Tryz.underlying86 (key9 x hx) ty, fun b hb => (by cases hb), World.grownBy.refl _ _⟩
  | some b =>
    obtain ⟨w', hr, ho, ht⟩ := (hm b rfl).drop lawS Tryz.underlying86 (key9 x hx) ty
    rw [Dm_del] at ho
    exact ⟨w', hr, fun b' hb => by cases hb; exact ho, ht.grown⟩
theorem mb_ne (h : Dx X w F sb mb room fs lit left) : some sb ≠ mb := by
  intro e
  obtain ⟨_, hm⟩ := h.map sb e.symm
  obtain ⟨es, clock, hb⟩ := ownsMap_kind hm
  have := h.cells
  rw [Cw, hb] at this
  cases this
theorem row_ne (h : Dx X w F sb mb room fs lit left) {v : Value} {zs : List Int} (ho : Ow w 0 v zs) {k : Nat} (hk : v.ownBlock = some k) : k ≠ sb ∧ some k ≠ mb := by
  obtain ⟨_, cur, hc⟩ := ho.lt hk
  refine ⟨fun e => ?_, fun e => ?_⟩
  · subst e
    have := h.cells
    rw [Cw, hc] at this
    simp only [Option.some.injEq, Obj.cells.injEq] at this
    exact absurd this.2.1 (by decide)
  · obtain ⟨es, clock, hb⟩ := ownsMap_kind (h.map k e.symm).2
    rw [hc] at hb
    cases hb
theorem len_dl (fs : Fls) (x : Nm) : (dl fs x).length ≤ fs.length := List.length_filter_le _ _
theorem wrap_id (n : Int) (h1 : 0 ≤ n) (h2 : n ≤ 1073741824) : wrap64 n = n := by simp only [wrap64]; omega
set_option maxRecDepth 20000 in
set_option maxHeartbeats 800000 in
theorem drop_any (h : Dk w F sb mb room fs lit left) (x : Nm) (hx : x.length ≤ maxLen) :
    Calls Tryz.prog 162 #[.pointer (some ⟨sb, 0, none⟩), encStr x] w fun e w' => e = .returned (.tuple #[]) ∧ Dk w' F sb mb room (dl fs x) lit left ∧ Grows F w w' ∧ ∀ {v : Value} {zs : List Int}, Ow w 0 v zs → Ow w' 0 v zs := by
  obtain ⟨ao, cap, l, hf⟩ := at0_form h x
  have hlk := look_no h.drew x hx
  rw [hf] at hlk
  obtain ⟨c0, c1, c2, c3, c4⟩ := h.cell
  have f1 := h.cells.frozen 1
  have hfd := field67
  have ht := tot_dl (x := x) h.diff
  have hfit := h.fits
  have hr0 := h.room0
  have hsub : wrap64 ((tot fs : Int) - (ln fs x : Int)) = (tot (dl fs x) : Int) := by rw [wrap_id _ (by omega) (by omega)]; omega
  obtain ⟨W2, hdel, hm2, hg2⟩ := del_run mb fs fs.length x hx (w.setCell ⟨sb, 1, none⟩ (.int .i64 (tot (dl fs x) : Int))).drew 0 (fun b hb => ownsMap_keep (h.map b hb).2 (Below.heap_setCell _ _ _ _ (fun e => mb_ne h (by rw [hb]; exact congrArg some e.symm))))
  have HT := hid_into ht
  clear ht
  go_enter Tryz.func162, Tryz.ntmps162
  refine wp_seq ?_
  refine wp_region_still_tail 15 (by kernel_rfl) (by kernel_rfl) ?_
  simp only [List.take_succ_cons, List.take_zero, List.drop_succ_cons, List.drop_zero]
  change wpStill _ _ (World.drew _) _ _ _
  repeat still_step
  refine wpStill_nil ?_
  go_wp2_with fail
  go_end0
  have hG : Grows F w W2 := ((Grows.setCell w ⟨sb, 1, none⟩ (.int .i64 (tot (dl fs x) : Int)) h.sF).trans (Grows.drew F _) fun k hk => Or.inl hk).trans (Grows.grownBy (F := F) hg2 (fun k hk => (h.map k hk).1)) fun k hk => Or.inl hk
  have hkeep : ∀ {v : Value} {zs : List Int}, Ow w 0 v zs → Ow W2 0 v zs := fun {v zs} h1 => h1.keep fun k hk => by
    have hn := row_ne h h1 hk
    exact (hg2.block k (by simp [World.setCell, World.drew]; exact (h1.lt hk).1) hn.2).trans (Below.heap_setCell _ _ _ _ hn.1)
  refine ⟨rfl, ?_, hG, hkeep⟩
  have hset : Cw (w.setCell ⟨sb, 1, none⟩ (.int .i64 (tot (dl fs x) : Int))) sb _ 88 := h.cells.set 1 _
  refine ⟨?_, h.sF, fun e => by rw [h.nn e]; rfl, fun b hb => ⟨(h.map b hb).1, ?_⟩, fun p hp => h.form p (dl_mem.1 hp).1, ?_, ?_, h.room0, ?_, h.left0, Nat.le_trans (len_dl fs x) h.cnt⟩
  · have := hg2.block sb (by simp [World.setCell, World.drew]; exact h.cells.lt) (mb_ne h)
    exact hset.keep this
  · have := ownsMap_tight (hm2 b hb)
    rw [Dm_size] at this
    exact this
  · intro p hp _
    obtain ⟨h1, h2, h3, h4⟩ := h.rows p (dl_mem.1 hp).1
    exact ⟨hkeep h1, h2, h3, h4⟩
  · intro p hp q hq hpq
    exact h.apart p (dl_mem.1 hp).1 q (dl_mem.1 hq).1 hpq
  · have := HT.out; omega

theorem ln_le (h : fs.Pairwise (fun p q => p.1 ≠ q.1)) (x : Nm) : ln fs x ≤ tot fs := by have := tot_dl (x := x) h; omega
/-- d.files[x] = f behind d.used = .. -/
theorem upd_run {b : Nat} {f : Fl} {x : Nm} (h : Dx (fun y => y = x) w F sb (some b) room fs lit left) (hx : x.length ≤ maxLen) (ho : Ow w 0 f.v f.zs) (hl : f.l ≤ f.zs.length) (hb : Byt f.zs) (hF : ∀ k, f.v.ownBlock = some k → F k)
    (hap : ∀ p ∈ fs, p.1 ≠ x → f.v.ownBlock = none ∨ f.v.ownBlock ≠ p.2.v.ownBlock) (hfit : ((f.zs.length + tot (dl fs x) : Nat) : Int) ≤ room) (hcnt : (pt fs x f).length ≤ 4096) :
    ∃ w', (Instr.mapUpdate 86 (.map (some b)) (encStr x) f.val).run Tryz.prog (w.setCell ⟨sb, 1, none⟩ (.int .i64 (tot (pt fs x f) : Int))).drew.drew = .ok () w' ∧ Dk w' F sb (some b) room (pt fs x f) lit left ∧ Grows F w w' := by
  have hne : b ≠ sb := fun e => mb_ne h (by rw [e])
  obtain ⟨hFb, hm⟩ := h.map b rfl
  have hm1 : (w.setCell ⟨sb, 1, none⟩ (.int .i64 (tot (pt fs x f) : Int))).drew.drew.ownsMap Tryz.prog 9 Rv b fs.length (Dm fs) := ownsMap_keep hm (Below.heap_setCell _ _ _ _ hne)
  obtain ⟨W2, hr, hm2, ht⟩ := hm1.store lawS Tryz.underlying86 (by have := h.cnt; unfold maxLen; omega) (key9 x hx) (val := f.val) (d := .held f.val) rfl
  rw [Dm_put] at hm2
  have hg := ht.grown
  have hG : Grows F w W2 := ((Grows.setCell w ⟨sb, 1, none⟩ (.int .i64 (tot (pt fs x f) : Int)) h.sF).trans (Grows.drew F _) fun k hk => Or.inl hk).trans (((Grows.drew F _).trans (Grows.grownBy (F := F) hg (fun k hk => by cases hk; exact hFb)) fun k hk => Or.inl hk)) fun k hk => Or.inl hk
  refine ⟨W2, hr, ?_, hG⟩
  have hset : Cw (w.setCell ⟨sb, 1, none⟩ (.int .i64 (tot (pt fs x f) : Int))) sb _ 88 := h.cells.set 1 _
  have hkeep : ∀ {v : Value} {zs : List Int}, Ow w 0 v zs → Ow W2 0 v zs := fun {v zs} h1 => h1.keep fun k hk => by
    have hn := row_ne h h1 hk
    exact (hg.block k (by simp [World.setCell, World.drew]; exact (h1.lt hk).1) hn.2).trans (Below.heap_setCell _ _ _ _ hn.1)
  refine ⟨?_, h.sF, fun e => (by cases e), fun b' hb' => ⟨by cases hb'; exact hFb, ?_⟩, ?_, ?_, ?_, h.room0, ?_, h.left0, hcnt⟩
  · have := hg.block sb (by simp [World.setCell, World.drew]; exact h.cells.lt) (mb_ne h)
    exact hset.keep this
  · cases hb'
    have := ownsMap_tight hm2
    rw [Dm_size] at this
    exact this
  · intro p hp
    rcases pt_mem.1 hp with rfl | ⟨hp1, hp2⟩
    · obtain ⟨ao, cap, hv, _⟩ := ho.form
      exact ⟨ao, cap, hv⟩
    · exact h.form p hp1
  · intro p hp _
    rcases pt_mem.1 hp with rfl | ⟨hp1, hp2⟩
    · exact ⟨hkeep ho, hl, hb, hF⟩
    · obtain ⟨h1, h2, h3, h4⟩ := h.rowsX p hp1 hp2
      exact ⟨hkeep h1, h2, h3, h4⟩
  · intro p hp q hq hpq
    rcases pt_mem.1 hp with rfl | ⟨hp1, hp2⟩ <;> rcases pt_mem.1 hq with rfl | ⟨hq1, hq2⟩
    · exact absurd rfl hpq
    · exact hap q hq1 hq2
    · rcases hap p hp1 hp2 with e | e
      · by_cases e2 : p.2.v.ownBlock = none
        · exact Or.inl e2
        · exact Or.inr (by rw [e]; exact e2)
      · exact Or.inr (Ne.symm e)
    · exact h.apart p hp1 q hq1 hpq
  · rw [tot_pt]; exact hfit
/-- The files may be nil: then the map is made. -/
theorem Dx.made (h : Dx X w F sb none room fs lit left) (hF : F w.heap.size) : Dx X ((w.alloc (.map #[] 0)).setCell ⟨sb, 2, none⟩ (.map (some w.heap.size))) F sb (some w.heap.size) room fs lit left := by
  have e0 := h.nn rfl
  subst e0
  have hlt := h.cells.lt
  have hc : Cw ((w.alloc (.map #[] 0)).setCell ⟨sb, 2, none⟩ (.map (some w.heap.size))) sb _ 88 := (h.cells.alloc _).set 2 _
  refine ⟨hc, h.sF, fun e => (by cases e), fun b hb => ?_, fun p hp => (by cases hp), fun p hp => (by cases hp), fun p hp => (by cases hp), h.room0, h.fits, h.left0, h.cnt⟩
  cases hb
  exact ⟨hF, (World.ownsMap_made (H := Value) w Tryz.prog 9 Rv).setCell (a := ⟨sb, 2, none⟩) (by show w.heap.size ≠ sb; omega) _⟩
set_option maxRecDepth 20000 in
set_option maxHeartbeats 1600000 in
theorem put_any {f : Fl} {x : Nm} (h : Dx (fun y => y = x) w F sb mb room fs lit left) (hx : x.length ≤ maxLen) (ho : Ow w 0 f.v f.zs) (hl : f.l ≤ f.zs.length) (hb : Byt f.zs) (hF : ∀ k, f.v.ownBlock = some k → F k)
    (hap : ∀ p ∈ fs, p.1 ≠ x → f.v.ownBlock = none ∨ f.v.ownBlock ≠ p.2.v.ownBlock) (hfit : ((f.zs.length + tot (dl fs x) : Nat) : Int) ≤ room) (hcnt : (pt fs x f).length ≤ 4096) :
    Calls Tryz.prog 59 #[.pointer (some ⟨sb, 0, none⟩), encStr x, f.val] w fun e w' => e = .returned (.tuple #[]) ∧ ∃ mb', Dk w' (fun k => F k ∨ w.heap.size ≤ k) sb mb' room (pt fs x f) lit left ∧ Grows F w w' := by
  obtain ⟨fa, fc, hfv, _⟩ := ho.form
  have hval : f.val = .agg #[.slice fa f.zs.length fc, .int .i64 (f.l : Int)] := by simp only [Fl.val]; rw [hfv]
  have HV := hid_into hval
  rw [hval]
  have hmm := @run_makeMap Tryz.prog
  have q58 : ∀ (w : World) (r : Option Nat), (binOp .eql 86 (.map r) (.map none)).run Tryz.prog w = .ok (.bool r.isNone) w := fun w r => run_eql_map_nil w _ _ _ r Tryz.underlying86
  clear hval
  go_enter Tryz.func59, Tryz.ntmps59
  refine wp_seq (wp_region_lit (wpList_box_row rfl 106 (.tmp 2) rfl [.slice fa f.zs.length fc, .int .i64 (f.l : Int)] rfl ?_))
  intro W1 hc1 B1 HS1
  refine wpList_nil ?_
  have h1 : Dx (fun y => y = x) W1 (fun k => F k ∨ w.heap.size ≤ k) sb mb room fs lit left := (h.keep fun k _ hk => B1.block k hk).more fun k hk _ => Or.inl hk
  have ho1 : Ow W1 0 f.v f.zs := ho.keep fun k hk => B1.block k (ho.lt hk).1
  have HG1 : Hid (Grows F w W1) := Grows.of_below B1 F fun k hk hb => by omega
  have hdf := h.diff
  have HR0 := hid_into h.room0
  have HFT := hid_into h.fits
  clear h ho B1
  obtain ⟨c0, c1, c2, c3, c4⟩ := h1.cell
  have f2 := h1.cells.frozen 2
  go_upto_if 10 with fail
  go_cut [] (fun wx => ∃ b, Dx (fun y => y = x) wx (fun k => F k ∨ w.heap.size ≤ k) sb (some b) room fs lit left ∧ Cw wx w.heap.size [.slice fa f.zs.length fc, .int .i64 (f.l : Int)] 106 ∧ Ow wx 0 f.v f.zs ∧ Grows F w wx)
  case first =>
    cases mb with
    | some b =>
      go_wp2_with fail
      go_meet
      exact ⟨b, h1, hc1, ho1, HG1.out⟩
    | none =>
      have g2 : ∀ o, (W1.alloc o).cell? ⟨sb, 2, none⟩ = some (.map none) := fun o => by rw [(h1.cells.alloc o).cell]; rfl
      have g2f : ∀ o, (W1.alloc o).frozen? ⟨sb, 2, none⟩ = false := fun o => (h1.cells.alloc o).frozen 2
      go_wp2_with fail
      go_meet
      have hns : sb < W1.heap.size := h1.cells.lt
      refine ⟨W1.heap.size, h1.made (Or.inr (by rw [HS1.out]; omega)), (hc1.alloc _).keep (Below.heap_setCell _ _ _ _ ?_), ho1.keep fun k hk => ?_, ?_⟩
      · intro e
        have e' : w.heap.size = sb := e
        have := h1.cells
        rw [← e', Cw, hc1] at this; simp at this
      · rw [Below.heap_setCell _ _ _ _ (row_ne h1 ho1 hk).1, Below.heap_alloc _ _ _ (ho1.lt hk).1]
      · refine (HG1.out.trans (Grows.alloc F _ _) fun k hk => Or.inl hk).trans (Grows.setCell (F := fun k => F k ∨ w.heap.size ≤ k) _ _ _ h1.sF) fun k hk => hk
  case rest =>
    clear c0 c1 c2 c3 c4 f2 h1 hc1 ho1 HG1
    rename World => W2
    obtain ⟨b, h2, hc2, ho2, hG2⟩ := hcut
    obtain ⟨ao, cap, l, hf⟩ := at0_form h2 x
    have hlk := look_no h2.drew x hx
    rw [hf] at hlk
    have hfd := field67
    obtain ⟨c0, c1, c2, c3, c4⟩ := h2.cell
    have f1 := h2.cells.frozen 1
    have d0 : W2.cell? ⟨w.heap.size, 0, none⟩ = some (.slice fa f.zs.length fc) := by rw [hc2.cell]; rfl
    have d1 : W2.cell? ⟨w.heap.size, 1, none⟩ = some (.int .i64 (f.l : Int)) := by rw [hc2.cell]; rfl
    have HT := hid_into (tot_dl (x := x) hdf)
    have hsub : wrap64 ((tot fs : Int) + wrap64 ((f.zs.length : Int) - (ln fs x : Int))) = (tot (pt fs x f) : Int) := by
      have := HT.out; have := HR0.out; have := HFT.out
      rw [tot_pt]
      simp only [wrap64]; omega
    obtain ⟨W3, hup, h3, hG3⟩ := upd_run h2 hx ho2 hl hb (fun k hk => Or.inl (hF k hk)) hap hfit hcnt
    rw [HV.out] at hup
    have hne : w.heap.size ≠ sb := fun e => by have := h2.cells; rw [← e, Cw, hc2] at this; simp at this
    have e2 : (W2.setCell ⟨sb, 1, none⟩ (.int .i64 (tot (pt fs x f) : Int))).cell? ⟨sb, 2, none⟩ = some (.map (some b)) := by
      have : Cw (W2.setCell ⟨sb, 1, none⟩ (.int .i64 (tot (pt fs x f) : Int))) sb _ 88 := h2.cells.set 1 _
      rw [this.cell]; rfl
    have hc3 : Cw (W2.setCell ⟨sb, 1, none⟩ (.int .i64 (tot (pt fs x f) : Int))) w.heap.size [.slice fa f.zs.length fc, .int .i64 (f.l : Int)] 106 := hc2.keep (Below.heap_setCell _ _ _ _ hne)
    have e0 : (W2.setCell ⟨sb, 1, none⟩ (.int .i64 (tot (pt fs x f) : Int))).cell? ⟨w.heap.size, 0, none⟩ = some (.slice fa f.zs.length fc) := by rw [hc3.cell]; rfl
    have e1 : (W2.setCell ⟨sb, 1, none⟩ (.int .i64 (tot (pt fs x f) : Int))).cell? ⟨w.heap.size, 1, none⟩ = some (.int .i64 (f.l : Int)) := by rw [hc3.cell]; rfl
    replace hG2 := hid_into hG2
    replace hG3 := hid_into hG3
    clear hne
    go_wp2_with fail
    refine wp_region_still_tail 19 (by kernel_rfl) (by kernel_rfl) ?_
    simp only [List.take_succ_cons, List.take_zero, List.drop_succ_cons, List.drop_zero]
    change wpStill _ _ (World.drew _) _ _ _
    repeat still_step
    refine wpStill_nil ?_
    go_wp2_with fail
    refine wp_region_still_tail 6 (by kernel_rfl) (by kernel_rfl) ?_
    simp only [List.take_succ_cons, List.take_zero, List.drop_succ_cons, List.drop_zero]
    change wpStill _ _ (World.drew _) _ _ _
    repeat still_step
    refine wpStill_nil ?_
    change wpList _ _ _ _ _ (World.drew _)
    go_wp2_with fail
    go_end0
    exact ⟨rfl, some b, h3, hG2.out.trans hG3.out fun k hk => hk⟩
end Go.Proofs.YtnkjhooeklodcaaGreatDoor
end
