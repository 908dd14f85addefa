/-
  Joined from: Disk.
-/
import Derived.Test.YtnkjhooeklodcaaGreatDoorM19
import Derived.Maps.OwnSet
import Derived.Maps.Ext
import Derived.Sort.KeysCollected
section
/-
  The disk in memory: its five cells, its map of files, each file's own row of bytes (Dk); lists of files by names (lk, pt, dl); what a step leaves of all else (Grows). Plain facts; no walk.
-/
namespace Go.Proofs.YtnkjhooeklodcaaGreatDoor
open Go.RowKit Go.Maps

theorem lawS : Keyed Tryz.prog 9 := string_keyed Tryz.underlying9
theorem zero67 (w : World) : (zeroValue 106).run Tryz.prog w = .ok (.agg #[.slice none 0 0, .int .i64 0]) w := by kernel_rfl

abbrev Nm := List UInt8
structure Fl where
  v : Value
  zs : List Int
  l : Nat
def Fl.val (f : Fl) : Value := .agg #[f.v, .int .i64 (f.l : Int)]
abbrev Rv : Value → Option (DataW Value × List MemPlace) := fun v => some (.held v, [])
abbrev Fls := List (Nm × Fl)
def ents (fs : Fls) : List (Lit × DataW Value) := fs.map fun p => (.string p.1, .held p.2.val)
def Dm (fs : Fls) : DataW Value := .map (ents fs)
def lk (fs : Fls) (x : Nm) : Option Fl := (fs.find? fun p => p.1 == x).map (·.2)
def dl (fs : Fls) (x : Nm) : Fls := fs.filter fun p => !(p.1 == x)
def ins (x : Nm) (f : Fl) : Fls → Fls
  | [] => [(x, f)]
  | y :: r => if bytesBefore x y.1 then (x, f) :: y :: r else y :: ins x f r
def pt (fs : Fls) (x : Nm) (f : Fl) : Fls := ins x f (dl fs x)
def tot (fs : Fls) : Nat := (fs.map fun p => p.2.zs.length).sum

theorem ents_ins (x : Nm) (f : Fl) : ∀ fs : Fls, ents (ins x f fs) = DataW.insert (.string x, .held f.val) (ents fs)
  | [] => rfl
  | y :: r => by
    have ih := ents_ins x f r
    simp only [ins, ents, List.map_cons, DataW.insert, Lit.before] at ih ⊢
    by_cases h : bytesBefore x y.1 = true
    · simp [h]
    · simp [h, ih]
theorem ents_dl (fs : Fls) (x : Nm) : ents (dl fs x) = (ents fs).filter fun p => !p.1.sameKey (.string x) := by
  simp only [ents, dl, List.filter_map]
  rfl
theorem Dm_put (fs : Fls) (x : Nm) (f : Fl) : (Dm fs).put (.string x) (.held f.val) = Dm (pt fs x f) := by
  simp only [Dm, DataW.put, pt, ents_ins, ents_dl]
theorem Dm_del (fs : Fls) (x : Nm) : (Dm fs).del (.string x) = Dm (dl fs x) := by
  simp only [Dm, DataW.del, ents_dl]
theorem Dm_size (fs : Fls) : Maps.size (Dm fs) = fs.length := by simp [Dm, Maps.size, ents]
theorem Dm_keys (fs : Fls) : strKeys (Dm fs) = fs.map (·.1) := by
  simp only [Dm, strKeys, ents, List.map_map]
  rfl
theorem Dm_at (fs : Fls) (x : Nm) (z : DataW Value) : (Dm fs).atKey (.string x) z = match lk fs x with | some f => .held f.val | none => z := by
  simp only [Dm, DataW.atKey, ents, List.find?_map, lk]
  have e : ((fun p : Lit × DataW Value => p.1.sameKey (.string x)) ∘ fun p : Nm × Fl => (Lit.string p.1, DataW.held p.2.val)) = fun p => p.1 == x := rfl
  rw [e]
  cases fs.find? fun p => p.1 == x <;> rfl
theorem Dm_has (fs : Fls) (x : Nm) : Maps.has (Dm fs) (.string x) = (lk fs x).isSome := by
  cases h : lk fs x with
  | none =>
    have := has_false_of_atKey (D := Dm fs) (k := .string x) (fun z => by rw [Dm_at, h])
    rw [this]; rfl
  | some f =>
    have := has_true_of_atKey (D := Dm fs) (k := .string x) (y := .held f.val) (fun z => by rw [Dm_at, h])
    rw [this]; rfl

theorem lk_mem {fs : Fls} {x : Nm} {f : Fl} (h : lk fs x = some f) : (x, f) ∈ fs := by
  simp only [lk, Option.map_eq_some_iff] at h
  obtain ⟨p, hp, rfl⟩ := h
  have h1 := List.find?_some hp
  have h2 := List.mem_of_find?_eq_some hp
  simp only [beq_iff_eq] at h1
  subst h1
  exact h2
theorem lk_none {fs : Fls} {x : Nm} (h : lk fs x = none) : ∀ p ∈ fs, p.1 ≠ x := by
  intro p hp
  simp only [lk, Option.map_eq_none_iff, List.find?_eq_none, beq_iff_eq] at h
  exact h p hp
theorem dl_mem {fs : Fls} {x : Nm} {p : Nm × Fl} : p ∈ dl fs x ↔ p ∈ fs ∧ p.1 ≠ x := by simp [dl]
theorem ins_perm (x : Nm) (f : Fl) : ∀ fs : Fls, (ins x f fs).Perm ((x, f) :: fs)
  | [] => List.Perm.refl _
  | y :: r => by
    simp only [ins]
    split
    · exact List.Perm.refl _
    · exact ((ins_perm x f r).cons y).trans (List.Perm.swap _ _ _)
theorem pt_perm (fs : Fls) (x : Nm) (f : Fl) : (pt fs x f).Perm ((x, f) :: dl fs x) := ins_perm x f _
theorem pt_mem {fs : Fls} {x : Nm} {f : Fl} {p : Nm × Fl} : p ∈ pt fs x f ↔ p = (x, f) ∨ (p ∈ fs ∧ p.1 ≠ x) := by
  rw [(pt_perm fs x f).mem_iff, List.mem_cons, dl_mem]
theorem tot_cons (p : Nm × Fl) (fs : Fls) : tot (p :: fs) = p.2.zs.length + tot fs := by simp [tot]
theorem tot_perm {fs gs : Fls} (h : fs.Perm gs) : tot fs = tot gs := (h.map _).sum_nat
theorem tot_pt (fs : Fls) (x : Nm) (f : Fl) : tot (pt fs x f) = f.zs.length + tot (dl fs x) := by rw [tot_perm (pt_perm fs x f), tot_cons]
def ln (fs : Fls) (x : Nm) : Nat := match lk fs x with | some f => f.zs.length | none => 0
theorem lk_cons (p : Nm × Fl) (fs : Fls) (x : Nm) : lk (p :: fs) x = if p.1 = x then some p.2 else lk fs x := by
  simp only [lk, List.find?_cons]
  by_cases h : p.1 = x
  · simp [h]
  · simp [h, beq_eq_false_iff_ne.2 h]
theorem dl_cons (p : Nm × Fl) (fs : Fls) (x : Nm) : dl (p :: fs) x = if p.1 = x then dl fs x else p :: dl fs x := by
  by_cases h : p.1 = x <;> simp [dl, h]
theorem dl_of_none {fs : Fls} {x : Nm} (h : ∀ p ∈ fs, p.1 ≠ x) : dl fs x = fs := by
  simp only [dl, List.filter_eq_self]
  intro p hp
  simp [h p hp]
theorem tot_dl : ∀ {fs : Fls} {x : Nm}, fs.Pairwise (fun p q => p.1 ≠ q.1) → tot (dl fs x) + ln fs x = tot fs
  | [], _, _ => rfl
  | p :: r, x, h => by
    have ih := tot_dl (x := x) (List.pairwise_cons.1 h).2
    by_cases hp : p.1 = x
    · have h1 : dl r x = r := dl_of_none fun q hq e => (List.pairwise_cons.1 h).1 q hq (hp.trans e.symm)
      rw [dl_cons, if_pos hp, h1, tot_cons]
      simp only [ln, lk_cons, if_pos hp]
      omega
    · rw [dl_cons, if_neg hp, tot_cons, tot_cons]
      simp only [ln, lk_cons, if_neg hp] at ih ⊢
      omega
theorem len_pt_le (fs : Fls) (x : Nm) (f : Fl) : (pt fs x f).length ≤ fs.length + 1 := by
  rw [(pt_perm fs x f).length_eq, List.length_cons]
  exact Nat.succ_le_succ (List.length_filter_le _ _)
theorem len_pt_of {fs : Fls} {x : Nm} {f g : Fl} (h : lk fs x = some g) : (pt fs x f).length ≤ fs.length := by
  rw [(pt_perm fs x f).length_eq, List.length_cons]
  have hm := lk_mem h
  have : (dl fs x).length < fs.length := by
    refine Nat.lt_of_le_of_ne (List.length_filter_le _ _) fun e => ?_
    have := (List.length_filter_eq_length_iff.1 e) (x, g) hm
    simp at this
  exact this

def Byt (zs : List Int) : Prop := ∀ z ∈ zs, 0 ≤ z ∧ z < 256

structure Grows (F : Nat → Prop) (w w' : World) : Prop where
  os : w'.os = w.os
  tape : w'.tape = w.tape
  output : w'.output = w.output
  size : w.heap.size ≤ w'.heap.size
  block : ∀ k, k < w.heap.size → ¬ F k → w'.heap[k]? = w.heap[k]?
theorem Grows.refl (F : Nat → Prop) (w : World) : Grows F w w := ⟨rfl, rfl, rfl, Nat.le_refl _, fun _ _ _ => rfl⟩
theorem Grows.mono {F G : Nat → Prop} {w w' : World} (h : Grows F w w') (hg : ∀ k, F k → G k) : Grows G w w' := ⟨h.os, h.tape, h.output, h.size, fun k hk hn => h.block k hk fun hf => hn (hg k hf)⟩
theorem Grows.trans {F F' : Nat → Prop} {w w' w'' : World} (h : Grows F w w') (h' : Grows F' w' w'') (hn : ∀ k, F' k → F k ∨ w.heap.size ≤ k) : Grows F w w'' :=
  ⟨h'.os.trans h.os, h'.tape.trans h.tape, h'.output.trans h.output, Nat.le_trans h.size h'.size, fun k hk hf => (h'.block k (Nat.lt_of_lt_of_le hk h.size) fun h1 => by rcases hn k h1 with h2 | h2; exact hf h2; omega).trans (h.block k hk hf)⟩
theorem Grows.of_below {w w' : World} {B : Nat} (h : Below B w w') (F : Nat → Prop) (hF : ∀ k, k < w.heap.size → B ≤ k → F k) : Grows F w w' :=
  ⟨h.os, h.tape, h.output, h.size, fun k hk hf => by
    by_cases hb : k < B
    · exact h.block k hb
    · exact absurd (hF k hk (by omega)) hf⟩
theorem Grows.below {F : Nat → Prop} {w w' : World} (h : Grows F w w') {B : Nat} (hB : B ≤ w.heap.size) (hF : ∀ k, F k → B ≤ k) : Below B w w' :=
  ⟨h.os, h.tape, h.output, h.size, fun k hk => h.block k (by omega) fun hf => by have := hF k hf; omega⟩
theorem Grows.alloc (F : Nat → Prop) (w : World) (o : Obj) : Grows F w (w.alloc o) := ⟨rfl, rfl, rfl, by simp, fun k hk _ => Below.heap_alloc _ _ _ hk⟩
theorem Grows.drew (F : Nat → Prop) (w : World) : Grows F w w.drew := ⟨rfl, rfl, rfl, Nat.le_refl _, fun _ _ _ => rfl⟩
theorem Grows.setCell {F : Nat → Prop} (w : World) (a : Addr) (v : Value) (h : F a.block) : Grows F w (w.setCell a v) :=
  ⟨rfl, rfl, rfl, by simp [World.setCell], fun k _ hf => Below.heap_setCell _ _ _ _ fun e => hf (e ▸ h)⟩
theorem Grows.grownBy {F : Nat → Prop} {w w' : World} {r : Option Nat} (h : w.grownBy w' r) (hr : ∀ k, r = some k → F k) : Grows F w w' :=
  ⟨h.os, h.tape, h.output, h.size, fun k hk hf => h.block k hk fun e => hf (hr k e.symm)⟩

structure Dx (X : Nm → Prop) (w : World) (F : Nat → Prop) (sb : Nat) (mb : Option Nat) (room : Int) (fs : Fls) (lit : Bool) (left : Int) : Prop where
  cells : Cw w sb [.int .i64 room, .int .i64 (tot fs : Int), .map mb, .bool lit, .int .i64 left] 88
  sF : F sb
  nn : mb = none → fs = []
  map : ∀ b, mb = some b → F b ∧ w.ownsMap Tryz.prog 9 Rv b fs.length (Dm fs)
  form : ∀ p ∈ fs, ∃ ao cap, p.2.v = .slice ao p.2.zs.length cap
  rowsX : ∀ p ∈ fs, ¬ X p.1 → Ow w 0 p.2.v p.2.zs ∧ p.2.l ≤ p.2.zs.length ∧ Byt p.2.zs ∧ ∀ k, p.2.v.ownBlock = some k → F k
  apart : ∀ p ∈ fs, ∀ q ∈ fs, p.1 ≠ q.1 → p.2.v.ownBlock = .none ∨ p.2.v.ownBlock ≠ q.2.v.ownBlock
  room0 : 0 ≤ room ∧ room ≤ 1073741824
  fits : (tot fs : Int) ≤ room
  left0 : 0 ≤ left ∧ left < 9223372036854775808
  cnt : fs.length ≤ 4096
abbrev Dk := Dx fun _ => False
theorem Ow.keep {w w' : World} {base : Nat} {v : Value} {zs : List Int} (h : Ow w base v zs) (hk : ∀ k, v.ownBlock = some k → w'.heap[k]? = w.heap[k]?) : Ow w' base v zs := by
  refine ⟨h.1, ?_⟩
  rcases h.2 with h2 | ⟨g, cap, cur, h1, h2, h3, h4⟩
  · exact Or.inl h2
  · exact Or.inr ⟨g, cap, cur, h1, h2, (hk g (by rw [h1]; rfl)).trans h3, h4⟩
theorem Ow.lt {w : World} {base : Nat} {v : Value} {zs : List Int} (h : Ow w base v zs) {k : Nat} (hk : v.ownBlock = some k) : k < w.heap.size ∧ ∃ cur, w.heap[k]? = some (.cells cur 5 (0, 0)) := by
  rcases h.2 with ⟨h2, _⟩ | ⟨g, cap, cur, h1, h2, h3, h4⟩
  · rw [h2] at hk; cases hk
  · rw [h1] at hk
    obtain rfl : g = k := by simpa [Value.ownBlock] using hk
    exact ⟨(Array.getElem?_eq_some_iff.1 h3).1, cur, h3⟩
theorem ownsMap_tight {w : World} {b n : Nat} {D : DataW Value} (h : w.ownsMap Tryz.prog 9 Rv b n D) : w.ownsMap Tryz.prog 9 Rv b (Maps.size D) D := by
  obtain ⟨es, clock, hb, F, hs, rfl⟩ := h
  exact ⟨es, clock, hb, F, by simp [Maps.size, length_sorted], rfl⟩
theorem ownsMap_keep {w w' : World} {b n : Nat} {D : DataW Value} (h : w.ownsMap Tryz.prog 9 Rv b n D) (hk : w'.heap[b]? = w.heap[b]?) : w'.ownsMap Tryz.prog 9 Rv b n D := by
  obtain ⟨es, clock, hb, r⟩ := h
  exact ⟨es, clock, hk.trans hb, r⟩
theorem ownsMap_kind {w : World} {b n : Nat} {D : DataW Value} (h : w.ownsMap Tryz.prog 9 Rv b n D) : ∃ es clock, w.heap[b]? = some (.map es clock) := by
  obtain ⟨es, clock, hb, _⟩ := h
  exact ⟨es, clock, hb⟩

variable {X : Nm → Prop} {w w' : World} {F : Nat → Prop} {sb : Nat} {mb : Option Nat} {room : Int} {fs : Fls} {lit : Bool} {left : Int}

theorem Dx.keep (h : Dx X w F sb mb room fs lit left) (hk : ∀ k, F k → k < w.heap.size → w'.heap[k]? = w.heap[k]?) : Dx X w' F sb mb room fs lit left where
  cells := h.cells.keep (hk sb h.sF h.cells.lt)
  sF := h.sF
  nn := h.nn
  map := fun b hb => ⟨(h.map b hb).1, ownsMap_keep (h.map b hb).2 (hk b (h.map b hb).1 (h.map b hb).2.lt)⟩
  form := h.form
  rowsX := fun p hp hn => by
    obtain ⟨h1, h2, h3, h4⟩ := h.rowsX p hp hn
    exact ⟨h1.keep fun k e => hk k (h4 k e) (h1.lt e).1, h2, h3, h4⟩
  apart := h.apart
  room0 := h.room0
  fits := h.fits
  left0 := h.left0
  cnt := h.cnt
theorem Dx.more {G : Nat → Prop} (h : Dx X w F sb mb room fs lit left) (hg : ∀ k, F k → k < w.heap.size → G k) : Dx X w G sb mb room fs lit left where
  cells := h.cells
  sF := hg _ h.sF h.cells.lt
  nn := h.nn
  map := fun b hb => ⟨hg b (h.map b hb).1 (h.map b hb).2.lt, (h.map b hb).2⟩
  form := h.form
  rowsX := fun p hp hn => by
    obtain ⟨h1, h2, h3, h4⟩ := h.rowsX p hp hn
    exact ⟨h1, h2, h3, fun k e => hg k (h4 k e) (h1.lt e).1⟩
  apart := h.apart
  room0 := h.room0
  fits := h.fits
  left0 := h.left0
  cnt := h.cnt
theorem Dx.rows (h : Dk w F sb mb room fs lit left) : ∀ p ∈ fs, Ow w 0 p.2.v p.2.zs ∧ p.2.l ≤ p.2.zs.length ∧ Byt p.2.zs ∧ ∀ k, p.2.v.ownBlock = some k → F k := fun p hp => h.rowsX p hp fun e => e
theorem Dx.ex (h : Dk w F sb mb room fs lit left) (X : Nm → Prop) : Dx X w F sb mb room fs lit left := ⟨h.cells, h.sF, h.nn, h.map, h.form, fun p hp _ => h.rows p hp, h.apart, h.room0, h.fits, h.left0, h.cnt⟩
theorem Dx.cell (h : Dx X w F sb mb room fs lit left) :
    w.cell? ⟨sb, 0, .none⟩ = some (.int .i64 room) ∧ w.cell? ⟨sb, 1, .none⟩ = some (.int .i64 (tot fs : Int)) ∧ w.cell? ⟨sb, 2, .none⟩ = some (.map mb) ∧ w.cell? ⟨sb, 3, .none⟩ = some (.bool lit) ∧ w.cell? ⟨sb, 4, .none⟩ = some (.int .i64 left) := by
  refine ⟨?_, ?_, ?_, ?_, ?_⟩ <;> rw [h.cells.cell] <;> rfl
theorem Dx.rising (h : Dx X w F sb mb room fs lit left) : fs.Pairwise (fun p q => bytesBefore p.1 q.1 = true) := by
  cases mb with
  | none => rw [h.nn rfl]; exact List.Pairwise.nil
  | some b =>
    obtain ⟨es, he, hp, _⟩ := (h.map b rfl).2.canon lawS
    have : ents fs = es := by simpa [Dm] using he
    subst this
    simpa [ents, List.pairwise_map, Lit.before] using hp
theorem Dx.diff (h : Dx X w F sb mb room fs lit left) : fs.Pairwise (fun p q => p.1 ≠ q.1) :=
  h.rising.imp fun {p q} hb e => by rw [e, WideAt.bytes_irrefl] at hb; cases hb
theorem key9 (x : Nm) (hx : x.length ≤ maxLen) : keyOf Tryz.prog 9 (encStr x) = some (.string x) := by
  have h9 := Tryz.underlying9
  simp [keyOf, mapKey, h9, ByteArray.size, hx]

def at0 (fs : Fls) (x : Nm) : Fl := match lk fs x with | some f => f | none => ⟨.slice none 0 0, [], 0⟩
theorem look_ok (h : Dx X w F sb mb room fs lit left) (x : Nm) (hx : x.length ≤ maxLen) :
    (Instr.lookup 86 (.map mb) (encStr x) true).run Tryz.prog w = .ok (.tuple #[(at0 fs x).val, .bool (lk fs x).isSome]) w := by
  cases mb with
  | none =>
    have := look_nil (w := w) true lawS Tryz.underlying86 (zero67 w) (key9 x hx)
    rw [this, h.nn rfl]
    rfl
  | some b =>
    obtain ⟨v, ps, hr, hv⟩ := (h.map b rfl).2.look_ok lawS Tryz.underlying86 (zero67 w) (zd := .held (.agg #[.slice none 0 0, .int .i64 0])) rfl (key9 x hx)
    rw [hr, Dm_has]
    have e : v = (at0 fs x).val := by
      simp only [Option.some.injEq, Prod.mk.injEq, Dm_at] at hv
      have hv1 := hv.1
      simp only [at0]
      cases hl : lk fs x <;> rw [hl] at hv1 <;> simp only [DataW.held.injEq] at hv1 <;> rw [hv1]
      rfl
    rw [e]
theorem look_no (h : Dx X w F sb mb room fs lit left) (x : Nm) (hx : x.length ≤ maxLen) :
    (Instr.lookup 86 (.map mb) (encStr x) false).run Tryz.prog w = .ok (at0 fs x).val w := by
  cases mb with
  | none =>
    have := look_nil (w := w) false lawS Tryz.underlying86 (zero67 w) (key9 x hx)
    rw [this, h.nn rfl]
    rfl
  | some b =>
    obtain ⟨v, ps, hr, hv⟩ := (h.map b rfl).2.lookup lawS Tryz.underlying86 (zero67 w) (zd := .held (.agg #[.slice none 0 0, .int .i64 0])) rfl (key9 x hx)
    rw [hr]
    have e : v = (at0 fs x).val := by
      simp only [Option.some.injEq, Prod.mk.injEq, Dm_at] at hv
      have hv1 := hv.1
      simp only [at0]
      cases hl : lk fs x <;> rw [hl] at hv1 <;> simp only [DataW.held.injEq] at hv1 <;> rw [hv1]
      rfl
    rw [e]
end Go.Proofs.YtnkjhooeklodcaaGreatDoor
end
