/-
  Joined from: PlaySync, PlayU, PlayRow.
-/
import Derived.Test.YtnkjhooeklodcaaGreatDoorM13
import Derived.Deep.RegionHeld3
section
/-
  DiskPlays: the document's Sync, by contract.
-/
namespace Go.Proofs.YtnkjhooeklodcaaGreatDoor
open Go.RowKit Go.Maps Go.Sort

structure Rg (w : World) (wb : Nat) (v : Value) (w' : World) : Prop where
  os : w'.os = w.os
  tape : w'.tape = w.tape
  output : w'.output = w.output
  size : w.heap.size ≤ w'.heap.size
  block : ∀ k, k < w.heap.size → k ≠ wb → v.ownBlock ≠ some k → w'.heap[k]? = w.heap[k]?
theorem Rg.of_below {w w' : World} {wb : Nat} {v : Value} (h : Below w.heap.size w w') : Rg w wb v w' := ⟨h.os, h.tape, h.output, h.size, fun k hk _ _ => h.block k hk⟩
theorem Rg.set {w w' : World} {wb : Nat} {v : Value} (h : Rg w wb v w') (b i : Nat) (u : Value) (hb : b = wb ∨ v.ownBlock = some b) : Rg w wb v (w'.setCell ⟨b, i, none⟩ u) :=
  ⟨h.os, h.tape, h.output, by simpa [World.setCell] using h.size, fun k hk h1 h2 => (Below.heap_setCell _ _ _ _ (fun e => by
    have e' : k = b := e
    rcases hb with hb | hb
    · exact h1 (e'.trans hb)
    · exact h2 (by rw [e']; exact hb))).trans (h.block k hk h1 h2)⟩
theorem Rg.did {w w' : World} {wb : Nat} {v : Value} (h : Rg w wb v w') (left : Int) : Rg w wb v (didW w' wb left) := by
  unfold didW
  split
  · exact h.set wb 2 _ (Or.inl rfl)
  · exact h

theorem Rg.drew {w w' : World} {wb : Nat} {v : Value} (h : Rg w wb v w') : Rg w wb v w'.drew := ⟨h.os, h.tape, h.output, h.size, h.block⟩
theorem Rk.at {w : World} {base wb g n cap : Nat} {room left : Int} {L : List Fl3} (h : Rk w base wb (.slice (some ⟨g, 0, none⟩) n cap) room left L) :
    ∀ i f, L[i]? = some f → w.cell? ⟨g, i * 3, none⟩ = some (encStr f.nm) ∧ w.cell? ⟨g, i * 3 + 1, none⟩ = some f.v ∧ w.cell? ⟨g, i * 3 + 2, none⟩ = some (.int .i64 (f.l : Int)) := by
  rcases h.shape with ⟨h3, _⟩ | ⟨g', c', h3, _, _, h6⟩
  · simp at h3
  · simp only [Value.slice.injEq, Option.some.injEq, Addr.mk.injEq, and_true] at h3
    obtain ⟨rfl, _⟩ := h3
    exact h6

set_option maxHeartbeats 3200000 in
set_option maxRecDepth 20000 in
theorem sync3_done (base wb g cap : Nat) (room left : Int) (L : List Fl3) (x : List UInt8) (f : Fl3) (w : World) (h : Rk w base wb (.slice (some ⟨g, 0, none⟩) L.length cap) room left L) (hm : mayE left [x] = 0) (hf : L[spotN (names3 L) x]? = some f) (hx : f.nm = x) (hxl : x.length ≤ 140737488355328) (h0 : -9223372036854775807 ≤ left) (h1 : left ≤ 9223372036854775807) :
    Calls Tryz.prog 58 #[.pointer (some ⟨wb, 0, none⟩), encStr x] w fun e w' => e = .returned (.int .i64 0) ∧
      Rk w' base wb (.slice (some ⟨g, 0, none⟩) (L.set (spotN (names3 L) x) { f with l := f.zs.length }).length cap) room (didL left) (L.set (spotN (names3 L) x) { f with l := f.zs.length }) ∧ Rg w wb (.slice (some ⟨g, 0, none⟩) L.length cap) w' := by
  have hA : Below w.heap.size w (w.alloc (.cells #[encStr x] 9)) := (Below.refl _ _).alloc (Nat.le_refl _) _
  have hr := h.below hA
  have hxs : ∀ n ∈ [x], n.length ≤ 140737488355328 := by
    intro n hn
    have e : n = x := by simpa using hn
    rw [e]; exact hxl
  have hxc : ∀ i n, ([x] : List (List UInt8))[i]? = some n → (w.alloc (.cells #[encStr x] 9)).cell? ⟨w.heap.size, i, none⟩ = some (encStr n) := by
    intro i n hi
    cases i with
    | zero =>
      have e : x = n := by simpa using hi
      rw [← e, cell_of_row _ _ 0 _ _ _ (heap_alloc_new w _)]; rfl
    | succ i => simp at hi
  have C1 := may_any wb w.heap.size 1 room _ left [x] _ hr.blk (by simp) hxs hxc
  rw [hm] at C1
  have C2 := spot_any base wb _ room left L x _ hr
  rw [decide_eq_true (show (names3 L)[spotN (names3 L) x]? = some x by simp [names3] at hf ⊢; exact ⟨f, hf, hx⟩)] at C2
  generalize spotN (names3 L) x = k at *
  have hk : k < L.length := (List.getElem?_eq_some_iff.1 hf).1
  have few := h.few
  go_enter Tryz.func58, Tryz.ntmps58
  go_wp2_with (first | (refine wpList_made_str _ rfl (.tmp 9) rfl x rfl ?_) | (go_at_call 68; refine C1.mono ?_; rintro e w1 ⟨rfl, rfl⟩) | (go_at_call 69; refine C2.mono ?_; rintro e w2 ⟨rfl, hs⟩))
  have h2 := hr.sm hs
  have hcb := h2.blk.cell 1
  simp at hcb
  obtain ⟨g', c', hsh, hc1, hc2, hcell⟩ : ∃ g' c', (Value.slice (some ⟨g, 0, none⟩) L.length cap) = .slice (some ⟨g', 0, none⟩) L.length c' ∧ L.length ≤ c' ∧ c' ≤ maxLen ∧ ∀ i f, L[i]? = some f → w2.cell? ⟨g', i * 3, none⟩ = some (encStr f.nm) ∧ w2.cell? ⟨g', i * 3 + 1, none⟩ = some f.v ∧ w2.cell? ⟨g', i * 3 + 2, none⟩ = some (.int .i64 (f.l : Int)) := by
    rcases h2.shape with ⟨h3, _⟩ | ⟨g', c', h3, h4, h5, h6⟩
    · simp at h3
    · exact ⟨g', c', h3, h4, h5, h6⟩
  simp only [Value.slice.injEq, Option.some.injEq, Addr.mk.injEq, and_true, true_and] at hsh
  obtain ⟨rfl, rfl⟩ := hsh
  have hcf := (hcell k f hf).2.1
  have hcl := (hcell k f hf).2.2
  obtain ⟨af, cf, ef, _⟩ := ((h2.each f (List.mem_of_getElem? hf)).1).form
  rw [ef] at hcf
  have hfz : w2.frozen? ⟨g, k * 3 + 2, none⟩ = false := by
    rcases h2.row.2 with ⟨h3, _⟩ | ⟨g', c', cur, h3, _, hgg, _⟩
    · simp at h3
    · simp only [Value.slice.injEq, Option.some.injEq, Addr.mk.injEq, and_true, true_and] at h3
      obtain ⟨rfl, _⟩ := h3
      simp [World.frozen?, hgg]
  have f1 : (0 : Int) ≤ (k : Int) := by omega
  have f2 : (k : Int) < (L.length : Int) := by omega
  have hset := h2.setL hf (Nat.le_refl f.zs.length)
  have hrg : Rg w wb (.slice (some ⟨g, 0, none⟩) L.length cap) w2 := Rg.of_below (hA.trans (hs.below _))
  have hd1 := hset.blk.cell 1
  simp at hd1
  have hd2 := (hset.at k { f with l := f.zs.length } (by simp [hk])).2.1
  simp only [ef] at hd2
  clear hcell C1 C2 hxs hxc
  go_region_held3 (fun w' => w'.cell? ⟨wb, 1, none⟩ = some (.slice (some ⟨g, 0, none⟩) L.length cap) ∧ w'.cell? ⟨g, k * 3 + 1, none⟩ = some (.slice af f.zs.length cf)) (exact ⟨by first | assumption | exact hd1, by first | assumption | exact hd2⟩)
    (first | fail)
  have hset2 := hset.sm (Sm.drewN _ 1)
  have C3 := did_any wb room _ left _ hset2.blk h0 h1
  have hrg2 := ((hrg.set g (k * 3 + 2) (.int .i64 (f.zs.length : Int)) (Or.inr (by simp [Value.ownBlock]))).drew).did left
  have hdid := hset2.did
  clear hset hset2 hrg hcb hcf hcl hd1 hd2 hfz
  go_wp2_with fail
  refine C3.mono ?_
  rintro e w4 ⟨rfl, rfl⟩
  go_wp2
  go_ret
  exact ⟨rfl, hdid, hrg2⟩

set_option maxHeartbeats 3200000 in
set_option maxRecDepth 20000 in
theorem sync3_may (base wb : Nat) (v : Value) (room left : Int) (L : List Fl3) (x : List UInt8) (w : World) (h : Rk w base wb v room left L) (hm : mayE left [x] ≠ 0) (hxl : x.length ≤ 140737488355328) :
    Calls Tryz.prog 58 #[.pointer (some ⟨wb, 0, none⟩), encStr x] w fun e w' => e = .returned (.int .i64 (mayE left [x])) ∧ Below w.heap.size w w' := by
  have hA : Below w.heap.size w (w.alloc (.cells #[encStr x] 9)) := (Below.refl _ _).alloc (Nat.le_refl _) _
  have hr := h.below hA
  have hxs : ∀ n ∈ [x], n.length ≤ 140737488355328 := by
    intro n hn
    have e : n = x := by simpa using hn
    rw [e]; exact hxl
  have hxc : ∀ i n, ([x] : List (List UInt8))[i]? = some n → (w.alloc (.cells #[encStr x] 9)).cell? ⟨w.heap.size, i, none⟩ = some (encStr n) := by
    intro i n hi
    cases i with
    | zero =>
      have e : x = n := by simpa using hi
      rw [← e, cell_of_row _ _ 0 _ _ _ (heap_alloc_new w _)]; rfl
    | succ i => simp at hi
  have C1 := may_any wb w.heap.size 1 room _ left [x] _ hr.blk (by simp) hxs hxc
  generalize mayE left [x] = er at *
  have hm' : (er != 0) = true := by simpa using hm
  go_enter Tryz.func58, Tryz.ntmps58
  go_wp2_with (first | (refine wpList_made_str _ rfl (.tmp 9) rfl x rfl ?_) | (go_at_call 68; refine C1.mono ?_; rintro e w1 ⟨rfl, rfl⟩))
  go_ret
  exact ⟨rfl, hA⟩

set_option maxHeartbeats 3200000 in
set_option maxRecDepth 20000 in
theorem sync3_none (base wb : Nat) (v : Value) (room left : Int) (L : List Fl3) (x : List UInt8) (w : World) (h : Rk w base wb v room left L) (hm : mayE left [x] = 0) (hx : (names3 L)[spotN (names3 L) x]? ≠ some x) (hxl : x.length ≤ 140737488355328) :
    Calls Tryz.prog 58 #[.pointer (some ⟨wb, 0, none⟩), encStr x] w fun e w' => e = .returned (.int .i64 7) ∧ Below w.heap.size w w' := by
  have hA : Below w.heap.size w (w.alloc (.cells #[encStr x] 9)) := (Below.refl _ _).alloc (Nat.le_refl _) _
  have hr := h.below hA
  have hxs : ∀ n ∈ [x], n.length ≤ 140737488355328 := by
    intro n hn
    have e : n = x := by simpa using hn
    rw [e]; exact hxl
  have hxc : ∀ i n, ([x] : List (List UInt8))[i]? = some n → (w.alloc (.cells #[encStr x] 9)).cell? ⟨w.heap.size, i, none⟩ = some (encStr n) := by
    intro i n hi
    cases i with
    | zero =>
      have e : x = n := by simpa using hi
      rw [← e, cell_of_row _ _ 0 _ _ _ (heap_alloc_new w _)]; rfl
    | succ i => simp at hi
  have C1 := may_any wb w.heap.size 1 room _ left [x] _ hr.blk (by simp) hxs hxc
  rw [hm] at C1
  have C2 := spot_any base wb _ room left L x _ hr
  rw [decide_eq_false hx] at C2
  generalize spotN (names3 L) x = k at *
  go_enter Tryz.func58, Tryz.ntmps58
  go_wp2_with (first | (refine wpList_made_str _ rfl (.tmp 9) rfl x rfl ?_) | (go_at_call 68; refine C1.mono ?_; rintro e w1 ⟨rfl, rfl⟩) | (go_at_call 69; refine C2.mono ?_; rintro e w2 ⟨rfl, hs⟩))
  go_ret
  exact ⟨rfl, hA.trans (hs.below _)⟩
end Go.Proofs.YtnkjhooeklodcaaGreatDoor
end

section
/-
  Both disks' files as one plain list (names, bytes, how many last): what each of the five answers and leaves, in these words alone. Plain facts; no walk.
-/
namespace Go.Proofs.YtnkjhooeklodcaaGreatDoor
open Go.RowKit Go.Maps Go.Sort

abbrev Us := List (List UInt8 × List Int × Nat)
def lkU (us : Us) (x : List UInt8) : Option (List Int × Nat) := (us.find? fun p => p.1 == x).map (·.2)
def dlU (us : Us) (x : List UInt8) : Us := us.filter fun p => !(p.1 == x)
def insU (x : List UInt8) (f : List Int × Nat) : Us → Us
  | [] => [(x, f)]
  | y :: r => if bytesBefore x y.1 then (x, f) :: y :: r else y :: insU x f r
def ptU (us : Us) (x : List UInt8) (f : List Int × Nat) : Us := insU x f (dlU us x)
def totU (us : Us) : Nat := (us.map fun p => p.2.1.length).sum
def RisU (us : Us) : Prop := us.Pairwise fun p q => bytesBefore p.1 q.1 = true

structure Ud where
  room : Int
  us : Us
  left : Int
def Ud.five (u : Ud) (ns : List (List UInt8)) (f : Us → Int × Us) : Int × Ud :=
  if mayE u.left ns ≠ 0 then (mayE u.left ns, u) else ((f u.us).1, ⟨u.room, (f u.us).2, if (f u.us).1 = 0 then didL u.left else u.left⟩)
def syU (x : List UInt8) (us : Us) : Int × Us := match lkU us x with | none => (7, us) | some f => (0, ptU us x (f.1, f.1.length))
def rmU (x : List UInt8) (us : Us) : Int × Us := match lkU us x with | none => (7, us) | some _ => (0, dlU us x)
def cuU (x : List UInt8) (n : Int) (us : Us) : Int × Us := match lkU us x with | none => (7, us) | some f => if n < 0 ∨ (f.1.length : Int) < n then (1, us) else (0, ptU us x (f.1.take n.toNat, min f.2 n.toNat))
def rnU (x y : List UInt8) (us : Us) : Int × Us := match lkU us x with | none => (7, us) | some f => (0, ptU (dlU us x) y f)
def at0U (us : Us) (x : List UInt8) : List Int × Nat := (lkU us x).getD ([], 0)
def fullU (us : Us) (x : List UInt8) (m : Nat) (room : Int) : Bool := decide (room - (totU us : Int) < (m : Int)) || (!(lkU us x).isSome && decide (4096 ≤ us.length))
def wrU (x : List UInt8) (ps : List Int) (room : Int) (us : Us) : Int × Us := if fullU us x ps.length room then (6, us) else (0, ptU us x ((at0U us x).1 ++ ps, (at0U us x).2))

theorem before_lt3 : ∀ (a b : List UInt8), bytesBefore a b = true ↔ a < b
  | [], [] => by simp [bytesBefore]
  | [], _ :: _ => by simp [bytesBefore]
  | _ :: _, [] => by simp [bytesBefore]
  | a :: r, b :: s => by
    have ih := before_lt3 r s
    simp only [bytesBefore, Bool.or_eq_true, Bool.and_eq_true, decide_eq_true_eq, beq_iff_eq, ih, List.cons_lt_cons_iff]
theorem less_before : ∀ (a b : List UInt8), Op.bytesLess a b = bytesBefore a b
  | [], [] => by simp [Op.bytesLess, bytesBefore]
  | _ :: _, [] => by simp [Op.bytesLess, bytesBefore]
  | [], _ :: _ => by simp [Op.bytesLess, bytesBefore]
  | a :: r, b :: s => by
    have ih := less_before r s
    by_cases h1 : a < b <;> by_cases h2 : a = b <;> simp [Op.bytesLess, bytesBefore, ih, h1, h2]
theorem bef_trans {a b c : List UInt8} (h : bytesBefore a b = true) (k : bytesBefore b c = true) : bytesBefore a c = true := (before_lt3 a c).2 (List.lt_trans ((before_lt3 a b).1 h) ((before_lt3 b c).1 k))
theorem bef_irrefl (a : List UInt8) : bytesBefore a a = false := by
  cases hb : bytesBefore a a with
  | false => rfl
  | true => exact absurd ((before_lt3 a a).1 hb) (List.lt_irrefl a)
theorem bef_total {a b : List UInt8} (h : bytesBefore a b = false) (hne : a ≠ b) : bytesBefore b a = true := by
  refine (before_lt3 b a).2 ?_
  have h1 : ¬ a < b := fun e => by rw [(before_lt3 a b).2 e] at h; cases h
  have h2 : b ≤ a := List.not_lt.1 h1
  exact Std.lt_of_le_of_ne h2 (Ne.symm hne)
theorem bef_ne {a b : List UInt8} (h : bytesBefore a b = true) : a ≠ b := fun e => by rw [e, bef_irrefl] at h; cases h
theorem bef_asymm {a b : List UInt8} (h : bytesBefore a b = true) : bytesBefore b a = false := by
  cases hb : bytesBefore b a with
  | false => rfl
  | true => have := bef_trans h hb; rw [bef_irrefl] at this; cases this

theorem lkU_cons (p : List UInt8 × List Int × Nat) (us : Us) (x : List UInt8) : lkU (p :: us) x = if p.1 = x then some p.2 else lkU us x := by
  simp only [lkU, List.find?_cons]
  by_cases h : p.1 = x
  · simp [h]
  · simp [h, beq_eq_false_iff_ne.2 h]
theorem dlU_cons (p : List UInt8 × List Int × Nat) (us : Us) (x : List UInt8) : dlU (p :: us) x = if p.1 = x then dlU us x else p :: dlU us x := by
  by_cases h : p.1 = x <;> simp [dlU, h]
theorem dlU_none {us : Us} {x : List UInt8} (h : ∀ p ∈ us, p.1 ≠ x) : dlU us x = us := by
  simp only [dlU, List.filter_eq_self]
  intro p hp
  simp [h p hp]
theorem lkU_none {us : Us} {x : List UInt8} (h : ∀ p ∈ us, p.1 ≠ x) : lkU us x = none := by
  simp only [lkU, Option.map_eq_none_iff, List.find?_eq_none, beq_iff_eq]
  exact h
theorem lkU_none' {us : Us} {x : List UInt8} (h : lkU us x = none) : ∀ p ∈ us, p.1 ≠ x := by
  intro p hp
  simp only [lkU, Option.map_eq_none_iff, List.find?_eq_none, beq_iff_eq] at h
  exact h p hp
theorem insU_front (x : List UInt8) (f : List Int × Nat) : ∀ r : Us, (∀ q ∈ r, bytesBefore x q.1 = true) → insU x f r = (x, f) :: r
  | [], _ => rfl
  | y :: r, h => by simp only [insU, h y (by simp), if_true]

theorem spotN_cons (n : List UInt8) (ns : List (List UInt8)) (x : List UInt8) : spotN (n :: ns) x = if bytesBefore n x then spotN ns x + 1 else 0 := by
  simp only [spotN, List.takeWhile_cons, less_before]
  cases bytesBefore n x <;> simp
theorem spotU : ∀ (us : Us) (x : List UInt8), RisU us →
    (match lkU us x with
     | some f => us[spotN (us.map (·.1)) x]? = some (x, f) ∧ dlU us x = us.eraseIdx (spotN (us.map (·.1)) x) ∧ ∀ g, ptU us x g = us.set (spotN (us.map (·.1)) x) (x, g)
     | none => (us.map (·.1))[spotN (us.map (·.1)) x]? ≠ some x ∧ dlU us x = us ∧ ∀ g, ptU us x g = us.take (spotN (us.map (·.1)) x) ++ (x, g) :: us.drop (spotN (us.map (·.1)) x))
  | [], x, _ => by simp [lkU, dlU, ptU, insU, spotN]
  | p :: r, x, h => by
    obtain ⟨h1, h2⟩ := List.pairwise_cons.1 h
    have ih := spotU r x h2
    rw [lkU_cons]
    simp only [List.map_cons, spotN_cons]
    by_cases hp : p.1 = x
    · have hd : dlU r x = r := dlU_none fun q hq e => bef_ne (h1 q hq) (hp.trans e.symm)
      have hb : bytesBefore p.1 x = false := by rw [hp]; exact bef_irrefl x
      have hf : ∀ q ∈ r, bytesBefore x q.1 = true := fun q hq => by rw [← hp]; exact h1 q hq
      simp only [if_pos hp, hb, Bool.false_eq_true, if_false]
      refine ⟨by subst hp; rfl, by rw [dlU_cons, if_pos hp, hd]; rfl, fun g => ?_⟩
      unfold ptU
      rw [dlU_cons, if_pos hp, hd, insU_front x g r hf]
      rfl
    · simp only [if_neg hp]
      cases hb : bytesBefore p.1 x with
      | true =>
        simp only [if_true]
        have hx : bytesBefore x p.1 = false := bef_asymm hb
        cases hl : lkU r x with
        | some f =>
          rw [hl] at ih
          obtain ⟨i1, i2, i3⟩ := ih
          refine ⟨by simpa using i1, by rw [dlU_cons, if_neg hp, i2]; rfl, fun g => ?_⟩
          have := i3 g
          unfold ptU at this ⊢
          rw [dlU_cons, if_neg hp, insU, if_neg (by rw [hx]; simp), this]
          rfl
        | none =>
          rw [hl] at ih
          obtain ⟨i1, i2, i3⟩ := ih
          refine ⟨by simpa using i1, by rw [dlU_cons, if_neg hp, i2], fun g => ?_⟩
          have := i3 g
          unfold ptU at this ⊢
          rw [dlU_cons, if_neg hp, insU, if_neg (by rw [hx]; simp), this]
          rfl
      | false =>
        simp only [Bool.false_eq_true, if_false]
        have hx : bytesBefore x p.1 = true := bef_total hb hp
        have hall : ∀ q ∈ p :: r, bytesBefore x q.1 = true := fun q hq => by
          rcases List.mem_cons.1 hq with rfl | hq
          · exact hx
          · exact bef_trans hx (h1 q hq)
        have hn : ∀ q ∈ r, q.1 ≠ x := fun q hq e => bef_ne (hall q (List.mem_cons_of_mem _ hq)) e.symm
        rw [lkU_none hn]
        have hd : dlU (p :: r) x = p :: r := dlU_none fun q hq e => bef_ne (hall q hq) e.symm
        refine ⟨by simpa using fun e => hp e, hd, fun g => ?_⟩
        unfold ptU
        rw [hd, insU_front x g _ hall]
        rfl
theorem spot_some_of {us : Us} {x : List UInt8} {f : List Int × Nat} (h : RisU us) (hl : lkU us x = some f) : us[spotN (us.map (·.1)) x]? = some (x, f) ∧ dlU us x = us.eraseIdx (spotN (us.map (·.1)) x) ∧ ∀ g, ptU us x g = us.set (spotN (us.map (·.1)) x) (x, g) := by
  have := spotU us x h
  rw [hl] at this
  exact this
theorem spot_none_of {us : Us} {x : List UInt8} (h : RisU us) (hl : lkU us x = none) : (us.map (·.1))[spotN (us.map (·.1)) x]? ≠ some x ∧ dlU us x = us ∧ ∀ g, ptU us x g = us.take (spotN (us.map (·.1)) x) ++ (x, g) :: us.drop (spotN (us.map (·.1)) x) := by
  have := spotU us x h
  rw [hl] at this
  exact this
theorem insU_mem {x : List UInt8} {f : List Int × Nat} : ∀ {us : Us} {q : List UInt8 × List Int × Nat}, q ∈ insU x f us → q = (x, f) ∨ q ∈ us
  | [], q, h => by simp [insU] at h; exact Or.inl h
  | y :: r, q, h => by
    simp only [insU] at h
    split at h
    · rcases List.mem_cons.1 h with h | h
      · exact Or.inl h
      · exact Or.inr h
    · rcases List.mem_cons.1 h with h | h
      · exact Or.inr (by rw [h]; simp)
      · rcases insU_mem h with h | h
        · exact Or.inl h
        · exact Or.inr (List.mem_cons_of_mem _ h)
theorem RisU.ins {x : List UInt8} {f : List Int × Nat} : ∀ {us : Us}, RisU us → (∀ q ∈ us, q.1 ≠ x) → RisU (insU x f us)
  | [], _, _ => by simp [insU, RisU]
  | y :: r, h, hn => by
    obtain ⟨h1, h2⟩ := List.pairwise_cons.1 h
    simp only [insU]
    by_cases hb : bytesBefore x y.1 = true
    · rw [if_pos hb]
      refine List.pairwise_cons.2 ⟨fun q hq => ?_, h⟩
      rcases List.mem_cons.1 hq with rfl | hq
      · exact hb
      · exact bef_trans hb (h1 q hq)
    · rw [if_neg hb]
      refine List.pairwise_cons.2 ⟨fun q hq => ?_, RisU.ins h2 fun q hq => hn q (List.mem_cons_of_mem _ hq)⟩
      rcases insU_mem hq with rfl | hq
      · exact bef_total (by simpa using hb) (Ne.symm (hn y (by simp)))
      · exact h1 q hq
theorem RisU.dl {us : Us} (h : RisU us) (x : List UInt8) : RisU (dlU us x) := List.Pairwise.filter _ h
theorem dlU_ne {us : Us} {x : List UInt8} : ∀ q ∈ dlU us x, q.1 ≠ x := by
  intro q hq
  simp [dlU] at hq
  exact hq.2
theorem RisU.pt {us : Us} (h : RisU us) (x : List UInt8) (f : List Int × Nat) : RisU (ptU us x f) := (h.dl x).ins dlU_ne
theorem rnU_same {us : Us} {x : List UInt8} {f : List Int × Nat} (h : RisU us) (hl : lkU us x = some f) : ptU (dlU us x) x f = us := by
  obtain ⟨h1, h2, h3⟩ := spot_some_of h hl
  have e : dlU (dlU us x) x = dlU us x := dlU_none dlU_ne
  have e2 : ptU (dlU us x) x f = ptU us x f := by unfold ptU; rw [e]
  rw [e2, h3 f]
  obtain ⟨hi, e3⟩ := List.getElem?_eq_some_iff.1 h1
  rw [← e3, List.set_getElem_self]
end Go.Proofs.YtnkjhooeklodcaaGreatDoor
end

section
/-
  DiskPlays: rows of files of the document's disk: append, in a plain region and in one that draws its order.
-/
namespace Go.Proofs.YtnkjhooeklodcaaGreatDoor
open Go.RowKit Go.Maps Go.Sort

theorem Tryz.info71p : (Tryz.prog.info? 110).map (fun i => (i.zero, i.size, i.bytes)) = some (some (.agg #[.string ⟨#[]⟩, .slice none 0 0, .int .i64 0]), 3, 48) := by kernel_rfl
def Sl3 (L : List Fl3) : Prop := ∀ f ∈ L, ∃ a c, f.v = .slice a f.zs.length c
def O3 (w : World) (base : Nat) (v : Value) (L : List Fl3) : Prop := w.ownsRow base 110 3 v L.length (cells3 L)
def B3 (w : World) (x : Value) (L : List Fl3) : Prop :=
  (L = [] ∧ ∃ ao cap, x = .slice ao 0 cap ∧ (ao = none → cap = 0)) ∨ ∃ g off cap, x = .slice (some ⟨g, off, none⟩) L.length cap ∧ ∀ j u, (cells3 L)[j]? = some u → w.cell? ⟨g, off + j, none⟩ = some u
theorem cells3_append (a b : List Fl3) : cells3 (a ++ b) = cells3 a ++ cells3 b := by simp [cells3]
theorem cells3_one {L : List Fl3} (h : Sl3 L) : ∀ u ∈ cells3 L, u.oneCell' = true := by
  intro u hu
  simp only [cells3, List.mem_flatMap] at hu
  obtain ⟨f, hf, hu⟩ := hu
  obtain ⟨a, c, e⟩ := h f hf
  simp only [Fl3.cells, List.mem_cons, List.not_mem_nil, or_false] at hu
  rcases hu with rfl | rfl | rfl
  · rfl
  · rw [e]; rfl
  · rfl
theorem O3.form {w : World} {base : Nat} {v : Value} {L : List Fl3} (h : O3 w base v L) : ∃ ao cap, v = .slice ao L.length cap := by
  rcases h.2 with ⟨rfl, h0⟩ | ⟨g, cap, cur, rfl, _⟩
  · exact ⟨none, 0, by rw [h0]⟩
  · exact ⟨_, cap, rfl⟩
theorem O3.b3 {w : World} {base : Nat} {v : Value} {L : List Fl3} (h : O3 w base v L) : B3 w v L := by
  rcases h.2 with ⟨rfl, h0⟩ | ⟨g, cap, cur, rfl, _⟩
  · exact Or.inl ⟨List.eq_nil_of_length_eq_zero h0, none, 0, rfl, fun _ => rfl⟩
  · refine Or.inr ⟨g, 0, cap, rfl, fun j u hu => ?_⟩
    have := World.ownsRow.cells h (g := g) rfl j u hu
    simpa [Addr.add_lit] using this
theorem O3.new (w : World) : O3 (w.alloc (.cells #[] 110)) w.heap.size (.slice (some ⟨w.heap.size, 0, none⟩) 0 0) [] :=
  ⟨rfl, Or.inr ⟨w.heap.size, 0, #[], rfl, Nat.le_refl _, heap_alloc_new w _, Nat.le_refl _, by unfold maxLen; omega, rfl, rfl⟩⟩
theorem B3.keep {w w' : World} {x : Value} {L : List Fl3} (h : B3 w x L) (hk : ∀ k, x.ownBlock = some k → k < w.heap.size → w'.heap[k]? = w.heap[k]?) : B3 w' x L := by
  rcases h with h | ⟨g, off, cap, rfl, hc⟩
  · exact Or.inl h
  · refine Or.inr ⟨g, off, cap, rfl, fun j u hu => ?_⟩
    have h1 := hc j u hu
    have hlt := World.block_lt_of_cell? w _ h1
    rw [World.cell?_of_block (w := w) (hk g rfl hlt)]
    exact h1
theorem B3.below {w w' : World} {x : Value} {L : List Fl3} (h : B3 w x L) (hb : Below w.heap.size w w') : B3 w' x L := h.keep fun k _ hk => hb.block k hk

theorem run_append_3 (w : World) (base : Nat) (ty : TypeId) (v : Value) (xs : List Fl3) (hown : O3 w base v xs) (x : Value) (zs : List Fl3) (hb : B3 w x zs) (hs : Sl3 zs) (h63 : xs.length + zs.length ≤ 1000000) (hbase : base ≤ w.heap.size) :
    ∃ ao cap w', (Builtin.append_ #[89, 89] ty #[v, x]).run Tryz.prog w = .ok (.slice ao (xs.length + zs.length) cap) w' ∧ O3 w' base (.slice ao (xs.length + zs.length) cap) (xs ++ zs) ∧ w.grownBy w' v.ownBlock ∧
      ((Value.slice ao (xs.length + zs.length) cap).ownBlock = v.ownBlock ∨ (Value.slice ao (xs.length + zs.length) cap).ownBlock = some w.heap.size) := by
  obtain ⟨i0, hi, hz0, hz1, hz2⟩ := info_parts Tryz.info71p
  have key : ∀ a m c, m = zs.length → (∀ j u, (cells3 zs)[j]? = some u → w.cell? (Addr.add a j) = some u) → x = .slice (some a) m c → ∃ ao cap w', (Builtin.append_ #[89, 89] ty #[v, x]).run Tryz.prog w = .ok (.slice ao (xs.length + zs.length) cap) w' ∧ O3 w' base (.slice ao (xs.length + zs.length) cap) (xs ++ zs) ∧ w.grownBy w' v.ownBlock ∧
      ((Value.slice ao (xs.length + zs.length) cap).ownBlock = v.ownBlock ∨ (Value.slice ao (xs.length + zs.length) cap).ownBlock = some w.heap.size) := by
    intro a m c hm hc hx
    subst hm; subst hx
    obtain ⟨v', w', hr, h2, h3, _, h5⟩ := run_append_own_at (P := Tryz.prog) w base 89 ty 110 i0 (.agg #[.string ⟨#[]⟩, .slice none 0 0, .int .i64 0]) 3 48 Tryz.underlying89 hi hz0 hz1 hz2 rfl (by decide) v xs.length (cells3 xs) hown a zs.length c (cells3 zs) (cells3_len zs) hc (cells3_one hs) (by unfold maxLen; omega) (by omega) hbase
    have h2' : O3 w' base v' (xs ++ zs) := by
      unfold O3
      rw [cells3_append, List.length_append]
      exact h2
    obtain ⟨ao, cap, rfl⟩ := h2'.form
    rw [List.length_append] at hr h2' h5
    exact ⟨ao, cap, w', hr, h2', h3, h5⟩
  rcases hb with ⟨rfl, ao, cap, rfl, hn⟩ | ⟨g, off, cap, rfl, hcell⟩
  · cases ao with
    | some a => exact key a 0 cap rfl (by intro j u h; simp [cells3] at h) rfl
    | none =>
      obtain rfl := hn rfl
      have hr := run_append_owned_none (P := Tryz.prog) w base 89 ty 110 i0 3 Tryz.underlying89 hi v xs.length (cells3 xs) hown
      obtain ⟨ao, cap, hv⟩ := O3.form hown
      refine ⟨ao, cap, w, ?_, ?_, World.grownBy.refl _ _, Or.inl ?_⟩
      · rw [hr]; simp [hv]
      · simpa [hv] using hown
      · simp [hv]
  · exact key ⟨g, off, none⟩ zs.length cap rfl (fun j u h => by rw [Addr.add_lit]; exact hcell j u h) rfl

theorem wpList_append_3 (w : World) {ops : Array Oper} {rest : List Oper} {o : Oper} {a : Act} {Q : Exit → Act → World → Prop} (hgd : o.guard = none) (s x : Operand)
    (ho : o.op = .call { callee := .builtin .append, args := #[s, x], argTypes := #[89, 89] })
    (base : Nat) (v : Value) (xs : List Fl3) (hs : a.eval s = v) (hown : O3 w base v xs) (vx : Value) (zs : List Fl3) (hx : a.eval x = vx) (hb : B3 w vx zs) (hsl : Sl3 zs)
    (h63 : xs.length + zs.length ≤ 1000000) (hbase : base ≤ w.heap.size)
    (h : ∀ ao cap w', O3 w' base (.slice ao (xs.length + zs.length) cap) (xs ++ zs) → w.grownBy w' v.ownBlock →
      ((Value.slice ao (xs.length + zs.length) cap).ownBlock = v.ownBlock ∨ (Value.slice ao (xs.length + zs.length) cap).ownBlock = some w.heap.size) →
      wpList Tryz.prog ops Q rest (a.put o.dst (.slice ao (xs.length + zs.length) cap)) w') : wpList Tryz.prog ops Q (o :: rest) a w := by
  obtain ⟨ao, cap, w', hr, h2, h3, h4⟩ := run_append_3 w base o.type v xs hown vx zs hb hsl h63 hbase
  refine wpList_plain hgd fun _ hK => ?_
  unfold Oper.wp execOp
  simp only [ho, resolve, invoke, builtin, Sem.run_bind, Sem.run_pure, Result.andThen_ok, List.map_toArray, List.map_cons, List.map_nil, hs, hx, hr]
  exact hK _ _ (h ao cap w' h2 h3 h4)

section
variable {ops : Array Oper} {o : Oper} {a : Act} {w : World} {K : Act → World → Prop} {Q : Exit → Act → World → Prop} {E : Prop}
theorem step_append_3 (hgd : o.guard = none) (s x : Operand)
    (ho : o.op = .call { callee := .builtin .append, args := #[s, x], argTypes := #[89, 89] })
    (base : Nat) (v : Value) (xs : List Fl3) (hs : a.eval s = v) (hown : O3 w base v xs) (vx : Value) (zs : List Fl3) (hx : a.eval x = vx) (hb : B3 w vx zs) (hsl : Sl3 zs)
    (h63 : xs.length + zs.length ≤ 1000000) (hbase : base ≤ w.heap.size)
    (h : ∀ ao cap w', O3 w' base (.slice ao (xs.length + zs.length) cap) (xs ++ zs) → w.grownBy w' v.ownBlock →
      ((Value.slice ao (xs.length + zs.length) cap).ownBlock = v.ownBlock ∨ (Value.slice ao (xs.length + zs.length) cap).ownBlock = some w.heap.size) →
      K (a.put o.dst (.slice ao (xs.length + zs.length) cap)) w') : if Region.wanted o (yielded ops a.tmps) = true then Oper.wp Tryz.prog o a w K Q else E := by
  have hw : Region.wanted o (yielded ops a.tmps) = true := by simp [Region.wanted, hgd]
  rw [if_pos hw]
  obtain ⟨ao, cap, w', hr, h2, h3, h4⟩ := run_append_3 w base o.type v xs hown vx zs hb hsl h63 hbase
  unfold Oper.wp execOp
  simp only [ho, resolve, invoke, builtin, Sem.run_bind, Sem.run_pure, Result.andThen_ok, List.map_toArray, List.map_cons, List.map_nil, hs, hx, hr]
  exact h ao cap w' h2 h3 h4
theorem step_append_bs (hgd : o.guard = none) (s x : Operand)
    (ho : o.op = .call { callee := .builtin .append, args := #[s, x], argTypes := #[38, 38] })
    (base : Nat) (v : Value) (xs : List Int) (hs : a.eval s = v) (hown : Ow w base v xs) (vx : Value) (zs : List Int) (hx : a.eval x = vx) (hb : Bs w vx zs)
    (h63 : xs.length + zs.length ≤ 140737488355328) (hbase : base ≤ w.heap.size)
    (h : ∀ ao cap w', Ow w' base (.slice ao (xs.length + zs.length) cap) (xs ++ zs) → w.grownBy w' v.ownBlock →
      ((Value.slice ao (xs.length + zs.length) cap).ownBlock = v.ownBlock ∨ (Value.slice ao (xs.length + zs.length) cap).ownBlock = some w.heap.size) →
      K (a.put o.dst (.slice ao (xs.length + zs.length) cap)) w') : if Region.wanted o (yielded ops a.tmps) = true then Oper.wp Tryz.prog o a w K Q else E := by
  have hw : Region.wanted o (yielded ops a.tmps) = true := by simp [Region.wanted, hgd]
  rw [if_pos hw]
  obtain ⟨ao, cap, w', hr, h2, h3, h4⟩ := run_append_bs w base o.type v xs hown vx zs hb h63 hbase
  unfold Oper.wp execOp
  simp only [ho, resolve, invoke, builtin, Sem.run_bind, Sem.run_pure, Result.andThen_ok, List.map_toArray, List.map_cons, List.map_nil, hs, hx, hr]
  exact h ao cap w' h2 h3 h4
end
end Go.Proofs.YtnkjhooeklodcaaGreatDoor
end
