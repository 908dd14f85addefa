/-
  Joined from: SegTrim, FrRowsW, FrScan, SegLog.
-/
import Derived.Test.YtnkjhooeklodcaaGreatDoorM07
import Derived.Test.YtnkjhooeklodcaaGreatDoorM19
import Derived.Shelf.Strings.SlTrimAscii
import Derived.Test.YtnkjhooeklodcaaGreatDoorM06
import Derived.Lib.ItoaLen
import Derived.Laws.Concat
section
/-
  strings.Trim of the ten digits, as this program has it (the library's contract laid at its numbers); isSegment: which names are a segment's.
-/
namespace Go.Proofs.YtnkjhooeklodcaaGreatDoor
open Go.Shelf
def sh_lays160_ren : Go.Shelf.Ren := ⟨fun | 160 => 125 | 232 => 149 | 231 => 148 | 227 => 150 | 234 => 152 | 233 => 151 | 236 => 154 | 235 => 153 | 228 => 175 | 271 => 178 | 151 => 177 | 197 => 176 | 120 => 187 | 152 => 186 | 260 => 185 | 137 => 191 | 119 => 192 | 224 => 193 | 225 => 194 | 217 => 196 | 266 => 198 | n => n, fun | 9 => 9 | 4 => 4 | 3 => 3 | 5 => 5 | 117 => 199 | 116 => 198 | 0 => 0 | 124 => 202 | 21 => 21 | 105 => 220 | 46 => 138 | 119 => 229 | 139 => 232 | 138 => 231 | n => n, fun | 3 => 2 | 4 => 3 | n => n⟩
theorem sh_lays160 : Go.Proofs.Lays.n160 Tryz.prog sh_lays160_ren := {
  mixed := by kernel_rfl
  f119 := Tryz.func192.trans (congrArg some (by kernel_rfl))
  f120 := Tryz.func187.trans (congrArg some (by kernel_rfl))
  f137 := Tryz.func191.trans (congrArg some (by kernel_rfl))
  f151 := Tryz.func177.trans (congrArg some (by kernel_rfl))
  f152 := Tryz.func186.trans (congrArg some (by kernel_rfl))
  f160 := Tryz.func125.trans (congrArg some (by kernel_rfl))
  f197 := Tryz.func176.trans (congrArg some (by kernel_rfl))
  f217 := Tryz.func196.trans (congrArg some (by kernel_rfl))
  f224 := Tryz.func193.trans (congrArg some (by kernel_rfl))
  f225 := Tryz.func194.trans (congrArg some (by kernel_rfl))
  f227 := Tryz.func150.trans (congrArg some (by kernel_rfl))
  f228 := Tryz.func175.trans (congrArg some (by kernel_rfl))
  f231 := Tryz.func148.trans (congrArg some (by kernel_rfl))
  f232 := Tryz.func149.trans (congrArg some (by kernel_rfl))
  f233 := Tryz.func151.trans (congrArg some (by kernel_rfl))
  f234 := Tryz.func152.trans (congrArg some (by kernel_rfl))
  f235 := Tryz.func153.trans (congrArg some (by kernel_rfl))
  f236 := Tryz.func154.trans (congrArg some (by kernel_rfl))
  f260 := Tryz.func185.trans (congrArg some (by kernel_rfl))
  f266 := Tryz.func198.trans (congrArg some (by kernel_rfl))
  f271 := Tryz.func178.trans (congrArg some (by kernel_rfl))
  t0 := Tryz.underlying0
  a0 := Tryz.isAgg0
  z0 := Tryz.sizeOf0
  v0 := Tryz.zeroValue0
  t3 := Tryz.underlying3
  a3 := Tryz.isAgg3
  z3 := Tryz.sizeOf3
  v3 := Tryz.zeroValue3
  t4 := Tryz.underlying4
  a4 := Tryz.isAgg4
  z4 := Tryz.sizeOf4
  v4 := Tryz.zeroValue4
  t5 := Tryz.underlying5
  a5 := Tryz.isAgg5
  z5 := Tryz.sizeOf5
  v5 := Tryz.zeroValue5
  t9 := Tryz.underlying9
  a9 := Tryz.isAgg9
  z9 := Tryz.sizeOf9
  v9 := Tryz.zeroValue9
  t21 := Tryz.underlying21
  a21 := Tryz.isAgg21
  z21 := Tryz.sizeOf21
  v21 := Tryz.zeroValue21
  t46 := Tryz.underlying138
  a46 := Tryz.isAgg138
  z46 := Tryz.sizeOf138
  v46 := Tryz.zeroValue138
  t105 := Tryz.underlying220
  a105 := Tryz.isAgg220
  z105 := Tryz.sizeOf220
  v105 := Tryz.zeroValue220
  t116 := Tryz.underlying198
  a116 := Tryz.isAgg198
  z116 := Tryz.sizeOf198
  t117 := Tryz.underlying199
  a117 := Tryz.isAgg199
  z117 := Tryz.sizeOf199
  v117 := Tryz.zeroValue199
  t119 := Tryz.underlying229
  a119 := Tryz.isAgg229
  z119 := Tryz.sizeOf229
  t124 := Tryz.underlying202
  a124 := Tryz.isAgg202
  z124 := Tryz.sizeOf202
  v124 := Tryz.zeroValue202
  t138 := Tryz.underlying231
  a138 := Tryz.isAgg231
  z138 := Tryz.sizeOf231
  v138 := Tryz.zeroValue231
  t139 := Tryz.underlying232
  a139 := Tryz.isAgg232
  z139 := Tryz.sizeOf232
  v139 := Tryz.zeroValue232
  g3 := by kernel_rfl
  g4 := by kernel_rfl }
open Go.RowKit Go.Maps Go.Sort
/-- The ten digits. -/
def dgs : List UInt8 := [48, 49, 50, 51, 52, 53, 54, 55, 56, 57]
theorem all_dropWhile (p : UInt8 → Bool) : ∀ l : List UInt8, l.dropWhile p = [] ↔ ∀ x ∈ l, p x = true
  | [] => by simp
  | a :: l => by
    have h := all_dropWhile p l
    cases ha : p a with
    | true => rw [List.dropWhile_cons_of_pos ha, h]; simp [ha]
    | false =>
      constructor
      · intro e
        rw [List.dropWhile_cons_of_neg (by simp [ha])] at e
        cases e
      · intro e
        have := e a (by simp)
        rw [ha] at this
        cases this
theorem dropWhile_last (p : UInt8 → Bool) (l : List UInt8) (h : ∀ x ∈ (l.reverse.dropWhile p).reverse, p x = true) : ∀ x ∈ l, p x = true := by
  cases hd : l.reverse.dropWhile p with
  | nil =>
    have := (all_dropWhile p l.reverse).1 hd
    intro x hx
    exact this x (by simpa using hx)
  | cons y ys =>
    have hy : p y = true := h y (by rw [hd]; simp)
    have := List.head?_dropWhile_not p l.reverse
    rw [hd] at this
    simp only [List.head?_cons] at this
    rw [hy] at this
    cases this
/-- What is left of a text that is trimmed of digits is nothing, just if all of it is digits. -/
theorem trimS_nil (l cs : List UInt8) : Lib.trimS l cs = [] ↔ l.all (cs.contains ·) = true := by
  unfold Lib.trimS Lib.trimLeftS Lib.trimRightS
  rw [all_dropWhile, List.all_eq_true]
  constructor
  · exact dropWhile_last _ l
  · intro h x hx
    refine h x ?_
    have : x ∈ l.reverse := (List.dropWhile_suffix _).mem (by simpa using hx)
    simpa using this
/-- A segment's name: the prefix, and eight digits. -/
def isSeg (name pre : List UInt8) : Bool := Lib.hasPrefix name pre && (((Lib.trimPrefix name pre).length == 8) && (Lib.trimPrefix name pre).all (dgs.contains ·))
theorem Tryz.zero198 : ∀ w, (zeroValue 198).run Tryz.prog w = .ok (.agg (Array.replicate 256 (.bool false))) w := fun w => by
  have : (Tryz.prog.info? 198).bind (·.zero) = some (.agg (Array.replicate 256 (.bool false))) := by kernel_rfl
  cases hi : Tryz.prog.info? 198 with
  | none => rw [hi] at this; cases this
  | some i =>
    rw [hi] at this
    have hz : i.zero = some (.agg (Array.replicate 256 (.bool false))) := this
    simp only [zeroValue, typeInfo, Sem.run_bind, run_program, hi, hz, Sem.run_pure, Result.andThen_ok]
theorem trimD_any (xs : List UInt8) (w : World) (h0 : xs ≠ []) (hl : xs.length ≤ 140737488355328) :
    Calls Tryz.prog 125 #[encStr xs, .string ⟨#[48, 49, 50, 51, 52, 53, 54, 55, 56, 57]⟩] w fun e w' => e = .returned (encStr (Lib.trimS xs dgs)) ∧ Below w.heap.size w w' := by
  have hsz : (⟨xs.toArray⟩ : ByteArray).size = xs.length := by simp [ByteArray.size]
  refine (Any.strings_Trim_set sh_lays160 Tryz.zero198 (by kernel_rfl) ⟨xs.toArray⟩ ⟨#[48, 49, 50, 51, 52, 53, 54, 55, 56, 57]⟩ w (by decide) ?_ ?_ (by decide) ?_).mono ?_
  · rw [hsz]; exact List.length_pos_iff.2 h0
  · rw [hsz]; omega
  · intro j b hb
    have hm : b ∈ dgs := List.mem_of_getElem? hb
    revert b
    intro b _ hm
    simp only [dgs, List.mem_cons, List.not_mem_nil, or_false] at hm
    rcases hm with rfl | rfl | rfl | rfl | rfl | rfl | rfl | rfl | rfl | rfl <;> decide
  · rintro e w' ⟨rfl, q, rfl⟩
    refine ⟨rfl, ?_⟩
    have h : Below w.heap.size w ((w.alloc (.cells (Lib.setCells dgs) 198)).alloc (.cells (Lib.setCells dgs) 198)) :=
      ((Below.refl _ _).alloc (Nat.le_refl _) _).alloc (by rw [World.size_alloc]; omega) _
    exact ⟨h.os, h.tape, h.output, h.size, h.block⟩
set_option maxHeartbeats 2000000 in
set_option maxRecDepth 100000 in
theorem isSeg_any (name pre : List UInt8) (w : World) (hl : name.length ≤ 140737488355328) :
    Calls Tryz.prog 109 #[encStr name, encStr pre] w fun e w' => e = .returned (.bool (isSeg name pre)) ∧ Below w.heap.size w w' := by
  have CP := sh_strings_CutPrefix ⟨name.toArray⟩ ⟨pre.toArray⟩ w
  have ht : (Lib.trimPrefix name pre).length ≤ 140737488355328 := by
    unfold Lib.trimPrefix
    split
    · simp; omega
    · exact hl
  have hsz : (⟨(Lib.trimPrefix name pre).toArray⟩ : ByteArray).size = (Lib.trimPrefix name pre).length := by simp [ByteArray.size]
  have HR : Hid (isSeg name pre = (Lib.hasPrefix name pre && (((Lib.trimPrefix name pre).length == 8) && (Lib.trimPrefix name pre).all (dgs.contains ·)))) := rfl
  have hT := trimS_nil (Lib.trimPrefix name pre) dgs
  generalize Lib.trimPrefix name pre = t at *
  generalize Lib.hasPrefix name pre = p at *
  generalize isSeg name pre = r at *
  have CT := fun h0 : t ≠ [] => trimD_any t w h0 ht
  cases p with
  | false =>
    have hr : r = false := by rw [HR.out]; rfl
    subst hr
    clear HR hT CT hl
    go_enter Tryz.func109, Tryz.ntmps109
    go_wp2_with (go_at_call 124; refine CP.mono ?_; rintro e w1 ⟨rfl, hw1⟩; replace hw1 := hw1.symm; subst hw1)
    go_ret
    exact ⟨rfl, Below.refl _ _⟩
  | true =>
    by_cases h8 : t.length = 8
    · have h0 : t ≠ [] := by intro e; rw [e] at h8; cases h8
      have CT' := CT h0
      have HR' : Hid (r = t.all (dgs.contains ·)) := by
        show _ = _
        rw [HR.out, h8]; rfl
      have hz : Hid ((Lib.trimS t dgs).isEmpty = r) := by
        show _ = _
        rw [HR'.out, Bool.eq_iff_iff, List.isEmpty_iff]
        exact hT
      clear HR hT CT hl
      go_enter Tryz.func109, Tryz.ntmps109
      go_wp2_with (first
        | (go_at_call 124; refine CP.mono ?_; rintro e w1 ⟨rfl, hw1⟩; replace hw1 := hw1.symm; subst hw1)
        | (go_at_call 125; refine CT'.mono ?_; rintro e w1 ⟨rfl, BW⟩))
      go_ret
      exact ⟨by rw [hz.out]; rfl, BW⟩
    · have hr : r = false := by rw [HR.out]; simp [h8]
      subst hr
      have h8' : ((t.length : Int) == 8) = false := by simp; omega
      clear HR hT CT hl
      go_enter Tryz.func109, Tryz.ntmps109
      go_wp2_with (go_at_call 124; refine CP.mono ?_; rintro e w1 ⟨rfl, hw1⟩; replace hw1 := hw1.symm; subst hw1)
      go_ret
      exact ⟨rfl, Below.refl _ _⟩
end Go.Proofs.YtnkjhooeklodcaaGreatDoor
end

section
/-
  Rows of bytes: such as came in, or can be read (Rs); a row of them of the call's own (Osl), and append to it.
-/
namespace Go.Proofs.YtnkjhooeklodcaaGreatDoor.Fr
open Go.RowKit

/-- A row: its slice, its bytes. -/
abbrev Rw2 := Value × List Int
/-- What is known of a row that can be read. -/
def RwOk (w : World) (r : Rw2) : Prop := Bs w r.1 r.2 ∧ Byt r.2 ∧ r.2.length ≤ 140737488355328
/-- The slice v reads as the rows rs. -/
def Rs (w : World) (v : Value) (rs : List Rw2) : Prop :=
  ∃ ao cap, v = .slice ao rs.length cap ∧ rs.length ≤ 140737488355328 ∧ (∀ r ∈ rs, RwOk w r) ∧
    (rs ≠ [] → ∃ b off, ao = some ⟨b, off, none⟩ ∧ ∀ i r, rs[i]? = some r → w.cell? ⟨b, off + i, none⟩ = some r.1)
theorem RwOk.below {w w' : World} {r : Rw2} (h : RwOk w r) (hb : Below w.heap.size w w') : RwOk w' r := ⟨h.1.below hb (Nat.le_refl _), h.2⟩
theorem Rs.below {w w' : World} {v : Value} {rs : List Rw2} (h : Rs w v rs) (hb : Below w.heap.size w w') : Rs w' v rs := by
  obtain ⟨ao, cap, hv, hl, hr, hc⟩ := h
  refine ⟨ao, cap, hv, hl, fun r hm => (hr r hm).below hb, fun hne => ?_⟩
  obtain ⟨b, off, e, hcell⟩ := hc hne
  refine ⟨b, off, e, fun i r hi => ?_⟩
  have h1 := hcell i r hi
  rw [World.cell?_of_block (w := w) (hb.block b (World.block_lt_of_cell? w _ h1))]
  exact h1
theorem Rs.form {w : World} {v : Value} {rs : List Rw2} (h : Rs w v rs) : ∃ ao cap, v = .slice ao rs.length cap ∧ rs.length ≤ 140737488355328 ∧ True := by
  obtain ⟨ao, cap, hv, hl, _⟩ := h
  exact ⟨ao, cap, hv, hl, trivial⟩
/-- The i-th row, as a round reads it. -/
theorem Rs.get {w : World} {rs : List Rw2} {ao : Option Addr} {cap : Nat} (h : Rs w (.slice ao rs.length cap) rs) {i : Nat} (hi : i < rs.length) :
    ∃ b off ap cp zs, ao = some ⟨b, off, none⟩ ∧ rs[i]? = some (.slice ap zs.length cp, zs) ∧ w.cell? ⟨b, off + i, none⟩ = some (.slice ap zs.length cp) ∧ Bs w (.slice ap zs.length cp) zs ∧ Byt zs ∧ zs.length ≤ 140737488355328 := by
  obtain ⟨ao', cap', hv, hl, hr, hc⟩ := h
  simp only [Value.slice.injEq] at hv
  obtain ⟨rfl, _, rfl⟩ := hv
  obtain ⟨b, off, e, hcell⟩ := hc (fun e => by rw [e] at hi; simp at hi)
  have hg : rs[i]? = some rs[i] := List.getElem?_eq_getElem hi
  obtain ⟨hb, hby, hlen⟩ := hr _ (List.getElem_mem hi)
  obtain ⟨ap, cp, hsv, _⟩ := hb.len
  generalize rs[i] = r at *
  obtain ⟨v, zs⟩ := r
  simp only at hsv hb hby hlen
  subst hsv
  exact ⟨b, off, ap, cp, zs, e, hg, hcell i _ hg, hb, hby, hlen⟩
/-- The bytes of rows. -/
def bytesOf2 (rs : List Rw2) : List (List Int) := rs.map (·.2)
theorem bytesOf2_len (rs : List Rw2) : (bytesOf2 rs).length = rs.length := by simp [bytesOf2]
theorem bytesOf2_append (a b : List Rw2) : bytesOf2 (a ++ b) = bytesOf2 a ++ bytesOf2 b := by simp [bytesOf2]
theorem bytesOf2_take (a : List Rw2) (n : Nat) : bytesOf2 (a.take n) = (bytesOf2 a).take n := by simp [bytesOf2, List.map_take]
/-- The first n rows. -/
theorem Rs.take {w : World} {b off len cap : Nat} {rs : List Rw2} (h : Rs w (.slice (some ⟨b, off, none⟩) len cap) rs) (n : Nat) (hn : n ≤ rs.length) : Rs w (.slice (some ⟨b, off, none⟩) n cap) (rs.take n) := by
  obtain ⟨ao', cap', hv, hl, hr, hc⟩ := h
  simp only [Value.slice.injEq] at hv
  obtain ⟨rfl, _, rfl⟩ := hv
  have ln : (rs.take n).length = n := by simp; omega
  refine ⟨_, cap, by rw [ln], by omega, fun r hm => hr r (List.mem_of_mem_take hm), fun hne => ?_⟩
  obtain ⟨b', off', e, hcell⟩ := hc (fun e => hne (by rw [e]; simp))
  refine ⟨b', off', e, fun i r hi => hcell i r ?_⟩
  have hlt := (List.getElem?_eq_some_iff.1 hi).1
  rw [List.getElem?_take_of_lt (by omega)] at hi
  exact hi

theorem Tz.info22 : (Tryz.prog.info? 38).map (fun i => (i.zero, i.size, i.bytes)) = some (some (.slice none 0 0), 1, 24) := by kernel_rfl
def slOf (rs : List Rw2) : List Value := rs.map (·.1)
theorem ownsRow_keep {w w' : World} {base : Nat} {t : TypeId} {sz : Nat} {v : Value} {n : Nat} {cs : List Value} (h : w.ownsRow base t sz v n cs) (hk : ∀ k, v.ownBlock = some k → k < w.heap.size → w'.heap[k]? = w.heap[k]?) : w'.ownsRow base t sz v n cs := by
  refine ⟨h.1, ?_⟩
  rcases h.2 with h2 | ⟨g, cap, cur, rfl, hb, hg, rest⟩
  · exact Or.inl h2
  · exact Or.inr ⟨g, cap, cur, rfl, hb, by rw [hk g rfl (Array.getElem?_eq_some_iff.1 hg).1]; exact hg, rest⟩
/-- The slice v has a row of its own, from block base on, of rows that are the call's own. -/
structure Osl (w : World) (base : Nat) (v : Value) (rs : List Rw2) : Prop where
  row : w.ownsRow base 38 1 v rs.length (slOf rs)
  each : ∀ r ∈ rs, Ow w base r.1 r.2 ∧ Byt r.2 ∧ r.2.length ≤ 140737488355328 ∧ ∀ k, r.1.ownBlock = some k → v.ownBlock ≠ some k
theorem Osl.nil (w : World) (base : Nat) : Osl w base (.slice none 0 0) [] := ⟨World.ownsRow_nil _ _ _ _, fun r h => by cases h⟩
theorem Osl.below {w w' : World} {base : Nat} {v : Value} {rs : List Rw2} (h : Osl w base v rs) (hb : Below w.heap.size w w') : Osl w' base v rs :=
  ⟨ownsRow_keep h.row fun k _ hk => hb.block k hk, fun r hr => ⟨(h.each r hr).1.keep fun k _ hk => hb.block k hk, (h.each r hr).2⟩⟩
theorem Osl.form {w : World} {base : Nat} {v : Value} {rs : List Rw2} (h : Osl w base v rs) : ∃ ao cap, v = .slice ao rs.length cap := by
  rcases h.row.2 with ⟨rfl, h2⟩ | ⟨g, cap, cur, rfl, _⟩
  · exact ⟨none, 0, by rw [h2]⟩
  · exact ⟨_, cap, rfl⟩
theorem Osl.rs {w : World} {base : Nat} {v : Value} {rs : List Rw2} (h : Osl w base v rs) (hl : rs.length ≤ 140737488355328) : Rs w v rs := by
  obtain ⟨ao, cap, hv⟩ := h.form
  refine ⟨ao, cap, hv, hl, fun r hr => ⟨(h.each r hr).1.bs, (h.each r hr).2.1, (h.each r hr).2.2.1⟩, fun hne => ?_⟩
  subst hv
  rcases h.row.2 with ⟨_, h2⟩ | ⟨g, cap', cur, he, hb, hg, hn, hc, hs, ht⟩
  · exact absurd (List.eq_nil_of_length_eq_zero h2) hne
  · simp only [Value.slice.injEq] at he
    obtain ⟨rfl, _, rfl⟩ := he
    refine ⟨g, 0, rfl, fun i r hi => ?_⟩
    have hlt := (List.getElem?_eq_some_iff.1 hi).1
    rw [cell_of_row w g (0 + i) _ _ _ hg, Nat.zero_add, ← Array.getElem?_toList]
    have h3 : (cur.toList.take (rs.length * 1))[i]? = some r.1 := by rw [ht]; simp [slOf, hi]
    rw [List.getElem?_take_of_lt (by omega)] at h3
    exact h3
theorem Osl.from {w : World} {base : Nat} {v : Value} {rs : List Rw2} (h : Osl w base v rs) : ∀ k, v.ownBlock = some k → base ≤ k := fun k hk => (World.ownsRow.lt h.row k hk).1
theorem Osl.lt {w : World} {base : Nat} {v : Value} {rs : List Rw2} (h : Osl w base v rs) : ∀ k, v.ownBlock = some k → k < w.heap.size := fun k hk => (World.ownsRow.lt h.row k hk).2
theorem Ow.lt {w : World} {base : Nat} {v : Value} {zs : List Int} (h : Ow w base v zs) : ∀ k, v.ownBlock = some k → k < w.heap.size := fun k hk => (World.ownsRow.lt h k hk).2

theorem wpList_append_row (w : World) {ops : Array Oper} {rest : List Oper} {o : Oper} {a : Act} {Q : Exit → Act → World → Prop} (hgd : o.guard = none) (s x : Operand)
    (ho : o.op = .call { callee := .builtin .append, args := #[s, x], argTypes := #[29, 29] })
    (base : Nat) (v : Value) (rs : List Rw2) (hs : a.eval s = v) (hown : Osl w base v rs) (B : Nat) (ap : Option Addr) (cp : Nat) (zs : List Int) (hx : a.eval x = .slice (some ⟨B, 0, none⟩) 1 1) (hb : w.cell? ⟨B, 0, none⟩ = some (.slice ap zs.length cp))
    (hr : Ow w base (.slice ap zs.length cp) zs) (hy : Byt zs) (hl : zs.length ≤ 140737488355328) (hsep : ∀ k, (Value.slice ap zs.length cp).ownBlock = some k → v.ownBlock ≠ some k)
    (h63 : rs.length ≤ 1000000000) (hbase : base ≤ w.heap.size)
    (h : ∀ ao cap w', Osl w' base (.slice ao (rs.length + 1) cap) (rs ++ [(.slice ap zs.length cp, zs)]) → w.grownBy w' v.ownBlock →
      wpList Tryz.prog ops Q rest (a.put o.dst (.slice ao (rs.length + 1) cap)) w') : wpList Tryz.prog ops Q (o :: rest) a w := by
  obtain ⟨i0, hi, hz0, hz1, hz2⟩ := info_parts Tz.info22
  obtain ⟨v', w', hrun, h2, h3, _, h5⟩ := run_append_own_at (P := Tryz.prog) w base 29 o.type 38 i0 (.slice none 0 0) 1 24 Tryz.underlying29 hi hz0 hz1 hz2 rfl (by decide) v rs.length (slOf rs) hown.row ⟨B, 0, none⟩ 1 1 [.slice ap zs.length cp] rfl
    (by intro j u hu
        cases j with
        | zero => rw [Addr.add_lit]; simp at hu; subst hu; exact hb
        | succ j => simp at hu) (by intro u hu; simp at hu; subst hu; rfl) (by unfold maxLen; omega) (by omega) hbase
  have h2' : w'.ownsRow base 38 1 v' (rs ++ [((.slice ap zs.length cp, zs) : Rw2)]).length (slOf (rs ++ [(.slice ap zs.length cp, zs)])) := by
    rw [List.length_append]
    simpa [slOf] using h2
  have hv' : ∃ ao cap, v' = .slice ao (rs.length + 1) cap := by
    rcases h2'.2 with ⟨_, h6⟩ | ⟨g, cap, cur, h6, _⟩
    · simp at h6
    · exact ⟨some ⟨g, 0, none⟩, cap, by rw [h6]; simp⟩
  obtain ⟨ao, cap, rfl⟩ := hv'
  have keep : ∀ (u : Value) (zs' : List Int), Ow w base u zs' → (∀ k, u.ownBlock = some k → v.ownBlock ≠ some k) → Ow w' base u zs' ∧ ∀ k, u.ownBlock = some k → (Value.slice ao (rs.length + 1) cap).ownBlock ≠ some k := by
    intro u zs' hu hne
    refine ⟨hu.keep fun k hk hlt => h3.block k hlt (fun e => hne k hk e.symm), fun k hk e => ?_⟩
    rcases h5 with h5 | h5
    · exact hne k hk (by rw [← h5]; exact e)
    · rw [h5] at e
      have := hu.lt k hk
      have := Option.some.inj e
      omega
  refine wpList_plain hgd fun _ hK => ?_
  unfold Oper.wp execOp
  simp only [ho, resolve, invoke, builtin, Sem.run_bind, Sem.run_pure, Result.andThen_ok, List.map_toArray, List.map_cons, List.map_nil, hs, hx, hrun]
  refine hK _ _ (h ao cap w' ⟨h2', fun r hm => ?_⟩ h3)
  rcases List.mem_append.1 hm with hm | hm
  · obtain ⟨e1, e2, e3, e4⟩ := hown.each r hm
    exact ⟨(keep _ _ e1 e4).1, e2, e3, (keep _ _ e1 e4).2⟩
  · have : r = (.slice ap zs.length cp, zs) := by simpa using hm
    subst this
    exact ⟨(keep _ _ hr hsep).1, hy, hl, (keep _ _ hr hsep).2⟩
end Go.Proofs.YtnkjhooeklodcaaGreatDoor.Fr
end

section
/-
  frame.Scan and the document's own, by contract.
-/
namespace Go.Proofs.YtnkjhooeklodcaaGreatDoor.Fr
open Go.RowKit

/-- What Scan answers: the rows rs, m bytes of zs, and behind them no record. -/
def ScanPost (w : World) (zs : List Int) (e : Ending) (w' : World) : Prop :=
  ∃ ao cap rs, ∃ m : Nat, e = .returned (.tuple #[.slice ao rs.length cap, .int .i64 m]) ∧ Osl w' w.heap.size (.slice ao rs.length cap) rs ∧ Sc zs (bytesOf2 rs) m ∧ decE (zs.drop m) ≠ 0 ∧ Below w.heap.size w w'
theorem Sc.many {xs : List (List Int)} : ∀ {zs : List Int} {m : Nat}, Sc zs xs m → xs.length * 12 ≤ m := by
  induction xs with
  | nil => intro zs m _; simp
  | cons p xs ih =>
    intro zs m ⟨h1, _, h3, h4⟩
    have := ih h4
    have := decN_pos h1
    rw [List.length_cons]
    omega

theorem mk_row1 (W : World) (ap : Option Addr) (l cp : Nat) : (Instr.buildSlice 29 1 #[(0, .slice ap l cp)]).run Tryz.prog W = .ok (.slice (some ⟨W.heap.size, 0, none⟩) 1 1) (W.alloc (.cells #[.slice ap l cp] 38)) := by kernel_rfl

theorem wpList_made_row (w : World) {ops : Array Oper} {rest : List Oper} {o : Oper} {a : Act} {Q : Exit → Act → World → Prop} (hgd : o.guard = none) (x : Operand) (ho : o.op = .buildSlice 29 1 #[(0, x)]) (ap : Option Addr) (l cp : Nat) (hx : a.eval x = .slice ap l cp)
    (h : wpList Tryz.prog ops Q rest (a.put o.dst (.slice (some ⟨w.heap.size, 0, none⟩) 1 1)) (w.alloc (.cells #[.slice ap l cp] 38))) : wpList Tryz.prog ops Q (o :: rest) a w := by
  refine wpList_plain hgd fun _ hK => ?_
  unfold Oper.wp execOp
  simp only [ho, Sem.run_bind, List.map_toArray, List.map_cons, List.map_nil, hx, mk_row1, Result.andThen_ok]
  exact hK _ _ h

/-- What Scan's loop holds. -/
def ScanInv (w : World) (zs : List Int) (h d : Value) (wr : World) : Prop :=
  ∃ (rs : List Rw2) (m : Nat), (∃ ao cap, h = .slice ao rs.length cap) ∧ d = .int .i64 m ∧ Osl wr w.heap.size h rs ∧ Sc zs (bytesOf2 rs) m ∧ Below w.heap.size w wr
theorem ScanInv.start (w : World) (zs : List Int) : ScanInv w zs (.slice none 0 0) (.int .i64 0) w := ⟨[], 0, ⟨none, 0, rfl⟩, rfl, Osl.nil _ _, rfl, Below.refl _ _⟩

set_option maxHeartbeats 6400000 in
set_option maxRecDepth 20000 in
theorem rscan_any (sv : Value) (zs : List Int) (w : World) (hb : Bs w sv zs) (hy : Byt zs) (hz : zs.length ≤ 10000000000) :
    Calls Tryz.prog 90 #[sv] w (ScanPost w zs) := by
  have step : ∀ (h d : Value) (wr : World), ScanInv w zs h d wr → ∃ (rs : List Rw2) (m : Nat) (ao : Option Addr) (cap : Nat), h = .slice ao rs.length cap ∧ d = .int .i64 m ∧ Osl wr w.heap.size (.slice ao rs.length cap) rs ∧ Sc zs (bytesOf2 rs) m ∧ Below w.heap.size w wr := by
    rintro h d wr ⟨rs, m, ⟨ao, cap, rfl⟩, rfl, h1, h2, h3⟩
    exact ⟨rs, m, ao, cap, rfl, rfl, h1, h2, h3⟩
  obtain ⟨ax, cx, hsv, hm⟩ := hb.len
  have D : ∀ (W : World) (m b off cap0 : Nat), Below w.heap.size w W → sv = .slice (some ⟨b, off, none⟩) zs.length cap0 → m < zs.length → Calls Tryz.prog 115 #[.slice (some ⟨b, off + m, none⟩) (zs.length - m) (cap0 - m)] W fun e w' => ∃ ao cap, e = .returned (.tuple #[.slice ao (decP (zs.drop m)).length cap, .int .i64 (decN (zs.drop m)), .int .i64 (decE (zs.drop m))]) ∧ Ow w' W.heap.size (.slice ao (decP (zs.drop m)).length cap) (decP (zs.drop m)) ∧ Below W.heap.size W w' := by
    intro W m b off cap0 hW hs hm
    subst hs
    refine rdec_any _ _ W ?_ (hy.drop m) (by simp; omega)
    exact (hb.suffix m (by omega) (fun e => by rw [e] at hm; simp at hm)).below hW (Nat.le_refl _)
  have shp : zs ≠ [] → ∃ b off, ax = some ⟨b, off, none⟩ ∧ zs.length ≤ cx ∧ cx ≤ maxLen := by
    intro hne
    rcases hb with ⟨h0, _⟩ | ⟨_, b, off, cap, he, h1, h2, _⟩
    · exact absurd h0 hne
    · rw [hsv] at he
      simp only [Value.slice.injEq] at he
      obtain ⟨rfl, _, rfl⟩ := he
      exact ⟨b, off, rfl, h1, h2⟩
  subst hsv
  go_enter Tryz.func90, Tryz.ntmps90
  go_wp2
  go_loopw [4, 5] (fun h d wr => ScanInv w zs h d wr) (fun _ d _ => zs.length - (intOf d).toNat)
  case atStart => exact ScanInv.start w zs
  case round =>
    obtain ⟨rs, m, ao, cap, rfl, rfl, hos, hsc, hB⟩ := step _ _ _ hrel
    have hmle := hsc.le
    have hmany := hsc.many
    rw [bytesOf2_len] at hmany
    by_cases hlt : m < zs.length
    · obtain ⟨b, off, rfl, hc1, hc2⟩ := shp (fun e => by rw [e] at hlt; simp at hlt)
      unfold maxLen at hc2
      have hcm : ¬ cx = m := by omega
      have f1 : (m : Int) ≤ (zs.length : Int) := by omega
      have f2 : (m : Int) ≤ (cx : Int) := by omega
      have hnle := decN_le (zs.drop m)
      rw [List.length_drop] at hnle
      have hyp : Byt (decP (zs.drop m)) := decP_byt (hy.drop m)
      have hlp : (decP (zs.drop m)).length ≤ 140737488355328 := by
        by_cases h : decE (zs.drop m) = 0
        · rw [decP_good h]; simp; omega
        · rw [decP_bad h]; simp
      have C1 := D wr m b off cx hB rfl hlt
      by_cases hE : decE (zs.drop m) = 0
      · have HS : Hid (Sc zs (bytesOf2 rs ++ [decP (zs.drop m)]) (m + decN (zs.drop m))) := hsc.snoc hE
        have hpos := decN_pos hE
        rw [hE] at C1
        generalize decP (zs.drop m) = p at *
        generalize decN (zs.drop m) = n at *
        clear D hE hsc hrel step shp
        go_wp2_with fail
        refine C1.mono ?_
        rintro e w1 ⟨ao1, cap1, rfl, ho1, hB1⟩
        have hA : Below wr.heap.size wr (w1.alloc (.cells #[.slice ao1 p.length cap1] 38)) := hB1.alloc hB1.size _
        have hos1 := hos.below hA
        have ho2 : Ow (w1.alloc (.cells #[.slice ao1 p.length cap1] 38)) w.heap.size (.slice ao1 p.length cap1) p := (ho1.mono hB.size).grew ((Below.refl w1.heap.size w1).alloc (Nat.le_refl _) _) (Nat.le_refl _)
        have hsep : ∀ k, (Value.slice ao1 p.length cap1).ownBlock = some k → (Value.slice ao rs.length cap).ownBlock ≠ some k := fun k hk e => by
          have := ho1.from k hk
          have := hos.lt k e
          omega
        have hcl : (w1.alloc (.cells #[.slice ao1 p.length cap1] 38)).cell? ⟨w1.heap.size, 0, none⟩ = some (.slice ao1 p.length cap1) := by
          rw [cell_of_row _ _ 0 _ _ _ (heap_alloc_new w1 _)]; rfl
        have hws : w.heap.size ≤ (w1.alloc (.cells #[.slice ao1 p.length cap1] 38)).heap.size := by have := hB.size; have := hA.size; omega
        have HSN : Hid (Sc zs (bytesOf2 (rs ++ [(.slice ao1 p.length cap1, p)])) (m + n)) := by
          show Sc _ _ _
          rw [bytesOf2_append]
          exact HS.out
        go_wp2_with (first | (refine wpList_made_row _ rfl (.tmp 24) rfl ao1 p.length cap1 rfl ?_) | (at_builtin; refine wpList_append_row _ rfl (.tmp 23) (.tmp 25) rfl w.heap.size (.slice ao rs.length cap) rs (by rfl) hos1 w1.heap.size ao1 cap1 p (by rfl) hcl ho2 hyp hlp hsep (by omega) hws ?_))
        intro ao3 cap3 w3 hos3 hg3
        have hB3 : Below w.heap.size w w3 := (hB.trans (hA.mono hB.size)).trans (grown_below hg3 hws hos1.from)
        clear hA hos1 ho2 hsep hcl hws hg3 hos ho1
        go_wp2
        go_roundw
        case rel =>
          exact (show ScanInv w zs _ _ _ from ⟨rs ++ [(.slice ao1 p.length cap1, p)], m + n, ⟨ao3, cap3, by simp⟩, by go_num, by simpa using hos3, HSN.out, hB3⟩)
        case measure => simp [intOf]; omega
      · have HP : Hid (∀ W, Below wr.heap.size wr W → ScanPost w zs (.returned (.tuple #[.slice ao rs.length cap, .int .i64 m])) W) :=
          fun W hW => ⟨ao, cap, rs, m, rfl, hos.below hW, hsc, hE, hB.trans (hW.mono hB.size)⟩
        generalize decE (zs.drop m) = er at *
        clear D hsc hrel step hos shp
        go_wp2_with fail
        refine C1.mono ?_
        rintro e w1 ⟨ao1, cap1, rfl, ho1, hB1⟩
        go_wp2
        go_ret2
        exact HP.out _ hB1
    · have HP : Hid (ScanPost w zs (.returned (.tuple #[.slice ao rs.length cap, .int .i64 m])) wr) :=
        ⟨ao, cap, rs, m, rfl, hos, hsc, by rw [List.drop_eq_nil_of_le (by omega), decE_nil]; decide, hB⟩
      clear D hsc hrel step hos shp
      go_wp2
      go_ret2
      exact HP.out
end Go.Proofs.YtnkjhooeklodcaaGreatDoor.Fr
end

section
/-
  A log in memory (Lg); what it reads of itself: next, lastName, wantsSegment, nextName.
-/
namespace Go.Proofs.YtnkjhooeklodcaaGreatDoor
open Go.RowKit Go.Maps Go.Sort

/-- A slice, and its bytes. -/
abbrev En := Value × List Int
def enOf (es : List En) : List Value := es.map (·.1)
/-- A log at block lb: over the disk at block sb, with a prefix, entries, how many last, names, the last segment's size; dead or not. All its blocks are in F. -/
structure Lg (w : World) (F : Nat → Prop) (lb sb : Nat) (pre : List UInt8) (ev nv : Value) (es : List En) (las : Nat) (ns : List (List UInt8)) (sz : Nat) (dead : Bool) : Prop where
  blk : Cw w lb [.pointer (some ⟨sb, 0, none⟩), encStr pre, ev, .int .i64 (las : Int), nv, .int .i64 (sz : Int), .bool dead] 93
  lF : F lb
  ent : w.ownsRow 0 38 1 ev es.length (enOf es)
  each : ∀ r ∈ es, Bs w r.1 r.2 ∧ Byt r.2 ∧ r.2.length ≤ 65536 ∧ ∀ k, r.1.ownBlock = some k → F k ∧ k ≠ lb ∧ ev.ownBlock ≠ some k ∧ nv.ownBlock ≠ some k ∧ k < w.heap.size
  nam : Ot w 0 nv ns
  sep : (∀ k, ev.ownBlock = some k → F k ∧ k ≠ lb ∧ nv.ownBlock ≠ some k) ∧ ∀ k, nv.ownBlock = some k → F k ∧ k ≠ lb
  few : es.length ≤ 10000000 ∧ ns.length ≤ 10000000 ∧ las ≤ 10000000 ∧ sz ≤ 1073741824 ∧ pre.length ≤ 64
variable {w w' : World} {F : Nat → Prop} {lb sb : Nat} {pre : List UInt8} {ev nv : Value} {es : List En} {las : Nat} {ns : List (List UInt8)} {sz : Nat} {dead : Bool}
theorem Lg.keep (h : Lg w F lb sb pre ev nv es las ns sz dead) (hs : w.heap.size ≤ w'.heap.size) (hk : ∀ k, F k → k < w.heap.size → w'.heap[k]? = w.heap[k]?) : Lg w' F lb sb pre ev nv es las ns sz dead := by
  refine ⟨h.blk.keep (hk _ h.lF h.blk.lt), h.lF, Fr.ownsRow_keep h.ent fun k hk' hlt => hk k (h.sep.1 k hk').1 hlt, fun r hr => ?_, Fr.ownsRow_keep h.nam fun k hk' hlt => hk k (h.sep.2 k hk').1 hlt, h.sep, h.few⟩
  have := h.each r hr
  exact ⟨this.1.keep fun k hk' hlt => hk k (this.2.2.2 k hk').1 hlt, this.2.1, this.2.2.1, fun k hk' => by
    have := this.2.2.2 k hk'
    exact ⟨this.1, this.2.1, this.2.2.1, this.2.2.2.1, by omega⟩⟩
theorem Lg.below (h : Lg w F lb sb pre ev nv es las ns sz dead) (hb : Below w.heap.size w w') : Lg w' F lb sb pre ev nv es las ns sz dead := h.keep hb.size fun k _ hk => hb.block k hk
theorem Lg.sm (h : Lg w F lb sb pre ev nv es las ns sz dead) (hs : Sm w w') : Lg w' F lb sb pre ev nv es las ns sz dead := h.keep (by rw [hs.heap]; exact Nat.le_refl _) fun k _ _ => by rw [hs.heap]
theorem Lg.more {G : Nat → Prop} (h : Lg w F lb sb pre ev nv es las ns sz dead) (hg : ∀ k, F k → G k) : Lg w G lb sb pre ev nv es las ns sz dead :=
  ⟨h.blk, hg _ h.lF, h.ent, fun r hr => ⟨(h.each r hr).1, (h.each r hr).2.1, (h.each r hr).2.2.1, fun k hk => ⟨hg _ ((h.each r hr).2.2.2 k hk).1, ((h.each r hr).2.2.2 k hk).2⟩⟩, h.nam, ⟨fun k hk => ⟨hg _ (h.sep.1 k hk).1, (h.sep.1 k hk).2⟩, fun k hk => ⟨hg _ (h.sep.2 k hk).1, (h.sep.2 k hk).2⟩⟩, h.few⟩
theorem Lg.evform (h : Lg w F lb sb pre ev nv es las ns sz dead) : ∃ ao cap, ev = .slice ao es.length cap := by
  rcases h.ent.2 with ⟨rfl, h2⟩ | ⟨g, cap, cur, rfl, _⟩
  · exact ⟨none, 0, by rw [h2]⟩
  · exact ⟨_, cap, rfl⟩
theorem Lg.nvform (h : Lg w F lb sb pre ev nv es las ns sz dead) : ∃ ao cap, nv = .slice ao ns.length cap := h.nam.form

set_option maxHeartbeats 2000000 in
set_option maxRecDepth 100000 in
theorem next_any (w : World) (h : Lg w F lb sb pre ev nv es las ns sz dead) :
    Calls Tryz.prog 49 #[.pointer (some ⟨lb, 0, none⟩)] w fun e w' => e = .returned (.int .i64 ((es.length : Int) + 1)) ∧ w' = w := by
  obtain ⟨ao, cap, rfl⟩ := h.evform
  have c2 : w.cell? ⟨lb, 2, none⟩ = some (.slice ao es.length cap) := h.blk.cell 2
  have q1 : IntKind.i64.wrap ((es.length : Int) + 1) = (es.length : Int) + 1 := by
    have := h.few.1
    rw [IntKind.wrap_i64]; omega
  clear h
  go_enter Tryz.func49, Tryz.ntmps49
  go_wp2
  go_ret
  exact ⟨rfl, rfl⟩
set_option maxHeartbeats 2000000 in
set_option maxRecDepth 100000 in
theorem wants_any (w : World) (h : Lg w F lb sb pre ev nv es las ns sz dead) :
    Calls Tryz.prog 76 #[.pointer (some ⟨lb, 0, none⟩)] w fun e w' => e = .returned (.bool (decide (ns = [] ∨ 512 ≤ sz))) ∧ w' = w := by
  obtain ⟨ao, cap, rfl⟩ := h.nvform
  have c4 : w.cell? ⟨lb, 4, none⟩ = some (.slice ao ns.length cap) := h.blk.cell 4
  have c5 : w.cell? ⟨lb, 5, none⟩ = some (.int .i64 (sz : Int)) := h.blk.cell 5
  clear h
  cases ns with
  | nil =>
    have : decide (([] : List (List UInt8)) = [] ∨ 512 ≤ sz) = true := by simp
    rw [this]
    clear this
    go_enter Tryz.func76, Tryz.ntmps76
    go_wp2
    go_ret
    exact ⟨rfl, rfl⟩
  | cons n ns =>
    have : decide ((n :: ns) = [] ∨ 512 ≤ sz) = decide (512 ≤ sz) := by simp
    rw [this]
    clear this
    have hl : ((((n :: ns).length : Nat) : Int) == 0) = false := by simp; omega
    generalize (n :: ns).length = m at *
    by_cases hz : 512 ≤ sz
    · have hz' : (512 : Int) ≤ (sz : Int) := by omega
      rw [decide_eq_true hz]
      clear hz
      go_enter Tryz.func76, Tryz.ntmps76
      go_wp2
      go_ret
      exact ⟨rfl, rfl⟩
    · have hz' : ¬ (512 : Int) ≤ (sz : Int) := by omega
      rw [decide_eq_false hz]
      clear hz
      go_enter Tryz.func76, Tryz.ntmps76
      go_wp2
      go_ret
      exact ⟨rfl, rfl⟩
/-- The last name, or none. -/
def lastN (ns : List (List UInt8)) : List UInt8 := ns.getLast?.getD []
set_option maxHeartbeats 2000000 in
set_option maxRecDepth 100000 in
theorem last_any (w : World) (h : Lg w F lb sb pre ev nv es las ns sz dead) :
    Calls Tryz.prog 57 #[.pointer (some ⟨lb, 0, none⟩)] w fun e w' => e = .returned (encStr (lastN ns)) ∧ Sm w w' := by
  have c4 : w.cell? ⟨lb, 4, none⟩ = some nv := h.blk.cell 4
  rcases h.nam.2 with ⟨rfl, h0⟩ | ⟨g, cap, cur, rfl, hb, hg, hn, hc, hs, ht⟩
  · obtain rfl : ns = [] := List.eq_nil_of_length_eq_zero h0
    clear h
    go_enter Tryz.func57, Tryz.ntmps57
    go_wp2
    go_ret
    exact ⟨rfl, Sm.refl _⟩
  · cases hns : ns.getLast? with
    | none =>
      obtain rfl : ns = [] := List.getLast?_eq_none_iff.1 hns
      clear h
      go_enter Tryz.func57, Tryz.ntmps57
      go_wp2
      go_ret
      exact ⟨rfl, Sm.refl _⟩
    | some n =>
      obtain ⟨m, hm⟩ : ∃ m, ns.length = m + 1 := ⟨ns.length - 1, by cases ns with | nil => cases hns | cons a l => simp⟩
      have hn' : ns[m]? = some n := by
        rw [List.getLast?_eq_getElem?, hm] at hns
        exact hns
      have hR : Hid (encStr (lastN ns) = encStr n) := by
        show _ = _
        rw [lastN, hns]; rfl
      have cn : w.cell? ⟨g, m, none⟩ = some (encStr n) := by
        have := World.ownsRow.cells h.nam (g := g) rfl m (encStr n) (by rw [List.getElem?_map, hn']; rfl)
        simpa [Addr.add_lit] using this
      have f0 := h.few.2.1
      rw [hm] at c4 f0
      have q1 : IntKind.i64.wrap (((m + 1 : Nat) : Int) - 1) = (m : Int) := by rw [IntKind.wrap_i64]; omega
      have hne : ((((m + 1 : Nat)) : Int) == 0) = false := by simp; omega
      have f1 : (0 : Int) ≤ (m : Int) := by omega
      have f2 : (m : Int) < ((m + 1 : Nat) : Int) := by omega
      clear h hs ht hn hc hg hns hm
      go_enter Tryz.func57, Tryz.ntmps57
      go_wp2_with fail
      go_quiet (fail)
      go_wp2
      go_ret
      exact ⟨by rw [hR.out]; rfl, Sm.drewN _ _⟩
/-- A segment's name. -/
def nameN (pre : List UInt8) (n : Nat) : List UInt8 := pre ++ (Lib.decDigits (100000000 + n)).drop 1
/-- The table that strconv reads. -/
def Pw (w : World) : Prop := Lib.TabIs Tryz.prog w "internal/strconv.uint64pow10" .u64 Lib.pow10Tab
theorem Pw.keep (h : Pw w) (hk : ∀ k, k < 8 → w'.heap[k]? = w.heap[k]?) : Pw w' := by
  have hg : Tryz.prog.globalNamed "internal/strconv.uint64pow10" = some 1 := by kernel_rfl
  unfold Pw Lib.TabIs World.var? at h ⊢
  simp only [hg, Option.bind_some] at h ⊢
  rw [hk 1 (by omega)]
  exact h
theorem Pw.below (h : Pw w) (hb : Below w.heap.size w w') (hs : 8 ≤ w.heap.size) : Pw w' := h.keep fun k hk => hb.block k (by omega)
theorem decDigits_pos (u : Nat) : 1 ≤ (Lib.decDigits u).length := by
  rw [Lib.decDigits]
  split <;> simp
set_option maxHeartbeats 2000000 in
set_option maxRecDepth 100000 in
theorem nextName_any (w : World) (h : Lg w F lb sb pre ev nv es las ns sz dead) (hp : Pw w) :
    Calls Tryz.prog 77 #[.pointer (some ⟨lb, 0, none⟩)] w fun e w' => e = .returned (encStr (nameN pre (es.length + 1))) ∧ Below w.heap.size w w' := by
  have CN := fun (w1 : World) (hs : Sm w w1) => next_any w1 (h.sm hs)
  have c1 : w.cell? ⟨lb, 1, none⟩ = some (encStr pre) := h.blk.cell 1
  have hf := h.few
  have q1 : IntKind.i64.wrap (100000000 + ((es.length : Int) + 1)) = ((100000000 + (es.length + 1) : Nat) : Int) := by rw [IntKind.wrap_i64]; omega
  have CI := sh_strconv_Itoa ((100000000 + (es.length + 1) : Nat) : Int) (by omega) (by omega) w.drew hp
  have CN' := CN w.drew ⟨rfl, rfl, rfl, rfl⟩
  have hit : Lib.itoa ((100000000 + (es.length + 1) : Nat) : Int) = Lib.decDigits (100000000 + (es.length + 1)) := Lib.itoa_nonneg _
  rw [hit] at CI
  clear h hit CN hp
  have HR : Hid (nameN pre (es.length + 1) = pre ++ (Lib.decDigits (100000000 + (es.length + 1))).drop 1) := rfl
  have hd1 := decDigits_pos (100000000 + (es.length + 1))
  have hd2 : (Lib.decDigits (100000000 + (es.length + 1))).length ≤ 20 := by
    rw [Lib.decDigits_length]
    exact Lib.nDigits_le20 _ (by omega)
  generalize Lib.decDigits (100000000 + (es.length + 1)) = d at *
  obtain ⟨m, hm⟩ : ∃ m, d.length = m + 1 := ⟨d.length - 1, by omega⟩
  have hsz : (⟨d.toArray⟩ : ByteArray).size = m + 1 := by simp [ByteArray.size, hm]
  have hx1 : (⟨d.toArray⟩ : ByteArray).extract 1 (m + 1) = ⟨(d.drop 1).toArray⟩ := by
    rw [Lib.extract_mk]
    congr 2
    rw [List.take_of_length_le]
    simp [hm]
  have hc1 : w.drew.cell? ⟨lb, 1, none⟩ = some (encStr pre) := c1
  have HAP : Hid ((⟨pre.toArray⟩ : ByteArray) ++ ⟨(d.drop 1).toArray⟩ = ⟨(pre ++ d.drop 1).toArray⟩) := ByteArray.mk_append_mk _ _
  have f1 : (1 : Int) ≤ ((m + 1 : Nat) : Int) := by omega
  have f2 : (0 : Int) ≤ (m : Int) := by omega
  have f3 : (1 : Int) ≤ (m : Int) + 1 := by omega
  have hu : (⟨(d.drop 1).toArray⟩ : ByteArray).size = m := by simp [ByteArray.size, hm]
  have hpz : (⟨pre.toArray⟩ : ByteArray).size = pre.length := by simp [ByteArray.size]
  have f4 : ¬ 9223372036854775807 < pre.length + m := by omega
  have HB : Hid (∀ k os, Below w.heap.size w (grow (w.drew.drewN k) os)) := fun k os => ⟨rfl, rfl, rfl, by show w.heap.size ≤ (w.heap ++ os).size; rw [Array.size_append]; omega, fun j hj => by
    show (w.heap ++ os)[j]? = _
    rw [Array.getElem?_append_left hj]⟩
  have HC : Hid (∀ k os, (grow (w.drew.drewN k) os).cell? ⟨lb, 1, none⟩ = some (encStr pre)) := fun k os => ((HB.out k os).cell (p := ⟨lb, 1, none⟩) (World.block_lt_of_cell? w _ c1)).trans c1
  rw [HR.out]
  clear hd1 hd2 hf HR hm
  generalize ht : (⟨d.toArray⟩ : ByteArray) = t at *
  generalize hv : (⟨(d.drop 1).toArray⟩ : ByteArray) = u at *
  have he : encStr pre = .string ⟨pre.toArray⟩ := rfl
  rw [he] at c1 hc1
  generalize hpb : (⟨pre.toArray⟩ : ByteArray) = pb at *
  clear ht hv
  go_enter Tryz.func77, Tryz.ntmps77
  go_wp2_with fail
  go_region_held3 (fun w' => w'.cell? ⟨lb, 1, none⟩ = some (.string pb)) (first | assumption | exact hc1)
    (first
      | (go_at_call 49; refine CN'.mono ?_; rintro e w1 ⟨rfl, hw1⟩; replace hw1 := hw1.symm; subst hw1)
      | (go_at_call 100; refine CI.mono ?_; rintro e w2 ⟨rfl, k, os, hw2⟩; subst hw2; have hc2 : (grow (w.drew.drewN k) os).cell? ⟨lb, 1, none⟩ = some (.string pb) := (HC.out k os).trans (congrArg some he)))
  go_wp2
  go_ret
  have hb := HB.out k os
  exact ⟨congrArg (fun b => Ending.returned (.string b)) HAP.out, ⟨hb.os, hb.tape, hb.output, hb.size, hb.block⟩⟩
end Go.Proofs.YtnkjhooeklodcaaGreatDoor
end
