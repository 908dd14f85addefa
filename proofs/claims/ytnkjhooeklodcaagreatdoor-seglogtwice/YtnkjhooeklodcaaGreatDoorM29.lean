/-
  Joined from: SegTrim.
-/
import Derived.Test.YtnkjhooeklodcaaGreatDoorM11
import Derived.Test.YtnkjhooeklodcaaGreatDoorM28
import Derived.Shelf.Strings.SlTrimAscii
section
/-
  strings.Trim of the ten digits, as this program has it (the library's contract laid at its numbers); isSegment: which names are a segment's.
-/
namespace Go.Proofs.YtnkjhooeklodcaaGreatDoor
open Go.Shelf
def sh_lays160_ren : Go.Shelf.Ren := ⟨fun | 160 => 125 | 232 => 149 | 231 => 148 | 227 => 150 | 234 => 152 | 233 => 151 | 236 => 154 | 235 => 153 | 228 => 175 | 271 => 178 | 151 => 177 | 197 => 176 | 120 => 187 | 152 => 186 | 260 => 185 | 137 => 191 | 119 => 192 | 224 => 193 | 225 => 194 | 217 => 196 | 266 => 198 | n => n, fun | 9 => 9 | 4 => 4 | 3 => 3 | 5 => 5 | 117 => 199 | 116 => 198 | 0 => 0 | 124 => 202 | 21 => 21 | 105 => 220 | 46 => 138 | 119 => 229 | 139 => 232 | 138 => 231 | n => n, fun | 3 => 2 | 4 => 3 | n => n⟩
theorem sh_lays160 : Go.Proofs.Lays.n160 Tryz.prog sh_lays160_ren := {
  mixed := by kernel_rfl
  f119 := Tryz.func192.trans (congrArg some (by kernel_rfl))
  f120 := Tryz.func187.trans (congrArg some (by kernel_rfl))
  f137 := Tryz.func191.trans (congrArg some (by kernel_rfl))
  f151 := Tryz.func177.trans (congrArg some (by kernel_rfl))
  f152 := Tryz.func186.trans (congrArg some (by kernel_rfl))
  f160 := Tryz.func125.trans (congrArg some (by kernel_rfl))
  f197 := Tryz.func176.trans (congrArg some (by kernel_rfl))
  f217 := Tryz.func196.trans (congrArg some (by kernel_rfl))
  f224 := Tryz.func193.trans (congrArg some (by kernel_rfl))
  f225 := Tryz.func194.trans (congrArg some (by kernel_rfl))
  f227 := Tryz.func150.trans (congrArg some (by kernel_rfl))
  f228 := Tryz.func175.trans (congrArg some (by kernel_rfl))
  f231 := Tryz.func148.trans (congrArg some (by kernel_rfl))
  f232 := Tryz.func149.trans (congrArg some (by kernel_rfl))
  f233 := Tryz.func151.trans (congrArg some (by kernel_rfl))
  f234 := Tryz.func152.trans (congrArg some (by kernel_rfl))
  f235 := Tryz.func153.trans (congrArg some (by kernel_rfl))
  f236 := Tryz.func154.trans (congrArg some (by kernel_rfl))
  f260 := Tryz.func185.trans (congrArg some (by kernel_rfl))
  f266 := Tryz.func198.trans (congrArg some (by kernel_rfl))
  f271 := Tryz.func178.trans (congrArg some (by kernel_rfl))
  t0 := Tryz.underlying0
  a0 := Tryz.isAgg0
  z0 := Tryz.sizeOf0
  v0 := Tryz.zeroValue0
  t3 := Tryz.underlying3
  a3 := Tryz.isAgg3
  z3 := Tryz.sizeOf3
  v3 := Tryz.zeroValue3
  t4 := Tryz.underlying4
  a4 := Tryz.isAgg4
  z4 := Tryz.sizeOf4
  v4 := Tryz.zeroValue4
  t5 := Tryz.underlying5
  a5 := Tryz.isAgg5
  z5 := Tryz.sizeOf5
  v5 := Tryz.zeroValue5
  t9 := Tryz.underlying9
  a9 := Tryz.isAgg9
  z9 := Tryz.sizeOf9
  v9 := Tryz.zeroValue9
  t21 := Tryz.underlying21
  a21 := Tryz.isAgg21
  z21 := Tryz.sizeOf21
  v21 := Tryz.zeroValue21
  t46 := Tryz.underlying138
  a46 := Tryz.isAgg138
  z46 := Tryz.sizeOf138
  v46 := Tryz.zeroValue138
  t105 := Tryz.underlying220
  a105 := Tryz.isAgg220
  z105 := Tryz.sizeOf220
  v105 := Tryz.zeroValue220
  t116 := Tryz.underlying198
  a116 := Tryz.isAgg198
  z116 := Tryz.sizeOf198
  t117 := Tryz.underlying199
  a117 := Tryz.isAgg199
  z117 := Tryz.sizeOf199
  v117 := Tryz.zeroValue199
  t119 := Tryz.underlying229
  a119 := Tryz.isAgg229
  z119 := Tryz.sizeOf229
  t124 := Tryz.underlying202
  a124 := Tryz.isAgg202
  z124 := Tryz.sizeOf202
  v124 := Tryz.zeroValue202
  t138 := Tryz.underlying231
  a138 := Tryz.isAgg231
  z138 := Tryz.sizeOf231
  v138 := Tryz.zeroValue231
  t139 := Tryz.underlying232
  a139 := Tryz.isAgg232
  z139 := Tryz.sizeOf232
  v139 := Tryz.zeroValue232
  g3 := by kernel_rfl
  g4 := by kernel_rfl }
open Go.RowKit Go.Maps Go.Sort
def dgs : List UInt8 := [48, 49, 50, 51, 52, 53, 54, 55, 56, 57]
theorem all_dropWhile (p : UInt8 → Bool) : ∀ l : List UInt8, l.dropWhile p = [] ↔ ∀ x ∈ l, p x = true
  | [] => by simp
  | a :: l => by
    have h := all_dropWhile p l
    cases ha : p a with
    | true => rw [List.dropWhile_cons_of_pos ha, h]; simp [ha]
    | false =>
      constructor
      · intro e
        rw [List.dropWhile_cons_of_neg (by simp [ha])] at e
        cases e
      · intro e
        have := e a (by simp)
        rw [ha] at this
        cases this
theorem dropWhile_last (p : UInt8 → Bool) (l : List UInt8) (h : ∀ x ∈ (l.reverse.dropWhile p).reverse, p x = true) : ∀ x ∈ l, p x = true := by
  cases hd : l.reverse.dropWhile p with
  | nil =>
    have := (all_dropWhile p l.reverse).1 hd
    intro x hx
    exact this x (by simpa using hx)
  | cons y ys =>
    have hy : p y = true := h y (by rw [hd]; simp)
    have := List.head?_dropWhile_not p l.reverse
    rw [hd] at this
    simp only [List.head?_cons] at this
    rw [hy] at this
    cases this
theorem trimS_nil (l cs : List UInt8) : Lib.trimS l cs = [] ↔ l.all (cs.contains ·) = true := by
  unfold Lib.trimS Lib.trimLeftS Lib.trimRightS
  rw [all_dropWhile, List.all_eq_true]
  constructor
  · exact dropWhile_last _ l
  · intro h x hx
    refine h x ?_
    have : x ∈ l.reverse := (List.dropWhile_suffix _).mem (by simpa using hx)
    simpa using this
def isSeg (name pre : List UInt8) : Bool := Lib.hasPrefix name pre && (((Lib.trimPrefix name pre).length == 8) && (Lib.trimPrefix name pre).all (dgs.contains ·))
theorem Tryz.zero198 : ∀ w, (zeroValue 198).run Tryz.prog w = .ok (.agg (Array.replicate 256 (.bool false))) w := fun w => by
  have : (Tryz.prog.info? 198).bind (·.zero) = some (.agg (Array.replicate 256 (.bool false))) := by kernel_rfl
  cases hi : Tryz.prog.info? 198 with
  | none => rw [hi] at this; cases this
  | some i =>
    rw [hi] at this
    have hz : i.zero = some (.agg (Array.replicate 256 (.bool false))) := this
    simp only [zeroValue, typeInfo, Sem.run_bind, run_program, hi, hz, Sem.run_pure, Result.andThen_ok]
theorem trimD_any (xs : List UInt8) (w : World) (h0 : xs ≠ []) (hl : xs.length ≤ 140737488355328) :
    Calls Tryz.prog 125 #[encStr xs, .string ⟨#[48, 49, 50, 51, 52, 53, 54, 55, 56, 57]⟩] w fun e w' => e = .returned (encStr (Lib.trimS xs dgs)) ∧ Below w.heap.size w w' := by
  have hsz : (⟨xs.toArray⟩ : ByteArray).size = xs.length := by simp [ByteArray.size]
  refine (Any.strings_Trim_set sh_lays160 Tryz.zero198 (by kernel_rfl) ⟨xs.toArray⟩ ⟨#[48, 49, 50, 51, 52, 53, 54, 55, 56, 57]⟩ w (by decide) ?_ ?_ (by decide) ?_).mono ?_
  · rw [hsz]; exact List.length_pos_iff.2 h0
  · rw [hsz]; omega
  · intro j b hb
    have hm : b ∈ dgs := List.mem_of_getElem? hb
    revert b
    intro b _ hm
    simp only [dgs, List.mem_cons, List.not_mem_nil, or_false] at hm
    rcases hm with rfl | rfl | rfl | rfl | rfl | rfl | rfl | rfl | rfl | rfl <;> decide
  · rintro e w' ⟨rfl, q, rfl⟩
    refine ⟨rfl, ?_⟩
    have h : Below w.heap.size w ((w.alloc (.cells (Lib.setCells dgs) 198)).alloc (.cells (Lib.setCells dgs) 198)) :=
      ((Below.refl _ _).alloc (Nat.le_refl _) _).alloc (by rw [World.size_alloc]; omega) _
    exact ⟨h.os, h.tape, h.output, h.size, h.block⟩
set_option maxHeartbeats 2000000 in
set_option maxRecDepth 100000 in
theorem isSeg_any (name pre : List UInt8) (w : World) (hl : name.length ≤ 140737488355328) :
    Calls Tryz.prog 109 #[encStr name, encStr pre] w fun e w' => e = .returned (.bool (isSeg name pre)) ∧ Below w.heap.size w w' := by
  have CP := sh_strings_CutPrefix ⟨name.toArray⟩ ⟨pre.toArray⟩ w
  have ht : (Lib.trimPrefix name pre).length ≤ 140737488355328 := by
    unfold Lib.trimPrefix
    split
    · simp; omega
    · exact hl
  have hsz : (⟨(Lib.trimPrefix name pre).toArray⟩ : ByteArray).size = (Lib.trimPrefix name pre).length := by simp [ByteArray.size]
  have HR : Hid (isSeg name pre = (Lib.hasPrefix name pre && (((Lib.trimPrefix name pre).length == 8) && (Lib.trimPrefix name pre).all (dgs.contains ·)))) := rfl
  have hT := trimS_nil (Lib.trimPrefix name pre) dgs
  generalize Lib.trimPrefix name pre = t at *
  generalize Lib.hasPrefix name pre = p at *
  generalize isSeg name pre = r at *
  have CT := fun h0 : t ≠ [] => trimD_any t w h0 ht
  cases p with
  | false =>
    have hr : r = false := by rw [HR.out]; rfl
    subst hr
    clear HR hT CT hl
    go_enter Tryz.func109, Tryz.ntmps109
    go_wp2_with (go_at_call 124; refine CP.mono ?_; rintro e w1 ⟨rfl, hw1⟩; replace hw1 := hw1.symm; subst hw1)
    go_ret
    exact ⟨rfl, Below.refl _ _⟩
  | true =>
    by_cases h8 : t.length = 8
    · have h0 : t ≠ [] := by intro e; rw [e] at h8; cases h8
      have CT' := CT h0
      have HR' : Hid (r = t.all (dgs.contains ·)) := by
        show _ = _
        rw [HR.out, h8]; rfl
      have hz : Hid ((Lib.trimS t dgs).isEmpty = r) := by
        show _ = _
        rw [HR'.out, Bool.eq_iff_iff, List.isEmpty_iff]
        exact hT
      clear HR hT CT hl
      go_enter Tryz.func109, Tryz.ntmps109
      go_wp2_with (first
        | (go_at_call 124; refine CP.mono ?_; rintro e w1 ⟨rfl, hw1⟩; replace hw1 := hw1.symm; subst hw1)
        | (go_at_call 125; refine CT'.mono ?_; rintro e w1 ⟨rfl, BW⟩))
      go_ret
      exact ⟨by rw [hz.out]; rfl, BW⟩
    · have hr : r = false := by rw [HR.out]; simp [h8]
      subst hr
      have h8' : ((t.length : Int) == 8) = false := by simp; omega
      clear HR hT CT hl
      go_enter Tryz.func109, Tryz.ntmps109
      go_wp2_with (go_at_call 124; refine CP.mono ?_; rintro e w1 ⟨rfl, hw1⟩; replace hw1 := hw1.symm; subst hw1)
      go_ret
      exact ⟨rfl, Below.refl _ _⟩
end Go.Proofs.YtnkjhooeklodcaaGreatDoor
end
