/-
  Joined from: Iter, Names, Crash.
-/
import Derived.Shelf.SlIter.Nil
import Derived.Shelf.SortM.Plain
import Derived.Shelf.SortM.SortNone
import Derived.Ground.GgzProg
import Derived.Ground.SlgmProg
import Derived.Test.YtnkjhooeklodcaaGreatDoorProg
import Derived.Test.YtnkjhooeklodcaaGreatDoorM15
section
/-
  slices.Sorted and maps.Keys, as this program has them: the library's contracts laid at its numbers.
-/
namespace Go.Proofs.YtnkjhooeklodcaaGreatDoor
open Go.Shelf
def keys52_ren : Go.Shelf.Ren := ⟨fun | 7 => 75 | 10 => 99 | n => n, fun | 23 => 86 | 26 => 9 | 3 => 106 | 28 => 126 | 0 => 0 | 27 => 125 | 33 => 154 | 4 => 4 | n => n, fun | n => n⟩
theorem keys52 : Go.Proofs.SlLaysZ.n7 Tryz.prog keys52_ren := {
  mixed := by kernel_rfl
  f7 := ⟨Tryz.f75.name, by decide, Tryz.func75.trans (congrArg some (by kernel_rfl))⟩
  f10 := ⟨Tryz.f99.name, by decide, Tryz.func99.trans (congrArg some (by kernel_rfl))⟩
  t0 := Tryz.underlying0
  a0 := Tryz.isAgg0
  z0 := Tryz.sizeOf0
  v0 := Tryz.zeroValue0
  t4 := Tryz.underlying4
  a4 := Tryz.isAgg4
  z4 := Tryz.sizeOf4
  v4 := Tryz.zeroValue4
  t23 := Tryz.underlying86
  a23 := Tryz.isAgg86
  z23 := Tryz.sizeOf86
  v23 := Tryz.zeroValue86
  t26 := Tryz.underlying9
  a26 := Tryz.isAgg9
  z26 := Tryz.sizeOf9
  v26 := Tryz.zeroValue9
  t27 := Tryz.underlying125
  a27 := Tryz.isAgg125
  z27 := Tryz.sizeOf125
  v27 := Tryz.zeroValue125
  t28 := Tryz.underlying126
  a28 := Tryz.isAgg126
  z28 := Tryz.sizeOf126
  v28 := Tryz.zeroValue126
  t33 := Tryz.underlying154
  a33 := Tryz.isAgg154
  z33 := Tryz.sizeOf154
  v33 := Tryz.zeroValue154 }
def sorted51_ren : Go.Shelf.Ren := ⟨fun | 6 => 74 | 8 => 97 | 9 => 98 | 11 => 118 | 13 => 120 | 12 => 119 | 23 => 144 | 24 => 145 | 14 => 135 | 15 => 136 | 16 => 137 | 17 => 138 | 18 => 139 | 19 => 140 | 20 => 141 | 21 => 142 | 22 => 143 | 25 => 164 | 26 => 165 | 27 => 166 | 28 => 167 | 29 => 168 | 30 => 169 | 31 => 180 | n => n, fun | 26 => 9 | 28 => 126 | 24 => 69 | 0 => 0 | 3 => 3 | 37 => 138 | 48 => 136 | 50 => 115 | 4 => 4 | 40 => 187 | 39 => 186 | 45 => 120 | 5 => 5 | 9 => 9 | 51 => 209 | 55 => 213 | 57 => 223 | 58 => 47 | 33 => 154 | n => n, fun | n => n⟩
theorem sorted51 : Go.Proofs.SlLaysZ.n6 Tryz.prog sorted51_ren := {
  mixed := by kernel_rfl
  f6 := ⟨Tryz.f74.name, by decide, Tryz.func74.trans (congrArg some (by kernel_rfl))⟩
  f8 := ⟨Tryz.f97.name, by decide, Tryz.func97.trans (congrArg some (by kernel_rfl))⟩
  f11 := ⟨Tryz.f118.name, by decide, Tryz.func118.trans (congrArg some (by kernel_rfl))⟩
  t0 := Tryz.underlying0
  a0 := Tryz.isAgg0
  z0 := Tryz.sizeOf0
  v0 := Tryz.zeroValue0
  t24 := Tryz.underlying69
  a24 := Tryz.isAgg69
  z24 := Tryz.sizeOf69
  v24 := Tryz.zeroValue69
  t26 := Tryz.underlying9
  a26 := Tryz.isAgg9
  z26 := Tryz.sizeOf9
  v26 := Tryz.zeroValue9
  t28 := Tryz.underlying126
  a28 := Tryz.isAgg126
  z28 := Tryz.sizeOf126
  v28 := Tryz.zeroValue126
  i26 := by kernel_rfl }
def sort64_ren : Go.Shelf.Ren := ⟨fun | 6 => 98 | 8 => 120 | 9 => 119 | 19 => 144 | 20 => 145 | 21 => 135 | 22 => 136 | 23 => 137 | 24 => 138 | 25 => 139 | 26 => 140 | 27 => 141 | 28 => 142 | 29 => 143 | 36 => 164 | 31 => 165 | 32 => 166 | 37 => 167 | 38 => 168 | 39 => 169 | 41 => 180 | n => n, fun | 27 => 69 | 29 => 9 | 3 => 3 | 32 => 138 | 26 => 69 | 0 => 0 | 44 => 136 | 46 => 115 | 4 => 4 | 36 => 187 | 35 => 186 | 41 => 120 | 5 => 5 | 9 => 9 | 53 => 209 | 57 => 213 | 63 => 223 | 64 => 47 | n => n, fun | n => n⟩
theorem sort64 : Go.Proofs.SlLaysM.n6 Tryz.prog sort64_ren := {
  mixed := by kernel_rfl
  f6 := ⟨Tryz.f98.name, by decide, Tryz.func98.trans (congrArg some (by kernel_rfl))⟩
  f8 := Tryz.func120.trans (congrArg some (by kernel_rfl))
  f9 := ⟨Tryz.f119.name, by decide, Tryz.func119.trans (congrArg some (by kernel_rfl))⟩
  f19 := Tryz.func144.trans (congrArg some (by kernel_rfl))
  f20 := Tryz.func145.trans (congrArg some (by kernel_rfl))
  f21 := ⟨Tryz.f135.name, by decide, Tryz.func135.trans (congrArg some (by kernel_rfl))⟩
  f22 := ⟨Tryz.f136.name, by decide, Tryz.func136.trans (congrArg some (by kernel_rfl))⟩
  f23 := ⟨Tryz.f137.name, by decide, Tryz.func137.trans (congrArg some (by kernel_rfl))⟩
  f24 := ⟨Tryz.f138.name, by decide, Tryz.func138.trans (congrArg some (by kernel_rfl))⟩
  f25 := ⟨Tryz.f139.name, by decide, Tryz.func139.trans (congrArg some (by kernel_rfl))⟩
  f26 := ⟨Tryz.f140.name, by decide, Tryz.func140.trans (congrArg some (by kernel_rfl))⟩
  f27 := ⟨Tryz.f141.name, by decide, Tryz.func141.trans (congrArg some (by kernel_rfl))⟩
  f28 := ⟨Tryz.f142.name, by decide, Tryz.func142.trans (congrArg some (by kernel_rfl))⟩
  f29 := ⟨Tryz.f143.name, by decide, Tryz.func143.trans (congrArg some (by kernel_rfl))⟩
  f31 := Tryz.func165.trans (congrArg some (by kernel_rfl))
  f32 := Tryz.func166.trans (congrArg some (by kernel_rfl))
  f36 := ⟨Tryz.f164.name, by decide, Tryz.func164.trans (congrArg some (by kernel_rfl))⟩
  f37 := ⟨Tryz.f167.name, by decide, Tryz.func167.trans (congrArg some (by kernel_rfl))⟩
  f38 := ⟨Tryz.f168.name, by decide, Tryz.func168.trans (congrArg some (by kernel_rfl))⟩
  f39 := ⟨Tryz.f169.name, by decide, Tryz.func169.trans (congrArg some (by kernel_rfl))⟩
  f41 := ⟨Tryz.f180.name, by decide, Tryz.func180.trans (congrArg some (by kernel_rfl))⟩
  t0 := Tryz.underlying0
  a0 := Tryz.isAgg0
  z0 := Tryz.sizeOf0
  v0 := Tryz.zeroValue0
  t3 := Tryz.underlying3
  a3 := Tryz.isAgg3
  z3 := Tryz.sizeOf3
  v3 := Tryz.zeroValue3
  t4 := Tryz.underlying4
  a4 := Tryz.isAgg4
  z4 := Tryz.sizeOf4
  v4 := Tryz.zeroValue4
  t5 := Tryz.underlying5
  a5 := Tryz.isAgg5
  z5 := Tryz.sizeOf5
  v5 := Tryz.zeroValue5
  t9 := Tryz.underlying9
  a9 := Tryz.isAgg9
  z9 := Tryz.sizeOf9
  v9 := Tryz.zeroValue9
  t26 := Tryz.underlying69
  a26 := Tryz.isAgg69
  z26 := Tryz.sizeOf69
  v26 := Tryz.zeroValue69
  t27 := Tryz.underlying69
  a27 := Tryz.isAgg69
  z27 := Tryz.sizeOf69
  v27 := Tryz.zeroValue69
  t29 := Tryz.underlying9
  a29 := Tryz.isAgg9
  z29 := Tryz.sizeOf9
  v29 := Tryz.zeroValue9
  t32 := Tryz.underlying138
  a32 := Tryz.isAgg138
  z32 := Tryz.sizeOf138
  v32 := Tryz.zeroValue138
  t35 := Tryz.underlying186
  a35 := Tryz.isAgg186
  z35 := Tryz.sizeOf186
  v35 := Tryz.zeroValue186
  t36 := Tryz.underlying187
  a36 := Tryz.isAgg187
  z36 := Tryz.sizeOf187
  v36 := Tryz.zeroValue187
  t41 := Tryz.underlying120
  a41 := Tryz.isAgg120
  z41 := Tryz.sizeOf120
  v41 := Tryz.zeroValue120
  t44 := Tryz.underlying136
  a44 := Tryz.isAgg136
  z44 := Tryz.sizeOf136
  v44 := Tryz.zeroValue136
  t46 := Tryz.underlying115
  a46 := Tryz.isAgg115
  z46 := Tryz.sizeOf115
  v46 := Tryz.zeroValue115
  t53 := Tryz.underlying209
  a53 := Tryz.isAgg209
  z53 := Tryz.sizeOf209
  v53 := Tryz.zeroValue209
  t57 := Tryz.underlying213
  a57 := Tryz.isAgg213
  z57 := Tryz.sizeOf213
  v57 := Tryz.zeroValue213
  t63 := Tryz.underlying223
  a63 := Tryz.isAgg223
  z63 := Tryz.sizeOf223
  v63 := Tryz.zeroValue223
  t64 := Tryz.underlying47
  a64 := Tryz.isAgg47
  z64 := Tryz.sizeOf47
  v64 := Tryz.zeroValue47 }
open Go.RowKit Go.Maps Go.Sort

theorem sorts51 (m : Nat) : AnyZ.SortsIn Tryz.prog sorted51_ren Fence.wide m :=
  ⟨fun blk off cap ss W hH hblk hsz => callsIn_wide.2 (AnyM.slices_Sort_string sort64 blk off cap ss W hH hblk hsz),
   fun p cap W => callsIn_wide.2 (AnyM.slices_Sort_string_none sort64 p cap W)⟩

theorem keys_any (mb : Option Nat) (W : World) : CallsIn Fence.wide 5 Tryz.prog 75 #[.map mb] W fun e w' => e = .returned (.func (.func 99) #[] #[.pointer (some ⟨W.heap.size, 0, none⟩)]) ∧ w' = W.alloc (.cells #[.map mb] 86) :=
  AnyZ.keys_in keys52 Fence.wide 5 trivial rfl mb W

set_option maxHeartbeats 1000000 in
theorem sorted_any {H : Type} (b nn : Nat) (D0 : DataW H) (R : Value → Option (DataW H × List MemPlace)) (w : World) (hown : w.ownsMap Tryz.prog 9 R b nn D0) (hmax : Maps.size D0 ≤ maxLen) (hbytes : Maps.size D0 * 16 ≤ 140737488355328) :
    CallsIn Fence.wide 5 Tryz.prog 74 #[.func (.func 99) #[] #[.pointer (some ⟨w.heap.size, 0, none⟩)]] (w.alloc (.cells #[.map (some b)] 86)) fun e w' => ∃ (v : Value) (ss : List (List UInt8)), e = .returned v ∧ ss.Perm (strKeys D0) ∧
      w'.ownsRow (w.alloc (.cells #[.map (some b)] 86)).heap.size 9 1 v ss.length ((ss.mergeSort (fun x y => decide (x ≤ y))).map encStr) ∧ (v = .slice none 0 0 ↔ ss = []) ∧ Below (w.alloc (.cells #[.map (some b)] 86)).heap.size (w.alloc (.cells #[.map (some b)] 86)) w' := by
  have hbl := hown.lt
  have hseq : SeqGives Fence.wide 2 Tryz.prog 99 #[.pointer (some ⟨w.heap.size, 0, none⟩)] encStr (fun ss => ss.Perm (strKeys D0)) (Maps.size D0) (w.alloc (.cells #[.map (some b)] 86)) :=
    AnyZ.keys_gives (ρ := keys52_ren) { keys52 with } Fence.wide _ trivial rfl (by omega) w.heap.size b nn D0 _ (by simp) (by simp) (by
      obtain ⟨es, clock, hb, Ft, hs, hD⟩ := hown
      exact ⟨es, clock, (Below.heap_alloc _ _ b hbl).trans hb, Ft, hs, hD⟩)
  exact AnyZ.sorted_in sorted51 Fence.wide 5 trivial trivial trivial trivial rfl (by omega) (sorts51 _) (enters_of Tryz.func98 (by kernel_rfl) rfl) 99 #[.pointer (some ⟨w.heap.size, 0, none⟩)] trivial (enters_of Tryz.func99 (by kernel_rfl) rfl) _ _ hmax hbytes _ hseq

set_option maxHeartbeats 1000000 in
theorem sorted_nil (w : World) :
    CallsIn Fence.wide 5 Tryz.prog 74 #[.func (.func 99) #[] #[.pointer (some ⟨w.heap.size, 0, none⟩)]] (w.alloc (.cells #[.map none] 86)) fun e w' => ∃ (v : Value) (ss : List (List UInt8)), e = .returned v ∧ ss = [] ∧
      w'.ownsRow (w.alloc (.cells #[.map none] 86)).heap.size 9 1 v ss.length ((ss.mergeSort (fun x y => decide (x ≤ y))).map encStr) ∧ (v = .slice none 0 0 ↔ ss = []) ∧ Below (w.alloc (.cells #[.map none] 86)).heap.size (w.alloc (.cells #[.map none] 86)) w' := by
  have hseq : SeqGives Fence.wide 2 Tryz.prog 99 #[.pointer (some ⟨w.heap.size, 0, none⟩)] encStr (fun ss : List (List UInt8) => ss = []) 0 (w.alloc (.cells #[.map none] 86)) :=
    AnyZ.keys_gives_nil (ρ := keys52_ren) { keys52 with } Fence.wide _ trivial rfl w.heap.size _ (by simp) (by simp)
  exact AnyZ.sorted_in sorted51 Fence.wide 5 trivial trivial trivial trivial rfl (by omega) (sorts51 _) (enters_of Tryz.func98 (by kernel_rfl) rfl) 99 #[.pointer (some ⟨w.heap.size, 0, none⟩)] trivial (enters_of Tryz.func99 (by kernel_rfl) rfl) _ 0 (Nat.zero_le _) (by omega) _ hseq

end Go.Proofs.YtnkjhooeklodcaaGreatDoor
end

section
/-
  Names: all names, rising. By its contract.
-/
namespace Go.Proofs.YtnkjhooeklodcaaGreatDoor
open Go.RowKit Go.Maps Go.Sort Go.Shelf
variable {X : Nm → Prop} {w w' : World} {F : Nat → Prop} {sb : Nat} {mb : Option Nat} {room : Int} {fs : Fls} {lit : Bool} {left : Int}

theorem before_lt : ∀ (a b : List UInt8), bytesBefore a b = true ↔ a < b
  | [], [] => by simp [bytesBefore]
  | [], _ :: _ => by simp [bytesBefore]
  | _ :: _, [] => by simp [bytesBefore]
  | a :: r, b :: s => by
    have ih := before_lt r s
    simp only [bytesBefore, Bool.or_eq_true, Bool.and_eq_true, decide_eq_true_eq, beq_iff_eq, ih, List.cons_lt_cons_iff]
theorem before_le {a b : List UInt8} (h : bytesBefore a b = true) : a ≤ b := List.le_of_lt ((before_lt a b).1 h)
/-- The names of the files. -/
def nms (fs : Fls) : List Nm := fs.map (·.1)
theorem sort_nms (h : fs.Pairwise (fun p q => bytesBefore p.1 q.1 = true)) {ss : List (List UInt8)} (hp : ss.Perm (strKeys (Dm fs))) : ss.mergeSort (fun x y => decide (x ≤ y)) = nms fs := by
  rw [mergeSort_of_perm hp, Dm_keys]
  refine List.mergeSort_of_pairwise ?_
  rw [List.pairwise_map]
  exact h.imp fun hb => decide_eq_true (before_le hb)
set_option maxHeartbeats 1000000 in
theorem Names_any (h : Dk w F sb mb room fs lit left) :
    Calls Tryz.prog 44 #[.pointer (some ⟨sb, 0, none⟩)] w fun e w' => ∃ v, e = .returned v ∧ w'.ownsRow w.heap.size 9 1 v fs.length ((nms fs).map encStr) ∧ Below w.heap.size w w' := by
  obtain ⟨c0, c1, c2, c3, c4⟩ := h.cell
  have hr := h.rising
  have hcnt := h.cnt
  refine (callsIn_wide (n := 6)).1 ?_
  have hfK : Fence.wide.fn 75 := trivial
  have hfS : Fence.wide.fn 74 := trivial
  cases mb with
  | some b =>
    have hown := (h.map b rfl).2
    refine callsIn_of_wp Tryz.func44 rfl trivial ?_ rfl
    simp only [Tryz.ntmps44, List.size_toArray, List.length_cons, List.length_nil, Nat.reduceAdd, Nat.reduceSub, Array.replicate_succ, Array.replicate_zero, List.push_toArray, List.append_toArray, List.nil_append, List.cons_append]
    gi_wp2_with (first
      | (gi_at_call 75; refine (keys_any _ _).mono ?_; rintro e w' ⟨rfl, rfl⟩)
      | (gi_at_call 74; refine (sorted_any b fs.length (Dm fs) Rv w hown (by rw [Dm_size]; unfold maxLen; omega) (by rw [Dm_size]; omega)).mono ?_; rintro e w' ⟨v, ss, rfl, hS, hrow, hnil, hb⟩))
    go_ret
    refine ⟨v, rfl, ?_, ((Below.refl _ w).alloc (Nat.le_refl _) _).trans (hb.mono (by simp))⟩
    have e1 := sort_nms hr hS
    have e2 : ss.length = fs.length := by rw [hS.length_eq, Dm_keys, List.length_map]
    rw [e1, e2] at hrow
    exact ownsRow_base_a hrow (by simp)
  | none =>
    have e0 := h.nn rfl
    refine callsIn_of_wp Tryz.func44 rfl trivial ?_ rfl
    simp only [Tryz.ntmps44, List.size_toArray, List.length_cons, List.length_nil, Nat.reduceAdd, Nat.reduceSub, Array.replicate_succ, Array.replicate_zero, List.push_toArray, List.append_toArray, List.nil_append, List.cons_append]
    gi_wp2_with (first
      | (gi_at_call 75; refine (keys_any _ _).mono ?_; rintro e w' ⟨rfl, rfl⟩)
      | (gi_at_call 74; refine (sorted_nil w).mono ?_; rintro e w' ⟨v, ss, rfl, hS, hrow, hnil, hb⟩))
    go_ret
    refine ⟨v, rfl, ?_, ((Below.refl _ w).alloc (Nat.le_refl _) _).trans (hb.mono (by simp))⟩
    rw [hS, List.mergeSort_nil] at hrow
    rw [e0]
    exact ownsRow_base_a hrow (by simp)
theorem Names_nil (w : World) : Calls Tryz.prog 44 #[.pointer none] w fun e w' => e = .returned (.slice none 0 0) ∧ w' = w := by
  go_enter Tryz.func44, Tryz.ntmps44
  go_wp2
  go_ret
  exact ⟨rfl, rfl⟩
end Go.Proofs.YtnkjhooeklodcaaGreatDoor
end

section
/-
  Fuse and Crash, by contracts.
-/
namespace Go.Proofs.YtnkjhooeklodcaaGreatDoor
open Go.RowKit Go.Maps
variable {X : Nm → Prop} {w w' : World} {F : Nat → Prop} {sb : Nat} {mb : Option Nat} {room : Int} {fs : Fls} {lit : Bool} {left : Int}

theorem Dx.setFuse (h : Dk w F sb mb room fs lit left) (b : Bool) (n : Int) (hn : 0 ≤ n ∧ n < 9223372036854775808) : Dk ((w.setCell ⟨sb, 3, none⟩ (.bool b)).setCell ⟨sb, 4, none⟩ (.int .i64 n)) F sb mb room fs b n where
  cells := (h.cells.set 3 _).set 4 _
  sF := h.sF
  nn := h.nn
  map := fun c hc => ⟨(h.map c hc).1, ownsMap_keep (h.map c hc).2 ((Below.heap_setCell _ _ _ _ fun e => mb_ne h (by rw [hc]; exact congrArg some e.symm)).trans (Below.heap_setCell _ _ _ _ fun e => mb_ne h (by rw [hc]; exact congrArg some e.symm)))⟩
  form := h.form
  rowsX := fun p hp hx => by
    obtain ⟨h1, h2, h3, h4⟩ := h.rowsX p hp hx
    exact ⟨h1.keep fun k hk => (Below.heap_setCell _ _ _ _ (row_ne h h1 hk).1).trans (Below.heap_setCell _ _ _ _ (row_ne h h1 hk).1), h2, h3, h4⟩
  apart := h.apart
  room0 := h.room0
  fits := h.fits
  left0 := hn
  cnt := h.cnt
theorem Fuse_any (h : Dk w F sb mb room fs lit left) (n : Int) (hn : (Lit.int .i64 n).wf = true) :
    Calls Tryz.prog 14 #[.pointer (some ⟨sb, 0, none⟩), .int .i64 n] w fun e w' => e = .returned (.tuple #[]) ∧ Dk w' F sb mb room fs (decide (0 ≤ n)) (max n 0) ∧ Grows F w w' := by
  obtain ⟨c0, c1, c2, c3, c4⟩ := h.cell
  have f3 := h.cells.frozen 3
  have f4 := h.cells.frozen 4
  have hnb : n < 9223372036854775808 := by simp [Lit.wf] at hn; omega
  have HD := hid_into (h.setFuse (decide (0 ≤ n)) (max n 0) (by omega))
  have HG : Hid (Grows F w ((w.setCell ⟨sb, 3, none⟩ (.bool (decide (0 ≤ n)))).setCell ⟨sb, 4, none⟩ (.int .i64 (max n 0)))) := (Grows.setCell _ _ _ h.sF).trans (Grows.setCell _ _ _ h.sF) fun _ hk => Or.inl hk
  go_enter Tryz.func14, Tryz.ntmps14
  go_wp2_with fail
  go_end0
  exact ⟨rfl, HD.out, HG.out⟩
theorem Fuse_nil (n : Value) (w : World) : Calls Tryz.prog 14 #[.pointer none, n] w fun e w' => e = .returned (.tuple #[]) ∧ w' = w := by
  go_enter Tryz.func14, Tryz.ntmps14
  go_wp2
  go_end0
  exact ⟨rfl, rfl⟩
theorem Crash_nil (n t : Value) (w : World) : Calls Tryz.prog 20 #[.pointer none, n, t] w fun e w' => e = .returned (.tuple #[]) ∧ w' = w := by
  go_enter Tryz.func20, Tryz.ntmps20
  go_wp2
  refine bodyPost_ret (results_none rfl _ _ _) rfl ?_
  exact ⟨rfl, rfl⟩
theorem ins_front (x : Nm) (f : Fl) : ∀ r : Fls, (∀ q ∈ r, bytesBefore x q.1 = true) → ins x f r = (x, f) :: r
  | [], _ => rfl
  | y :: r, h => by simp only [ins, h y (by simp), if_true]
/-- To give a name that is there another file is to replace it where it stands. -/
theorem pt_set : ∀ {fs : Fls} {i : Nat} {x : Nm} {g f : Fl}, fs.Pairwise (fun p q => bytesBefore p.1 q.1 = true) → fs[i]? = some (x, g) → pt fs x f = fs.set i (x, f)
  | [], _, _, _, _, _, h => by simp at h
  | p :: r, 0, x, g, f, hp, h => by
    simp only [List.getElem?_cons_zero, Option.some.injEq] at h
    subst h
    obtain ⟨h1, h2⟩ := List.pairwise_cons.1 hp
    have hd : dl ((x, g) :: r) x = r := by
      rw [dl_cons, if_pos rfl]
      exact dl_of_none fun q hq e => by have := h1 q hq; rw [e, WideAt.bytes_irrefl] at this; cases this
    rw [pt, hd, ins_front x f r h1]
    rfl
  | p :: r, i + 1, x, g, f, hp, h => by
    simp only [List.getElem?_cons_succ] at h
    obtain ⟨h1, h2⟩ := List.pairwise_cons.1 hp
    have hb := h1 _ (List.mem_of_getElem? h)
    have hne : p.1 ≠ x := fun e => by rw [e, WideAt.bytes_irrefl] at hb; cases hb
    have hnb : bytesBefore x p.1 = false := by
      cases hc : bytesBefore x p.1 with
      | false => rfl
      | true => have := WideShapes.bytes_trans _ _ _ hb hc; rw [WideAt.bytes_irrefl] at this; cases this
    have ih := pt_set (f := f) h2 h
    rw [pt, dl_cons, if_neg hne, ins, if_neg (by rw [hnb]; decide), List.set_cons_succ, ← ih]
    rfl
/-- The files us the document has them: name, bytes, how many last. -/
def abs (fs : Fls) : List (Nm × List Int × Nat) := fs.map fun p => (p.1, p.2.zs, p.2.l)
def crA (k : Nat) (t : Int) (q : Nm × List Int × Nat) : Nm × List Int × Nat := (q.1, crB q.2.1 q.2.2 k t, crN q.2.1 q.2.2 k)
/-- The first i of the files crashed. -/
def crI (k : Nat) (t : Int) (i : Nat) (us : List (Nm × List Int × Nat)) : List (Nm × List Int × Nat) := us.mapIdx fun j q => if j < i then crA k t q else q
theorem crI_zero (k : Nat) (t : Int) (us : List (Nm × List Int × Nat)) : crI k t 0 us = us := by
  apply List.ext_getElem (by simp [crI])
  intro j h1 h2
  simp [crI]
theorem crI_all (k : Nat) (t : Int) (us : List (Nm × List Int × Nat)) : crI k t us.length us = us.map (crA k t) := by
  apply List.ext_getElem (by simp [crI])
  intro j h1 h2
  simp only [crI, List.getElem_mapIdx, List.getElem_map]
  rw [if_pos (by simpa [crI] using h1)]
theorem crI_step (k : Nat) (t : Int) (i : Nat) (us : List (Nm × List Int × Nat)) (q : Nm × List Int × Nat) (h : us[i]? = some q) : (crI k t i us).set i (crA k t q) = crI k t (i + 1) us := by
  apply List.ext_getElem (by simp [crI])
  intro j h1 h2
  simp only [crI, List.getElem_set, List.getElem_mapIdx]
  by_cases hj : i = j
  · subst hj
    rw [if_pos rfl, if_pos (by omega)]
    obtain ⟨_, e⟩ := List.getElem?_eq_some_iff.1 h
    rw [e]
  · rw [if_neg hj]
    by_cases hc : j < i
    · rw [if_pos hc, if_pos (by omega)]
    · rw [if_neg hc, if_neg (by omega)]
theorem crI_get (k : Nat) (t : Int) (i : Nat) (us : List (Nm × List Int × Nat)) : (crI k t i us)[i]? = us[i]? := by
  simp only [crI, List.getElem?_mapIdx]
  cases us[i]? <;> simp
theorem abs_set (fs : Fls) (i : Nat) (x : Nm) (f : Fl) : abs (fs.set i (x, f)) = (abs fs).set i (x, f.zs, f.l) := by simp [abs, List.map_set]
theorem abs_get (fs : Fls) (i : Nat) : (abs fs)[i]? = fs[i]?.map fun p => (p.1, p.2.zs, p.2.l) := by simp [abs]
theorem abs_length (fs : Fls) : (abs fs).length = fs.length := by simp [abs]
theorem abs_names (fs : Fls) : (abs fs).map (·.1) = nms fs := by simp [abs, nms, List.map_map, Function.comp_def]
theorem crI_names (k : Nat) (t : Int) (i : Nat) (us : List (Nm × List Int × Nat)) : (crI k t i us).map (·.1) = us.map (·.1) := by
  apply List.ext_getElem (by simp [crI])
  intro j h1 h2
  simp only [crI, List.getElem_map, List.getElem_mapIdx]
  split <;> rfl
theorem xb_byt {z t : Int} (hz : 0 ≤ z ∧ z < 256) (ht : 0 ≤ t ∧ t < 256) : 0 ≤ xb z t ∧ xb z t < 256 := by
  obtain ⟨a, rfl⟩ := Int.eq_ofNat_of_zero_le hz.1
  obtain ⟨b, rfl⟩ := Int.eq_ofNat_of_zero_le ht.1
  have e : xb (a : Int) (b : Int) = ((a ^^^ b : Nat) : Int) := u8_xor_nat a b (by omega) (by omega)
  have := Nat.xor_lt_two_pow (n := 8) (show a < 2 ^ 8 by omega) (show b < 2 ^ 8 by omega)
  rw [e]
  omega
theorem crB_byt {zs : List Int} {l k : Nat} {t : Int} (h : Byt zs) (ht : 0 ≤ t ∧ t < 256) : Byt (crB zs l k t) := by
  intro z hz
  simp only [crB, xq, List.mem_mapIdx] at hz
  obtain ⟨j, hj, rfl⟩ := hz
  have := h _ (List.mem_of_mem_take (List.getElem_mem hj))
  split
  · exact xb_byt this ht
  · exact this
theorem lk_of_mem : ∀ {fs : Fls} {x : Nm} {f : Fl}, fs.Pairwise (fun p q => p.1 ≠ q.1) → (x, f) ∈ fs → lk fs x = some f
  | [], _, _, _, h => by cases h
  | p :: r, x, f, hp, h => by
    obtain ⟨h1, h2⟩ := List.pairwise_cons.1 hp
    rw [lk_cons]
    rcases List.mem_cons.1 h with e | e
    · subst e; simp
    · rw [if_neg (h1 _ e)]
      exact lk_of_mem h2 e
theorem Dx.name_le (h : Dk w F sb mb room fs lit left) {p : Nm × Fl} (hp : p ∈ fs) : p.1.length ≤ maxLen := by
  cases mb with
  | none => rw [h.nn rfl] at hp; cases hp
  | some b =>
    refine strKeys_le (h.map b rfl).2 Tryz.underlying9 p.1 ?_
    rw [Dm_keys]
    exact List.mem_map.2 ⟨p, hp, rfl⟩
/-- What a crash leaves: the disk with the files crashed, all of which lasts, no fuse. -/
def CRes (F : Nat → Prop) (sb : Nat) (room : Int) (fs : Fls) (k : Nat) (t : Int) (w w' : World) : Prop := ∃ fs', abs fs' = (abs fs).map (crA k t) ∧ Res F sb room fs' false 0 w w'
theorem row_str {W : World} {base : Nat} {v : Value} {xs : List Nm} (h : W.ownsRow base 9 1 v xs.length (xs.map encStr)) : (v = .slice none 0 0 ∧ xs = []) ∨ ∃ g cap, v = .slice (some ⟨g, 0, none⟩) xs.length cap ∧ base ≤ g ∧ g < W.heap.size ∧ ∀ i x, xs[i]? = some x → W.cell? ⟨g, i, none⟩ = some (encStr x) := by
  rcases h.2 with ⟨h1, h2⟩ | ⟨g, cap, cur, h1, h2, h3, h4, h5, h6, h7⟩
  · exact Or.inl ⟨h1, List.eq_nil_of_length_eq_zero h2⟩
  · refine Or.inr ⟨g, cap, h1, h2, (Array.getElem?_eq_some_iff.1 h3).1, fun i x hx => ?_⟩
    have := World.ownsRow.cells h (g := g) (by rw [h1]; rfl) i (encStr x) (by simp [hx])
    simpa [Addr.add_lit] using this
set_option maxRecDepth 20000 in
set_option maxHeartbeats 1600000 in
theorem Crash_any (h : Dk w F sb mb room fs lit left) (keep t : Int) (hk : keep < 9223372036854775808) (ht : 0 ≤ t ∧ t < 256) :
    Calls Tryz.prog 20 #[.pointer (some ⟨sb, 0, none⟩), .int .i64 keep, .int .u8 t] w fun e w' => e = .returned (.tuple #[]) ∧ CRes F sb room fs keep.toNat t w w' := by
  have h0 : Dk w (fun k => F k ∧ k < w.heap.size) sb mb room fs lit left := h.more fun k hk hl => ⟨hk, hl⟩
  have hmax : max keep 0 = ((keep.toNat : Nat) : Int) := by omega
  have hkn : keep.toNat < 9223372036854775808 := by omega
  generalize keep.toNat = k at *
  have hnm : (nms fs).length = fs.length := by simp [nms]
  go_enter Tryz.func20, Tryz.ntmps20
  go_wp2_with fail
  refine (Names_any h0).mono ?_
  rintro e W1 ⟨v, rfl, hrow, B1⟩
  have h1 : Dk W1 (Pl (fun k => F k ∧ k < w.heap.size) W1.heap.size) sb mb room fs lit left := (h0.to B1).pl _
  have HG1 : Hid (Grows F w W1) := (Grows.refl F w).bel B1
  rw [← hnm] at hrow
  obtain ⟨g, cap, rfl, HROW⟩ : ∃ (g : Option Addr) (cap : Nat), v = .slice g fs.length cap ∧ Hid (fs = [] ∨ ∃ b, g = some ⟨b, 0, none⟩ ∧ w.heap.size ≤ b ∧ b < W1.heap.size ∧ ∀ i x, (nms fs)[i]? = some x → W1.cell? ⟨b, i, none⟩ = some (encStr x)) := by
    rcases row_str hrow with ⟨e1, e2⟩ | ⟨b, cap, e1, e2, e3, e4⟩
    · have e3 : fs = [] := by simpa [nms] using e2
      exact ⟨none, 0, by rw [e1, e3]; rfl, Or.inl e3⟩
    · exact ⟨_, cap, by rw [e1, hnm], Or.inr ⟨b, rfl, e2, e3, e4⟩⟩
  have HB1 : Hid (w.heap.size ≤ W1.heap.size) := B1.size
  have hcnt := h.cnt
  clear h h0 hrow B1 hnm
  go_wp2_with fail
  go_loopw [13] (fun iv wx => ∃ (i : Nat) (fs' : Fls) (mb' : Option Nat), i ≤ fs.length ∧ iv = .int .i64 (i : Int) ∧ Hid (abs fs' = crI k t i (abs fs)) ∧ Dk wx (Pl (fun k => F k ∧ k < w.heap.size) W1.heap.size) sb mb' room fs' lit left ∧ Grows (Pl (fun k => F k ∧ k < w.heap.size) W1.heap.size) W1 wx) (fun iv _ => fs.length - (intOf iv).toNat)
  case atStart => exact ⟨0, fs, mb, Nat.zero_le _, rfl, (crI_zero k t _).symm, h1, Grows.refl _ _⟩
  case round =>
    clear h1
    obtain ⟨i, fs', mb', hi, rfl, HA, hD, hG⟩ := hrel
    have hlen' : fs'.length = fs.length := by have e := congrArg List.length HA.out; simpa [abs, crI] using e
    by_cases hlt : i < fs.length
    · obtain ⟨b, rfl, hb1, hb2, hcell⟩ : ∃ b, g = some ⟨b, 0, none⟩ ∧ w.heap.size ≤ b ∧ b < W1.heap.size ∧ ∀ i x, (nms fs)[i]? = some x → W1.cell? ⟨b, i, none⟩ = some (encStr x) := by
        rcases HROW.out with e | e
        · rw [e] at hlt; simp at hlt
        · exact e
      obtain ⟨⟨x, f⟩, hget⟩ : ∃ p, fs'[i]? = some p := ⟨fs'[i]'(by omega), List.getElem?_eq_getElem (by omega)⟩
      have hnx : (nms fs)[i]? = some x := by
        have e := congrArg (fun l => (l.map (·.1))[i]?) HA.out
        simp only [crI_names, abs_names] at e
        rw [← e]
        simp [nms, hget]
      have hblk : wr.heap[b]? = W1.heap[b]? := hG.block b hb2 fun hk => by rcases hk with ⟨_, hk⟩ | hk <;> omega
      have hce : wr.cell? ⟨b, i, none⟩ = some (encStr x) := (World.cell?_of_block (w := W1) hblk).trans (hcell i x hnx)
      clear hcell hblk
      obtain ⟨c0, c1, c2, c3, c4⟩ := hD.cell
      have hmem : (x, f) ∈ fs' := List.mem_of_getElem? hget
      have hlk : lk fs' x = some f := lk_of_mem hD.diff hmem
      have hxl := hD.name_le hmem
      have hat : at0 fs' x = f := by simp only [at0, hlk]
      obtain ⟨ao, cp, hfv⟩ := at0_form' hD x
      rw [hat] at hfv
      have hrun := look_no hD x hxl
      rw [hat, Fl.val, hfv] at hrun
      obtain ⟨r1, r2, r3, r4⟩ := hD.rows _ hmem
      have hfl : f.zs.length ≤ 1073741824 := by have := tot_at0 hD x; rw [hat] at this; exact this
      have r1' : Ow wr 0 (.slice ao f.zs.length cp) f.zs := by rw [← hfv]; exact r1
      have hcr := crashed_any ao cp f.zs f.l k t wr r1' r2 hfl hkn
      have hasi : (abs fs)[i]? = some (x, f.zs, f.l) := by
        have e := crI_get k t i (abs fs)
        rw [← HA.out, abs_get, hget] at e
        exact e.symm
      have hbl := crB_length f.zs f.l k t r2
      have hnl := crN_le f.zs f.l k r2
      have hby := crB_byt (l := f.l) (k := k) r3 ht
      have hstep : abs (pt fs' x ⟨.slice none 0 0, crB f.zs f.l k t, crN f.zs f.l k⟩) = crI k t (i + 1) (abs fs) := by
        rw [pt_set hD.rising hget, abs_set, HA.out, ← crI_step k t i (abs fs) _ hasi]
        rfl
      have hvind : ∀ v, abs (pt fs' x ⟨v, crB f.zs f.l k t, crN f.zs f.l k⟩) = crI k t (i + 1) (abs fs) := fun v => by
        rw [← hstep, pt_set hD.rising hget, pt_set hD.rising hget, abs_set, abs_set]
      have HV := hid_into hvind
      have HBL := hid_into hbl
      have HNL := hid_into hnl
      have HBY := hid_into hby
      generalize crB f.zs f.l k t = ys at *
      generalize crN f.zs f.l k = n at *
      have HCR := hid_into hcr
      have HHL := hid_into hlen'
      clear hcr hstep hvind hbl hnl hby hasi r4 r1 r1' HA hlen'
      go_wp2_with fail
      refine HCR.out.mono ?_
      rintro e W3 ⟨ao3, cap3, rfl, ho3, B3⟩
      have h3 := hD.to B3
      have hown3 : ∀ j, (Value.slice ao3 n cap3).ownBlock = some j → wr.heap.size ≤ j := fun j hj => ho3.base_le hj
      have HS : Hid (W1.heap.size ≤ wr.heap.size) := hG.size
      have hp := put_any (f := ⟨.slice ao3 n cap3, ys, n⟩) (x := x) (h3.ex _) hxl (ho3.mono (Nat.zero_le _)) (by rw [HBL.out]; exact Nat.le_refl _) HBY.out (fun j hj => Or.inr (Nat.le_trans HS.out (hown3 j hj)))
        (fun q hq _ => by
          cases ho : (Value.slice ao3 n cap3).ownBlock with
          | none => exact Or.inl rfl
          | some j =>
            refine Or.inr fun e => ?_
            have := ((hD.rows q hq).1.lt e.symm).1
            have := hown3 j ho
            omega)
        (hD.fits_same hlk (by rw [HBL.out]; exact HNL.out)) (Nat.le_trans (len_pt_of hlk) hD.cnt)
      simp only [Fl.val] at hp
      have HP := hid_into hp
      have HG3 : Hid (Grows (Pl (fun k => F k ∧ k < w.heap.size) W1.heap.size) W1 W3) := hG.bel B3
      have HB3 : Hid (wr.heap.size ≤ W3.heap.size) := B3.size
      clear hp hown3 ho3 hG h3 B3
      go_wp2_with fail
      refine HP.out.mono ?_
      rintro e W5 ⟨rfl, mb5, h5, hG5⟩
      have HG5 : Hid (Grows (Pl (fun k => F k ∧ k < w.heap.size) W1.heap.size) W1 W5) := HG3.out.trans hG5 fun _ hk => Or.inl hk
      have h5' : Dk W5 (Pl (fun k => F k ∧ k < w.heap.size) W1.heap.size) sb mb5 room (pt fs' x ⟨.slice ao3 n cap3, ys, n⟩) lit left := h5.plpl (Nat.le_trans HS.out HB3.out)
      clear hG5 h5 HP hD
      go_wp2_with fail
      go_roundw
      case rel => exact ⟨i + 1, _, mb5, by omega, by go_num, HV.out _, h5', HG5.out⟩
      case measure => simp [intOf]; omega
    · have HI : Hid (i = fs.length) := by show _ = _; omega
      obtain ⟨c0, c1, c2, c3, c4⟩ := hD.cell
      have f3 := hD.cells.frozen 3
      have f4 := hD.cells.frozen 4
      have HD := hid_into (hD.setFuse false 0 (by decide))
      have HG2 : Hid (Grows F w ((wr.setCell ⟨sb, 3, none⟩ (.bool false)).setCell ⟨sb, 4, none⟩ (.int .i64 0))) :=
        (HG1.out.trans hG fun k hk => by
          rcases hk with hk | hk
          · exact Or.inl hk.1
          · exact Or.inr (Nat.le_trans HB1.out hk)).trans ((Grows.setCell (F := Pl (fun k => F k ∧ k < w.heap.size) W1.heap.size) _ _ _ hD.sF).trans (Grows.setCell _ _ _ hD.sF) fun _ hk => Or.inl hk) fun k hk => by
          rcases hk with hk | hk
          · exact Or.inl hk.1
          · exact Or.inr (Nat.le_trans HB1.out hk)
      clear hD hG
      go_wp2_with fail
      go_end0
      refine ⟨rfl, fs', ?_, mb', HD.out.more fun k hk _ => ?_, HG2.out⟩
      · rw [HA.out, HI.out, ← abs_length fs, crI_all]
      · rcases hk with hk | hk
        · exact Or.inl hk.1
        · exact Or.inr (Nat.le_trans HB1.out hk)
end Go.Proofs.YtnkjhooeklodcaaGreatDoor
end
