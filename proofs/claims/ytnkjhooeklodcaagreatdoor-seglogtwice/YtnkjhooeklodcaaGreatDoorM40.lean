/-
  Joined from: SegBack.
-/
import Derived.RangeFuncNested
import Derived.RangeFuncBound
import Derived.RangeFuncCalls
import Derived.RangeFuncLeaves
import Derived.Shelf.Abstract
import Derived.Shelf.RegionOpen
import Derived.WalkKit
import Derived.OwnWalkIn
import Derived.TacticsInMore
import Derived.LoopNIn
import Derived.LoopIn
import Derived.Test.YtnkjhooeklodcaaGreatDoorM25
section
/-
  slices.Backward over names: its closure's contract, for every loop body that keeps the row.
-/
namespace Go.Proofs.YtnkjhooeklodcaaGreatDoor
open Go.RowKit Go.Shelf Go.Sort

attribute [local go_sem] Oper.semAt_some

abbrev Al := Nat × { s : List UInt8 // s.length ≤ maxLen }
structure Kp (n₀ : Nat) (X : Nat → Prop) (w w' : World) : Prop where
  size : w.heap.size ≤ w'.heap.size
  block : ∀ k, k < n₀ → ¬ X k → w'.heap[k]? = w.heap[k]?
theorem Kp.refl (n₀ : Nat) (X : Nat → Prop) (w : World) : Kp n₀ X w w := ⟨Nat.le_refl _, fun _ _ _ => rfl⟩
theorem Kp.trans {n₀ : Nat} {X : Nat → Prop} {a b c : World} (h : Kp n₀ X a b) (k : Kp n₀ X b c) : Kp n₀ X a c := ⟨Nat.le_trans h.size k.size, fun j hj hx => (k.block j hj hx).trans (h.block j hj hx)⟩
theorem Kp.cell {n₀ : Nat} {X : Nat → Prop} {w w' : World} (h : Kp n₀ X w w') {b i : Nat} {v : Value} (hb : b < n₀) (hx : ¬ X b) (hc : w.cell? ⟨b, i, none⟩ = some v) : w'.cell? ⟨b, i, none⟩ = some v := by
  rw [World.cell?_of_block (w := w) (h.block b hb hx)]; exact hc
set_option maxRecDepth 100000 in
set_option maxHeartbeats 2000000 in
theorem back1_in (F : Fence) (n : Nat) (h130 : F.fn 130) (hro : F.round = none) (hn : 1 ≤ n) (l Bs n₀ b off cap : Nat) (X : Nat → Prop) (ys : List Al) (hlen : ys.length ≤ 1000000) (hBs : Bs < n₀ ∧ ¬ X Bs) (hb : b < n₀ ∧ ¬ X b) (J Jx : List Al → World → Prop)
    (hY : ∀ pre x W, J pre W → pre.length < ys.length → YieldAt F (n - 1) Tryz.prog l #[.int .i64 (x.1 : Int), encStr x.2.1] W fun e W' =>
      (e = .returned (.bool true) ∧ J (pre ++ [x]) W' ∧ Kp n₀ X W W') ∨ (e = .returned (.bool false) ∧ Jx (pre ++ [x]) W'))
    (W : World) (hW : W.cell? ⟨Bs, 0, none⟩ = some (.slice (some ⟨b, off, none⟩) ys.length cap)) (hc : ∀ k x, ys[k]? = some x → x.1 + k + 1 = ys.length ∧ W.cell? ⟨b, off + x.1, none⟩ = some (encStr x.2.1)) (h0 : J [] W) :
    CallsIn F n Tryz.prog 130 #[.func (.yield l) #[] #[], .pointer (some ⟨Bs, 0, none⟩)] W fun e W' => (∃ v, e = .returned v) ∧
      ((∃ zs, zs = ys ∧ J zs W') ∨ (∃ pre, (∃ k, k ≤ ys.length ∧ pre = ys.take k) ∧ Jx pre W')) := by
  refine callsIn_of_wp Tryz.func130 rfl h130 ?_ hro
  simp only [Tryz.ntmps130, List.size_toArray, List.length_cons, List.length_nil, Nat.reduceAdd, Nat.reduceSub, Array.replicate_succ, Array.replicate_zero, List.push_toArray, List.append_toArray, List.nil_append, List.cons_append]
  have q0 : IntKind.i64.wrap ((ys.length : Int) - 1) = (ys.length : Int) - 1 := by rw [IntKind.wrap_i64]; omega
  have HC := hid_into hc
  have HY := hid_into hY
  clear hc hY
  gi_wp2
  gi_loopw [3] (fun i wr => ∃ k : Nat, ∃ z : Int, k ≤ ys.length ∧ i = .int .i64 z ∧ z + k + 1 = (ys.length : Int) ∧ J (ys.take k) wr ∧ Kp n₀ X W wr)
    (fun i _ => (intOf i + 1).toNat)
  case atStart => exact ⟨0, (ys.length : Int) - 1, Nat.zero_le _, rfl, by omega, by simpa using h0, Kp.refl _ _ _⟩
  case round =>
    obtain ⟨k, z, hk, rfl, hz, hJs, hnx⟩ := hrel
    by_cases hlt : k < ys.length
    · obtain ⟨x, hx⟩ : ∃ x, ys[k]? = some x := ⟨_, List.getElem?_eq_getElem hlt⟩
      obtain ⟨hx1, hx2⟩ := HC.out k x hx
      obtain rfl : z = (x.1 : Int) := by omega
      obtain ⟨fn, tmps, assign, body, hy, hR⟩ := HY.out _ x wr hJs (by rw [List.length_take]; omega)
      have HTK : Hid (ys.take (k + 1) = ys.take k ++ [x]) := by show _ = _; rw [List.take_add_one, hx]; rfl
      have hcx := hnx.cell hb.1 hb.2 hx2
      have hcb := hnx.cell hBs.1 hBs.2 hW
      have g0 : (0 : Int) ≤ (x.1 : Int) := by omega
      have g1 : (x.1 : Int) < (ys.length : Int) := by omega
      have q1 : IntKind.i64.wrap ((x.1 : Int) - 1) = (x.1 : Int) - 1 := by rw [IntKind.wrap_i64]; omega
      clear hx2 hx HC HY
      gi_wp2
      refine hR.mono ?_
      rintro e W3 (⟨rfl, hJ3, hk3⟩ | ⟨rfl, hJx3⟩)
      · gi_wp2
        go_roundw
        case rel => exact ⟨k + 1, (x.1 : Int) - 1, by omega, by go_num, by omega, by rw [HTK.out]; exact hJ3, hnx.trans hk3⟩
        case measure => simp [intOf] <;> omega
      · gi_wp2
        refine bodyPost_ret (results_none rfl _ _ _) rfl ?_
        exact ⟨⟨_, rfl⟩, .inr ⟨_, ⟨k + 1, by omega, HTK.out.symm⟩, hJx3⟩⟩
    · obtain rfl : k = ys.length := by omega
      obtain rfl : z = -1 := by omega
      rw [List.take_of_length_le (Nat.le_refl _)] at hJs
      gi_wp2
      go_end0
      exact ⟨⟨_, rfl⟩, .inl ⟨_, rfl, hJs⟩⟩
set_option maxRecDepth 100000 in
set_option maxHeartbeats 2000000 in
theorem back1_nil_in (F : Fence) (n : Nat) (h130 : F.fn 130) (hro : F.round = none) (l Bs : Nat) (ao : Option Addr) (cap : Nat) (J : List Al → World → Prop) (W : World) (hW : W.cell? ⟨Bs, 0, none⟩ = some (.slice ao 0 cap)) (h0 : J [] W) :
    CallsIn F n Tryz.prog 130 #[.func (.yield l) #[] #[], .pointer (some ⟨Bs, 0, none⟩)] W fun e W' => (∃ v, e = .returned v) ∧ J [] W' := by
  refine callsIn_of_wp Tryz.func130 rfl h130 ?_ hro
  simp only [Tryz.ntmps130, List.size_toArray, List.length_cons, List.length_nil, Nat.reduceAdd, Nat.reduceSub, Array.replicate_succ, Array.replicate_zero, List.push_toArray, List.append_toArray, List.nil_append, List.cons_append]
  gi_wp2
  gi_loopw [3] (fun i wr => i = .int .i64 (-1) ∧ J [] wr) (fun _ _ => 0)
  case atStart => exact ⟨rfl, h0⟩
  case round =>
    obtain ⟨rfl, hJs⟩ := hrel
    gi_wp2
    go_end0
    exact ⟨⟨_, rfl⟩, hJs⟩
set_option maxHeartbeats 1000000 in
theorem back_in (F : Fence) (n : Nat) (h112 : F.fn 112) (hro : F.round = none) (a : Option Addr) (len cap : Nat) (w : World) :
    CallsIn F n Tryz.prog 112 #[.slice a len cap] w fun e w' => e = .returned (.func (.func 130) #[] #[.pointer (some ⟨w.heap.size, 0, none⟩)]) ∧ w' = w.alloc (.cells #[.slice a len cap] 69) := by
  refine callsIn_of_wp Tryz.func112 rfl h112 ?_ hro
  simp only [Tryz.ntmps112, List.size_toArray, List.length_cons, List.length_nil, Nat.reduceAdd, Nat.reduceSub, Array.replicate_succ, Array.replicate_zero, List.push_toArray, List.append_toArray, List.nil_append, List.cons_append]
  gi_wp2
  go_ret
  exact ⟨rfl, rfl⟩
structure Bk (n₀ : Nat) (X : Nat → Prop) (W : World) (sv : Value) (ys : List Al) : Prop where
  form : ∃ ao cap, sv = .slice ao ys.length cap
  few : ys.length ≤ 1000000
  cells : ys ≠ [] → ∃ b off cap, sv = .slice (some ⟨b, off, none⟩) ys.length cap ∧ b < n₀ ∧ ¬ X b ∧ ∀ k x, ys[k]? = some x → x.1 + k + 1 = ys.length ∧ W.cell? ⟨b, off + x.1, none⟩ = some (encStr x.2.1)
theorem back_stops (F : Fence) (n : Nat) (h130 : F.fn 130) (hro : F.round = none) (hn : 1 ≤ n) (Bs n₀ : Nat) (X : Nat → Prop) (sv : Value) (ys : List Al) (w : World) (hBs : Bs < n₀ ∧ ¬ X Bs) (hn₀ : n₀ ≤ w.heap.size)
    (hc : w.cell? ⟨Bs, 0, none⟩ = some sv) (hI : Bk n₀ X w sv ys) :
    SeqStopsK F n Tryz.prog 130 #[.pointer (some ⟨Bs, 0, none⟩)] (fun x : Al => #[Value.int .i64 (x.1 : Int), encStr x.2.1]) (Kp n₀ X) (fun zs => zs = ys) (fun pre => ∃ k, k ≤ ys.length ∧ pre = ys.take k) ys.length w := fun l J Jx W hW _ _ hY h0 => by
  have hc' := (hW.cell (p := ⟨Bs, 0, none⟩) (Nat.lt_of_lt_of_le hBs.1 hn₀)).trans hc
  by_cases hne : ys = []
  · subst hne
    obtain ⟨ao, cap, rfl⟩ := hI.form
    exact (back1_nil_in F n h130 hro l Bs ao cap J W hc' h0).mono fun e W' ⟨he, hj⟩ => ⟨he, .inl ⟨_, rfl, hj⟩⟩
  · obtain ⟨b, off, cap, rfl, hb, hx, hcs⟩ := hI.cells hne
    exact back1_in F n h130 hro hn l Bs n₀ b off cap X ys hI.few hBs ⟨hb, hx⟩ J Jx hY W hc' (fun k x hk => ⟨(hcs k x hk).1, (hW.cell (p := ⟨b, off + x.1, none⟩) (Nat.lt_of_lt_of_le hb hn₀)).trans (hcs k x hk).2⟩) h0
end Go.Proofs.YtnkjhooeklodcaaGreatDoor
end
