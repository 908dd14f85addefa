/-
  Joined from: SegBack, SegRm.
-/
import Derived.RangeFuncNested
import Derived.RangeFuncBound
import Derived.RangeFuncCalls
import Derived.RangeFuncLeaves
import Derived.Shelf.Abstract
import Derived.Shelf.RegionOpen
import Derived.WalkKit
import Derived.OwnWalkIn
import Derived.TacticsInMore
import Derived.LoopNIn
import Derived.LoopIn
import Derived.Test.YtnkjhooeklodcaaGreatDoorM16
import Derived.Test.YtnkjhooeklodcaaGreatDoorM23
section
/-
  slices.Backward over names: its closure's contract, for every loop body that keeps the row.
-/
namespace Go.Proofs.YtnkjhooeklodcaaGreatDoor
open Go.RowKit Go.Shelf Go.Sort

attribute [local go_sem] Oper.semAt_some

/-- What Backward yields: an index and a name. -/
abbrev Al := Nat × { s : List UInt8 // s.length ≤ maxLen }
/-- What lay below n₀ lies as it lay, but for the blocks of X. -/
structure Kp (n₀ : Nat) (X : Nat → Prop) (w w' : World) : Prop where
  size : w.heap.size ≤ w'.heap.size
  block : ∀ k, k < n₀ → ¬ X k → w'.heap[k]? = w.heap[k]?
theorem Kp.refl (n₀ : Nat) (X : Nat → Prop) (w : World) : Kp n₀ X w w := ⟨Nat.le_refl _, fun _ _ _ => rfl⟩
theorem Kp.trans {n₀ : Nat} {X : Nat → Prop} {a b c : World} (h : Kp n₀ X a b) (k : Kp n₀ X b c) : Kp n₀ X a c := ⟨Nat.le_trans h.size k.size, fun j hj hx => (k.block j hj hx).trans (h.block j hj hx)⟩
theorem Kp.cell {n₀ : Nat} {X : Nat → Prop} {w w' : World} (h : Kp n₀ X w w') {b i : Nat} {v : Value} (hb : b < n₀) (hx : ¬ X b) (hc : w.cell? ⟨b, i, none⟩ = some v) : w'.cell? ⟨b, i, none⟩ = some v := by
  rw [World.cell?_of_block (w := w) (h.block b hb hx)]; exact hc
set_option maxRecDepth 100000 in
set_option maxHeartbeats 2000000 in
theorem back1_in (F : Fence) (n : Nat) (h130 : F.fn 130) (hro : F.round = none) (hn : 1 ≤ n) (l Bs n₀ b off cap : Nat) (X : Nat → Prop) (ys : List Al) (hlen : ys.length ≤ 1000000) (hBs : Bs < n₀ ∧ ¬ X Bs) (hb : b < n₀ ∧ ¬ X b) (J Jx : List Al → World → Prop)
    (hY : ∀ pre x W, J pre W → pre.length < ys.length → YieldAt F (n - 1) Tryz.prog l #[.int .i64 (x.1 : Int), encStr x.2.1] W fun e W' =>
      (e = .returned (.bool true) ∧ J (pre ++ [x]) W' ∧ Kp n₀ X W W') ∨ (e = .returned (.bool false) ∧ Jx (pre ++ [x]) W'))
    (W : World) (hW : W.cell? ⟨Bs, 0, none⟩ = some (.slice (some ⟨b, off, none⟩) ys.length cap)) (hc : ∀ k x, ys[k]? = some x → x.1 + k + 1 = ys.length ∧ W.cell? ⟨b, off + x.1, none⟩ = some (encStr x.2.1)) (h0 : J [] W) :
    CallsIn F n Tryz.prog 130 #[.func (.yield l) #[] #[], .pointer (some ⟨Bs, 0, none⟩)] W fun e W' => (∃ v, e = .returned v) ∧
      ((∃ zs, zs = ys ∧ J zs W') ∨ (∃ pre, (∃ k, k ≤ ys.length ∧ pre = ys.take k) ∧ Jx pre W')) := by
  refine callsIn_of_wp Tryz.func130 rfl h130 ?_ hro
  simp only [Tryz.ntmps130, List.size_toArray, List.length_cons, List.length_nil, Nat.reduceAdd, Nat.reduceSub, Array.replicate_succ, Array.replicate_zero, List.push_toArray, List.append_toArray, List.nil_append, List.cons_append]
  have q0 : IntKind.i64.wrap ((ys.length : Int) - 1) = (ys.length : Int) - 1 := by rw [IntKind.wrap_i64]; omega
  have HC := hid_into hc
  have HY := hid_into hY
  clear hc hY
  gi_wp2
  gi_loopw [3] (fun i wr => ∃ k : Nat, ∃ z : Int, k ≤ ys.length ∧ i = .int .i64 z ∧ z + k + 1 = (ys.length : Int) ∧ J (ys.take k) wr ∧ Kp n₀ X W wr)
    (fun i _ => (intOf i + 1).toNat)
  case atStart => exact ⟨0, (ys.length : Int) - 1, Nat.zero_le _, rfl, by omega, by simpa using h0, Kp.refl _ _ _⟩
  case round =>
    obtain ⟨k, z, hk, rfl, hz, hJs, hnx⟩ := hrel
    by_cases hlt : k < ys.length
    · obtain ⟨x, hx⟩ : ∃ x, ys[k]? = some x := ⟨_, List.getElem?_eq_getElem hlt⟩
      obtain ⟨hx1, hx2⟩ := HC.out k x hx
      obtain rfl : z = (x.1 : Int) := by omega
      obtain ⟨fn, tmps, assign, body, hy, hR⟩ := HY.out _ x wr hJs (by rw [List.length_take]; omega)
      have HTK : Hid (ys.take (k + 1) = ys.take k ++ [x]) := by show _ = _; rw [List.take_add_one, hx]; rfl
      have hcx := hnx.cell hb.1 hb.2 hx2
      have hcb := hnx.cell hBs.1 hBs.2 hW
      have g0 : (0 : Int) ≤ (x.1 : Int) := by omega
      have g1 : (x.1 : Int) < (ys.length : Int) := by omega
      have q1 : IntKind.i64.wrap ((x.1 : Int) - 1) = (x.1 : Int) - 1 := by rw [IntKind.wrap_i64]; omega
      clear hx2 hx HC HY
      gi_wp2
      refine hR.mono ?_
      rintro e W3 (⟨rfl, hJ3, hk3⟩ | ⟨rfl, hJx3⟩)
      · gi_wp2
        go_roundw
        case rel => exact ⟨k + 1, (x.1 : Int) - 1, by omega, by go_num, by omega, by rw [HTK.out]; exact hJ3, hnx.trans hk3⟩
        case measure => simp [intOf] <;> omega
      · gi_wp2
        refine bodyPost_ret (results_none rfl _ _ _) rfl ?_
        exact ⟨⟨_, rfl⟩, .inr ⟨_, ⟨k + 1, by omega, HTK.out.symm⟩, hJx3⟩⟩
    · obtain rfl : k = ys.length := by omega
      obtain rfl : z = -1 := by omega
      rw [List.take_of_length_le (Nat.le_refl _)] at hJs
      gi_wp2
      go_end0
      exact ⟨⟨_, rfl⟩, .inl ⟨_, rfl, hJs⟩⟩
set_option maxRecDepth 100000 in
set_option maxHeartbeats 2000000 in
theorem back1_nil_in (F : Fence) (n : Nat) (h130 : F.fn 130) (hro : F.round = none) (l Bs : Nat) (ao : Option Addr) (cap : Nat) (J : List Al → World → Prop) (W : World) (hW : W.cell? ⟨Bs, 0, none⟩ = some (.slice ao 0 cap)) (h0 : J [] W) :
    CallsIn F n Tryz.prog 130 #[.func (.yield l) #[] #[], .pointer (some ⟨Bs, 0, none⟩)] W fun e W' => (∃ v, e = .returned v) ∧ J [] W' := by
  refine callsIn_of_wp Tryz.func130 rfl h130 ?_ hro
  simp only [Tryz.ntmps130, List.size_toArray, List.length_cons, List.length_nil, Nat.reduceAdd, Nat.reduceSub, Array.replicate_succ, Array.replicate_zero, List.push_toArray, List.append_toArray, List.nil_append, List.cons_append]
  gi_wp2
  gi_loopw [3] (fun i wr => i = .int .i64 (-1) ∧ J [] wr) (fun _ _ => 0)
  case atStart => exact ⟨rfl, h0⟩
  case round =>
    obtain ⟨rfl, hJs⟩ := hrel
    gi_wp2
    go_end0
    exact ⟨⟨_, rfl⟩, hJs⟩
set_option maxHeartbeats 1000000 in
theorem back_in (F : Fence) (n : Nat) (h112 : F.fn 112) (hro : F.round = none) (a : Option Addr) (len cap : Nat) (w : World) :
    CallsIn F n Tryz.prog 112 #[.slice a len cap] w fun e w' => e = .returned (.func (.func 130) #[] #[.pointer (some ⟨w.heap.size, 0, none⟩)]) ∧ w' = w.alloc (.cells #[.slice a len cap] 69) := by
  refine callsIn_of_wp Tryz.func112 rfl h112 ?_ hro
  simp only [Tryz.ntmps112, List.size_toArray, List.length_cons, List.length_nil, Nat.reduceAdd, Nat.reduceSub, Array.replicate_succ, Array.replicate_zero, List.push_toArray, List.append_toArray, List.nil_append, List.cons_append]
  gi_wp2
  go_ret
  exact ⟨rfl, rfl⟩
/-- The names of a slice, from the last one on, as Backward yields them. -/
structure Bk (n₀ : Nat) (X : Nat → Prop) (W : World) (sv : Value) (ys : List Al) : Prop where
  form : ∃ ao cap, sv = .slice ao ys.length cap
  few : ys.length ≤ 1000000
  cells : ys ≠ [] → ∃ b off cap, sv = .slice (some ⟨b, off, none⟩) ys.length cap ∧ b < n₀ ∧ ¬ X b ∧ ∀ k x, ys[k]? = some x → x.1 + k + 1 = ys.length ∧ W.cell? ⟨b, off + x.1, none⟩ = some (encStr x.2.1)
theorem back_stops (F : Fence) (n : Nat) (h130 : F.fn 130) (hro : F.round = none) (hn : 1 ≤ n) (Bs n₀ : Nat) (X : Nat → Prop) (sv : Value) (ys : List Al) (w : World) (hBs : Bs < n₀ ∧ ¬ X Bs) (hn₀ : n₀ ≤ w.heap.size)
    (hc : w.cell? ⟨Bs, 0, none⟩ = some sv) (hI : Bk n₀ X w sv ys) :
    SeqStopsK F n Tryz.prog 130 #[.pointer (some ⟨Bs, 0, none⟩)] (fun x : Al => #[Value.int .i64 (x.1 : Int), encStr x.2.1]) (Kp n₀ X) (fun zs => zs = ys) (fun pre => ∃ k, k ≤ ys.length ∧ pre = ys.take k) ys.length w := fun l J Jx W hW _ _ hY h0 => by
  have hc' := (hW.cell (p := ⟨Bs, 0, none⟩) (Nat.lt_of_lt_of_le hBs.1 hn₀)).trans hc
  by_cases hne : ys = []
  · subst hne
    obtain ⟨ao, cap, rfl⟩ := hI.form
    exact (back1_nil_in F n h130 hro l Bs ao cap J W hc' h0).mono fun e W' ⟨he, hj⟩ => ⟨he, .inl ⟨_, rfl, hj⟩⟩
  · obtain ⟨b, off, cap, rfl, hb, hx, hcs⟩ := hI.cells hne
    exact back1_in F n h130 hro hn l Bs n₀ b off cap X ys hI.few hBs ⟨hb, hx⟩ J Jx hY W hc' (fun k x hk => ⟨(hcs k x hk).1, (hW.cell (p := ⟨b, off + x.1, none⟩) (Nat.lt_of_lt_of_le hb hn₀)).trans (hcs k x hk).2⟩) h0
end Go.Proofs.YtnkjhooeklodcaaGreatDoor
end

section
/-
  Remove once more: the disk has no new block behind it (a loop over a function that removes wants it so).
-/
namespace Go.Proofs.YtnkjhooeklodcaaGreatDoor
open Go.RowKit Go.Maps Go.Sort
section
variable {X : Nm → Prop} {w w' : World} {F : Nat → Prop} {sb : Nat} {mb : Option Nat} {room : Int} {fs : Fls} {lit : Bool} {left : Int}

set_option maxRecDepth 20000 in
set_option maxHeartbeats 1600000 in
theorem remove_anyM (h : Dk w F sb mb room fs lit left) (x : Nm) (hx : x.length ≤ maxLen) (o p n : Value) :
    Calls Tryz.prog 131 #[.agg #[.pointer (some ⟨sb, 0, none⟩), encStr x, o, p, n]] w fun e w' => e = .returned (.int .i64 (none7 fs x)) ∧ Dk w' (Pl F w.heap.size) sb mb room (dl fs x) lit left ∧ Grows F w w' := by
  obtain ⟨ao, cap, hf⟩ := at0_form' h x
  go_enter Tryz.func131, Tryz.ntmps131
  refine wp_seq (wp_region_lit (wpList_box_row rfl 118 (.tmp 0) rfl [.pointer (some ⟨sb, 0, none⟩), encStr x, o, p, n] rfl ?_))
  intro W1 hc1 B1 HS1
  have h1 : Dk W1 (Pl F w.heap.size) sb mb room fs lit left := (h.to B1).pl _
  have HLS : Hid (∀ W, Below W1.heap.size W1 W → LookS w.heap.size sb mb x (.agg #[.slice ao (at0 fs x).zs.length cap, .int .i64 ((at0 fs x).l : Int)]) (lk fs x).isSome W) := fun W hW => by
    have := LookS.of h1 hx hc1 hW
    rw [Fl.val, hf] at this
    exact this
  have hz67 := zero67
  go_upto_region 1 with fail
  go_cut [3, 4] (fun pv tv wx => pv = .pointer (some ⟨W1.heap.size, 0, none⟩) ∧ tv = .bool (lk fs x).isSome ∧ Cw wx W1.heap.size [.slice ao (at0 fs x).zs.length cap, .int .i64 ((at0 fs x).l : Int)] 106 ∧ Below W1.heap.size W1 wx)
  case first =>
    go_region_held3 (fun W => W.cell? ⟨w.heap.size, 0, none⟩ = some (.pointer (some ⟨sb, 0, none⟩)) ∧ W.cell? ⟨w.heap.size, 1, none⟩ = some (encStr x) ∧ W.cell? ⟨sb, 2, none⟩ = some (.map mb) ∧
      (Instr.lookup 86 (.map mb) (encStr x) true).run Tryz.prog W = .ok (.tuple #[.agg #[.slice ao (at0 fs x).zs.length cap, .int .i64 ((at0 fs x).l : Int)], .bool (lk fs x).isSome]) W)
      (first | exact HLS.out _ (Below.refl _ _).drew | exact HLS.out _ ((Below.refl _ _).drew.alloc (Nat.le_refl _) _))
      (fail)
    all_goals
      go_wp2_with fail
      go_meet
      exact ⟨rfl, rfl, Cw.new _ _ _, ((Below.refl _ _).alloc (Nat.le_refl _) _).drew⟩
  case rest =>
    rename World => W2
    obtain ⟨rfl, rfl, hc2, B2⟩ := hcut
    have hc12 := hc1.below B2 hc1.lt
    have h2 := h1.to B2
    have d0 : W2.cell? ⟨w.heap.size, 0, none⟩ = some (.pointer (some ⟨sb, 0, none⟩)) := by rw [hc12.cell]; rfl
    have d1 : W2.cell? ⟨w.heap.size, 1, none⟩ = some (encStr x) := by rw [hc12.cell]; rfl
    have d2 : W2.cell? ⟨w.heap.size, 2, none⟩ = some o := by rw [hc12.cell]; rfl
    have d3 : W2.cell? ⟨w.heap.size, 3, none⟩ = some p := by rw [hc12.cell]; rfl
    have d4 : W2.cell? ⟨w.heap.size, 4, none⟩ = some n := by rw [hc12.cell]; rfl
    have g0 : W2.cell? ⟨W1.heap.size, 0, none⟩ = some (.slice ao (at0 fs x).zs.length cap) := by rw [hc2.cell]; rfl
    have g1 : W2.cell? ⟨W1.heap.size, 1, none⟩ = some (.int .i64 ((at0 fs x).l : Int)) := by rw [hc2.cell]; rfl
    have HG2 : Hid (Grows F w W2) := ((Grows.refl F w).bel B1).bel B2
    have hlt := hc1.lt
    clear HLS hz67 h hc1 B1
    cases hl : lk fs x with
    | none =>
      go_wp2_with fail
      go_ret
      exact ⟨by simp [none7, hl], by rw [dl_of_none (lk_none hl)]; exact h2, HG2.out⟩
    | some f =>
      have hp := drop_any h2 x hx
      go_wp2_with fail
      refine hp.mono ?_
      rintro e W4 ⟨rfl, h4, hG4, _⟩
      have HG4 : Hid (Grows F w W4) := HG2.out.pl hG4
      clear hG4
      go_wp2_with fail
      go_ret
      exact ⟨by simp [none7, hl], h4, HG4.out⟩
/-- What the gate leaves where it is gone through. -/
def GResM (P : Int → Fls → Prop) (mb : Option Nat) (F : Nat → Prop) (sb : Nat) (room : Int) (lit : Bool) (left : Int) (w : World) (e : Ending) (w' : World) : Prop :=
  ∃ ev fs', P ev fs' ∧ e = .returned (.int .i64 ev) ∧ Dk w' (Pl F w.heap.size) sb mb room fs' lit (burnL ev lit left) ∧ Grows F w w'
set_option maxHeartbeats 800000 in
theorem gate_doM (P : Int → Fls → Prop) (h : Dk w F sb mb room fs lit left) (fn : FuncId) (en : ∀ (args : Array Value) (w : World), (callFunc fn args).run Tryz.prog w = .ok (.enter fn args) w) (sa sv : Value) (hb : burntB lit left = false) (hn : ∀ w1, Below w.heap.size w w1 → Calls Tryz.prog 94 #[sv, .func (.func 95) #[] #[]] w1 fun e w' => e = .returned (.bool false) ∧ w' = w1)
    (hdo : ∀ w1, Below w.heap.size w w1 → Calls Tryz.prog fn #[sa] w1 fun e w' => ∃ ev fs', P ev fs' ∧ e = .returned (.int .i64 ev) ∧ Dk w' (Pl F w1.heap.size) sb mb room fs' lit left ∧ Grows F w1 w') :
    Calls Tryz.prog 66 #[.pointer (some ⟨sb, 0, none⟩), .func (.func fn) #[sa] #[], sv] w fun e w' => GResM P mb F sb room lit left w e w' := by
  obtain ⟨c0, c1, c2, c3, c4⟩ := h.cell
  have HN := hid_into hn
  have HD := hid_into hdo
  clear hn hdo
  go_enter Tryz.func66, Tryz.ntmps66
  go_wp2_with fail
  refine (burnt_any lit left w).mono ?_
  rintro e W1 ⟨rfl, B1⟩
  rw [hb]
  go_wp2_with fail
  refine (HN.out W1 B1).mono ?_
  rintro e W2 ⟨rfl, rfl⟩
  have HB := hid_into hb
  have HB1 := hid_into B1
  clear hb B1 h c0 c1 c2 c3 c4
  go_wp2_with fail
  refine (HD.out W2 HB1.out).mono ?_
  rintro e W3 ⟨ev, fs', hP, rfl, h3, hG3⟩
  have HG3 : Hid (Grows F w W3) := ((Grows.refl F w).bel HB1.out).trans hG3 fun _ hk => Or.inl hk
  have HS : Hid (w.heap.size ≤ W2.heap.size) := HB1.out.size
  replace hP := hid_into hP
  clear hG3
  by_cases he : ev = 0
  · subst he
    go_wp2_with fail
    refine (burn_any h3 HB.out).mono ?_
    rintro e W4 ⟨rfl, h4, hG4⟩
    have HG4 : Hid (Grows F w W4) := HG3.out.trans hG4 fun k hk => by
      rcases hk with hk | hk
      · exact Or.inl hk
      · exact Or.inr (Nat.le_trans HS.out hk)
    clear hG4
    go_wp2_with fail
    go_ret
    exact ⟨0, fs', hP.out, rfl, h4.more fun k hk _ => (by rcases hk with hk | hk; exact Or.inl hk; exact Or.inr (Nat.le_trans HS.out hk)), HG4.out⟩
  · have HE := hid_into he
    have he2 : (ev == 0) = false := by simp [he]
    go_wp2_with fail
    go_ret
    refine ⟨ev, fs', hP.out, rfl, ?_, HG3.out⟩
    have e1 : burnL ev lit left = left := by simp [burnL, HE.out]
    rw [e1]
    exact h3.more fun k hk _ => (by rcases hk with hk | hk; exact Or.inl hk; exact Or.inr (Nat.le_trans HS.out hk))
theorem GResM.below {P : Int → Fls → Prop} {e : Ending} {W W' : World} (h : GResM P mb F sb room lit left W e W') (hb : Below w.heap.size w W) : GResM P mb F sb room lit left w e W' := by
  obtain ⟨ev, fs', hP, he, h1, hG⟩ := h
  refine ⟨ev, fs', hP, he, h1.more fun k hk _ => ?_, ((Grows.refl F w).bel hb).trans hG fun _ hk => Or.inl hk⟩
  rcases hk with hk | hk
  · exact Or.inl hk
  · exact Or.inr (Nat.le_trans hb.size hk)
theorem GResM.stay {P : Int → Fls → Prop} {e : Ending} {ev : Int} (h : Dk w F sb mb room fs lit left) (hb : Below w.heap.size w w') (he : e = .returned (.int .i64 ev)) (hP : P ev fs) (h0 : ev ≠ 0) : GResM P mb F sb room lit left w e w' := by
  refine ⟨ev, fs, hP, he, ?_, (Grows.refl F w).bel hb⟩
  have e1 : burnL ev lit left = left := by simp [burnL, h0]
  rw [e1]
  exact (h.to hb).pl _
/-- The gate, whatever comes. -/
theorem gate_anyM (P : Int → Fls → Prop) (nn : Bool) (h : Dk w F sb mb room fs lit left) (fn : FuncId) (en : ∀ (args : Array Value) (w : World), (callFunc fn args).run Tryz.prog w = .ok (.enter fn args) w) (sa sv : Value)
    (hn : ∀ w1, Below w.heap.size w w1 → Calls Tryz.prog 94 #[sv, .func (.func 95) #[] #[]] w1 fun e w' => e = .returned (.bool nn) ∧ w' = w1)
    (hdo : ∀ w1, Below w.heap.size w w1 → Calls Tryz.prog fn #[sa] w1 fun e w' => ∃ ev fs', P ev fs' ∧ e = .returned (.int .i64 ev) ∧ Dk w' (Pl F w1.heap.size) sb mb room fs' lit left ∧ Grows F w1 w') :
    Calls Tryz.prog 66 #[.pointer (some ⟨sb, 0, none⟩), .func (.func fn) #[sa] #[], sv] w fun e w' => GResM (fiveP lit left nn fs P) mb F sb room lit left w e w' := by
  cases hb : burntB lit left with
  | true =>
    refine (gate_dead h _ sv hb).mono ?_
    rintro e W ⟨he, hB⟩
    exact GResM.stay h hB he (by simp [fiveP, hb]) (by decide)
  | false =>
    cases nn with
    | true =>
      refine (gate_arg h _ sv hb hn).mono ?_
      rintro e W ⟨he, hB⟩
      exact GResM.stay h hB he (by simp [fiveP, hb]) (by decide)
    | false =>
      refine (gate_doM P h fn en sa sv hb hn hdo).mono ?_
      rintro e W ⟨ev, fs', hP, he, hR⟩
      exact ⟨ev, fs', by simpa [fiveP, hb] using hP, he, hR⟩
set_option maxHeartbeats 800000 in
theorem Remove_anyM (h : Dk w F sb mb room fs lit left) (x : Nm) (hx : x.length ≤ maxLen) :
    Calls Tryz.prog 113 #[.pointer (some ⟨sb, 0, none⟩), encStr x] w fun e w' => GResM (fiveP lit left (noneB x) fs (removeP fs x)) mb F sb room lit left w e w' := by
  have hmf : ∀ (fn : Fn) (first cap : Array Value) (w : World), (Instr.makeFunc fn first cap).run Tryz.prog w = .ok (.func fn first cap) w := fun _ _ _ _ => rfl
  have B0 : Below w.heap.size w (w.alloc (.cells #[encStr x] 9)) := (Below.refl _ _).alloc (Nat.le_refl _) _
  have hg := gate_anyM (removeP fs x) (noneB x) (h.to B0) 131 (enters_of Tryz.func131 (by kernel_rfl) rfl) (.agg #[.pointer (some ⟨sb, 0, none⟩), encStr x, .string ⟨#[]⟩, .slice none 0 0, .int .i64 0]) (.slice (some ⟨w.heap.size, 0, none⟩) 1 1)
    (fun w1 hb => has_one w.heap.size x w1 (below_cw (cs := [encStr x]) hb))
    (fun w1 hb => (remove_anyM ((h.to B0).to hb) x hx _ _ _).mono fun e w' hr => ⟨_, _, ⟨rfl, rfl⟩, hr.1, hr.2⟩)
  have HG := hid_into hg
  have HB := hid_into B0
  clear hg B0
  go_enter Tryz.func113, Tryz.ntmps113
  go_wp2_with fail
  refine HG.out.mono ?_
  rintro e W2 ⟨ev, fs', hP, rfl, hR⟩
  have HR : Hid (GResM (fiveP lit left (noneB x) fs (removeP fs x)) mb F sb room lit left w (.returned (.int .i64 ev)) W2) := GResM.below ⟨ev, fs', hP, rfl, hR⟩ HB.out
  clear hP hR
  go_wp2_with fail
  go_ret
  exact HR.out
theorem fiveP_sub {nn : Bool} {x : Nm} {ev : Int} {fs' : Fls} (h : fiveP lit left nn fs (removeP fs x) ev fs') : ∀ p ∈ fs', p ∈ fs := by
  unfold fiveP at h
  split at h
  · rw [h.2]; exact fun p hp => hp
  · split at h
    · rw [h.2]; exact fun p hp => hp
    · obtain ⟨_, rfl⟩ := h
      exact fun p hp => (dl_mem.1 hp).1
theorem Dx.less (h : Dk w F sb mb room fs lit left) {left' : Int} {n : Nat} {fs' : Fls} (h' : Dk w' (Pl F n) sb mb room fs' lit left') (hs : ∀ p ∈ fs', p ∈ fs) : Dk w' F sb mb room fs' lit left' where
  cells := h'.cells
  sF := h.sF
  nn := h'.nn
  map := fun b hb => ⟨(h.map b hb).1, (h'.map b hb).2⟩
  form := h'.form
  rowsX := fun p hp hn => by
    obtain ⟨h1, h2, h3, _⟩ := h'.rowsX p hp hn
    exact ⟨h1, h2, h3, (h.rowsX p (hs p hp) hn).2.2.2⟩
  apart := h'.apart
  room0 := h'.room0
  fits := h'.fits
  left0 := h'.left0
  cnt := h'.cnt
end
section
variable {w w' : World} {F : Nat → Prop} {sb : Nat} {u : Ud}
theorem five_plain {fs fs' : Fls} {lit : Bool} {lf ev : Int} {P : Int → Fls → Prop} (f : Us → Int × Us) (ns : List Nm) (nn : Bool) (hnn : nn = ns.any badN) (hP : ∀ ev fs', P ev fs' → ev = (f (abs fs)).1 ∧ abs fs' = (f (abs fs)).2)
    (h0 : 0 ≤ lf ∧ lf < 9223372036854775808) (ha : abs fs = u.us) (hl : u.left = if lit then lf else -1) (hp : fiveP lit lf nn fs P ev fs') : ev = (u.five ns f).1 ∧ (u.five ns f).2.room = u.room ∧ abs fs' = (u.five ns f).2.us ∧ (u.five ns f).2.left = if lit then burnL ev lit lf else -1 := by
  have hb : burntB lit lf = decide (u.left = 0) := by
    unfold burntB
    rw [hl]
    cases lit with
    | true => by_cases h : lf = 0 <;> simp [h]
    | false => simp
  unfold fiveP at hp
  unfold Ud.five mayE
  by_cases hz : u.left = 0
  · rw [hb, decide_eq_true hz, if_pos rfl] at hp
    obtain ⟨rfl, rfl⟩ := hp
    simp only [hz, if_true]
    have e1 : burnL 9 lit lf = lf := by simp [burnL]
    rw [e1]
    exact ⟨rfl, rfl, ha, hl⟩
  · rw [hb, decide_eq_false hz, if_neg (by simp)] at hp
    simp only [hz, if_false]
    cases nn with
    | true =>
      rw [if_pos rfl] at hp
      obtain ⟨rfl, rfl⟩ := hp
      simp only [← hnn, if_true]
      have e1 : burnL 1 lit lf = lf := by simp [burnL]
      rw [e1]
      exact ⟨rfl, rfl, ha, hl⟩
    | false =>
      rw [if_neg (by simp)] at hp
      obtain ⟨h1, h2⟩ := hP ev fs' hp
      rw [ha] at h1 h2
      simp only [← hnn, Bool.false_eq_true, if_false, ne_eq, not_true_eq_false]
      refine ⟨h1, trivial, h2, ?_⟩
      show (if (f u.us).1 = 0 then didL u.left else u.left) = _
      rw [← h1, hl]
      unfold burnL didL
      by_cases hev : ev = 0
      · cases lit with
        | true =>
          have : lf ≠ 0 := fun e => hz (by rw [hl]; simpa using e)
          simp only [hev, if_true, and_true]
          rw [if_pos (by omega)]
        | false => simp [hev]
      · cases lit <;> simp [hev]
theorem pRemoveM (h : Pd w F sb u) (x : Nm) (hx : x.length ≤ maxLen) : Calls Tryz.prog 113 #[.pointer (some ⟨sb, 0, none⟩), encStr x] w fun e w' => e = .returned (.int .i64 (u.five [x] (rmU x)).1) ∧ Pd w' F sb (u.five [x] (rmU x)).2 ∧ Grows F w w' := by
  obtain ⟨mb, fs, lit, lf, hd, ha, hl⟩ := h
  refine (Remove_anyM hd x hx).mono fun e w' hG => ?_
  obtain ⟨ev, fs', hp, he, hd', hg⟩ := hG
  have hd2 := hd.less hd' (fiveP_sub hp)
  obtain ⟨r1, r2, r3, r4⟩ := five_plain (u := u) (rmU x) [x] (noneB x) (by simp [noneB_bad]) removeP_u hd.left0 ha hl hp
  rw [← r2] at hd2
  exact ⟨by rw [he, r1], ⟨mb, fs', lit, _, hd2, r3, r4⟩, hg⟩
end
section
variable {w w' : World} {D F : Nat → Prop} {lb sb : Nat} {u : Ud} {pre : List UInt8} {es : List En} {las : Nat} {ns : List (List UInt8)} {sz : Nat} {dead : Bool}
theorem askRemoveM (h : Ld w D F lb sb u pre es las ns sz dead) (x : List UInt8) (hx : x.length ≤ maxLen) :
    Calls Tryz.prog 55 #[.pointer (some ⟨lb, 0, none⟩), .func (.func 113) #[] #[], encStr x] w fun e w' => e = .returned (.int .i64 (u.five [x] (rmU x)).1) ∧ Ld w' D F lb sb (u.five [x] (rmU x)).2 pre es las ns sz (if (u.five [x] (rmU x)).1 = 0 ∨ (u.five [x] (rmU x)).1 = 6 then dead else true) ∧ Grows (fun k => D k ∨ F k) w w' := by
  obtain ⟨ev, nv, hl⟩ := h.l
  refine (lgate_any 113 #[] enters113 x w hl (fun er w2 => er = (u.five [x] (rmU x)).1 ∧ Pd w2 D sb (u.five [x] (rmU x)).2 ∧ Grows D w w2) ?_).mono ?_
  · refine Calls.mono (pRemoveM h.d x hx) ?_
    rintro e w2 ⟨rfl, hp, hg⟩
    exact ⟨_, rfl, ⟨rfl, hp, hg⟩, hg.block lb hl.blk.lt fun e => h.ap lb e hl.lF⟩
  · rintro e w' ⟨er, w2, rfl, ⟨rfl, hp, hg⟩, hc⟩
    have hl2 : Lg w2 F lb sb pre ev nv es las ns sz dead := hl.keep hg.size fun k hk hlt => hg.block k hlt fun hd => h.ap k hd hk
    have hld : Ld w2 D F lb sb (u.five [x] (rmU x)).2 pre es las ns sz dead := ⟨hp, ⟨ev, nv, hl2⟩, fun k hk => Nat.lt_of_lt_of_le (h.dl k hk) hg.size, fun k hk => Nat.lt_of_lt_of_le (h.fl k hk) hg.size, h.ap⟩
    refine ⟨rfl, ?_⟩
    rcases hc with ⟨hc, rfl⟩ | ⟨hc, rfl⟩
    · rw [if_pos hc]
      exact ⟨hld, hg.mono fun k hk => Or.inl hk⟩
    · rw [if_neg hc]
      exact ⟨hld.cell 6 _ fun _ _ h => h.kill, (hg.mono fun k hk => Or.inl hk).trans (Grows.cell (F := fun k => D k ∨ F k) _ _ _ _ (Or.inr hl2.lF)) fun k hk => Or.inl hk⟩
end
end Go.Proofs.YtnkjhooeklodcaaGreatDoor
end
