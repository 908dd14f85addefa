/-
  The document's Pairs.
-/
import Derived.Test.YtkjoadncbfhjfaaRKnown
namespace Go.Proofs.Ytkjoadncbfhjfaa
open Go.RowKit
variable {w w' : World} {lo hi rb a0 a1 b0 b1 : Nat} {l0 l1 : List Pl}
theorem Rq.below (h : Rq w lo hi rb a0 a1 b0 b1 l0 l1) (hb : Below w.heap.size w w') : Rq w' lo hi rb a0 a1 b0 b1 l0 l1 :=
  ⟨h.q.below hb h.q.lt, h.i0.below hb h.i0.lt, h.i1.below hb h.i1.lt, h.s0.below hb h.s0.lt, h.s1.below hb h.s1.lt, h.len, h.n1, h.n2, h.nd, h.inn⟩
/-- An append whose run is known. -/
theorem step_append_eq {o : Oper} {a : Act} {w w' : World} {ops : Array Oper} {K : Act → World → Prop} {Q : Exit → Act → World → Prop} {E : Prop} (hgd : o.guard = none) (t : TypeId) (s x : Operand) (ho : o.op = .call { callee := .builtin .append, args := #[s, x], argTypes := #[t, t] })
    (v u v' : Value) (hs : a.eval s = v) (hx : a.eval x = u) (hr : ∀ ty, (Builtin.append_ #[t, t] ty #[v, u]).run Try.prog w = .ok v' w') (h : K (a.put o.dst v') w') : if Region.wanted o (yielded ops a.tmps) = true then Oper.wp Try.prog o a w K Q else E := by
  have hw : Region.wanted o (yielded ops a.tmps) = true := by simp [Region.wanted, hgd]
  rw [if_pos hw]
  unfold Oper.wp execOp
  simp only [ho, resolve, invoke, builtin, Sem.run_bind, Sem.run_pure, Result.andThen_ok, List.map_toArray, List.map_cons, List.map_nil, hs, hx, hr]
  exact h
/-- A pair behind a row of pairs of the call's own. -/
theorem app1 {wr : World} {B : Nat} {v : Value} {xs : List Pi} (a b : Int) (hp : Po wr B v xs) (hl : xs.length ≤ 1000) (hB : B ≤ wr.heap.size) : ∃ v' w', (∀ ty, (Builtin.append_ #[41, 41] ty #[v, .slice (some ⟨wr.heap.size, 0, none⟩) 1 1]).run Try.prog (wr.alloc (.cells #[.int .u16 a, .int .u16 b] 47)).drew = .ok v' w') ∧ Po w' B v' (xs ++ [(a, b)]) ∧ (∀ B0, B0 ≤ B → ∀ w, Below B0 w wr → Below B0 w w') := by
  have hn : Po (wr.alloc (.cells #[.int .u16 a, .int .u16 b] 47)).drew B v xs := hp.keep fun k _ hk => Below.heap_alloc _ _ _ hk
  have hq : Ps (wr.alloc (.cells #[.int .u16 a, .int .u16 b] 47)).drew (.slice (some ⟨wr.heap.size, 0, none⟩) 1 1) [(a, b)] := Ps_of_block (l := [(a, b)]) (heap_alloc_new wr _) (by unfold maxLen; simp)
  have hB2 : B ≤ (wr.alloc (.cells #[.int .u16 a, .int .u16 b] 47)).drew.heap.size := by
    show B ≤ (wr.alloc _).heap.size
    rw [World.size_alloc]; omega
  obtain ⟨ao, cap, w2, hr, h2, h3, h4⟩ := run_append_ps _ B 41 v xs hn _ [(a, b)] hq (by simp; omega) hB2
  refine ⟨_, w2, fun ty => hr, by simpa using h2, fun B0 h0 w hb => ?_⟩
  have b1 : Below B0 w (wr.alloc (.cells #[.int .u16 a, .int .u16 b] 47)).drew := (hb.alloc (Nat.le_trans h0 hB) _).drew
  refine ⟨h3.os.trans b1.os, h3.tape.trans b1.tape, h3.output.trans b1.output, Nat.le_trans b1.size h3.size, fun k hk => ?_⟩
  refine (h3.block k (by omega) fun e => ?_).trans (b1.block k hk)
  have := (hp.lt k e.symm).1
  omega
set_option maxHeartbeats 1000000 in
set_option maxRecDepth 10000 in
theorem rPairs_any (h : Rq w lo hi rb a0 a1 b0 b1 l0 l1) : Calls Try.prog 20 #[.pointer (some ⟨rb, 0, none⟩)] w fun e w' => ∃ v, e = .returned v ∧ Ps w' v (prs l0 l1 (min (kn l0) (kn l1))) ∧ Below w.heap.size w w' := by
  have hm0 : min (kn l0) (kn l1) ≤ l0.length := Nat.le_trans (Nat.min_le_left _ _) (kn_le l0)
  have hL := h.len
  have hn2 := h.n2
  have CB : Hid (∀ wr, Below w.heap.size w wr → Calls Try.prog 17 #[.pointer (some ⟨rb, 0, none⟩)] wr fun e w' => e = .returned (.int .i64 ((min (kn l0) (kn l1) : Nat) : Int)) ∧ w' = wr) := fun wr hb => rBoth_any (h.below hb)
  have HC : Hid (∀ wr, Below w.heap.size w wr → wr.cell? ⟨rb, 1, none⟩ = some (slR a0 l0.length) ∧ wr.cell? ⟨rb, 2, none⟩ = some (slR a1 l0.length) ∧ ∀ k, k < l0.length → wr.cell? ⟨a0, k, none⟩ = some (.int .u16 (at0 l0 k).1) ∧ wr.cell? ⟨a1, k, none⟩ = some (.int .u16 (at0 l1 k).1)) := by
    intro wr hb
    have h2 := h.below hb
    have c1 := h2.q.cell 1
    have c2 := h2.q.cell 2
    exact ⟨c1, c2, fun k hk => ⟨(h2.i0.cell _).trans (cellsI_at hk), (h2.i1.cell _).trans (cellsI_at (by rw [hL]; exact hk))⟩⟩
  clear hL h
  generalize hM : min (kn l0) (kn l1) = M at *
  clear hM
  generalize l0.length = n at *
  go_enter Try.func20, Try.ntmps20
  go_wp2_with fail
  go_loopw [3, 4] (fun v x wr => ∃ k : Nat, k ≤ M ∧ x = .int .i64 (k : Int) ∧ Hid (Po wr w.heap.size v (prs l0 l1 k)) ∧ Hid (Below w.heap.size w wr)) (fun _ x _ => M - (intOf x).toNat)
  case atStart => exact ⟨0, Nat.zero_le _, rfl, Po.nil _ _, Below.refl _ _⟩
  case round =>
    obtain ⟨k, hk, rfl, HP, HB⟩ := hrel
    by_cases hlt : k < M
    · obtain ⟨c1, c2, c3⟩ := HC.out wr HB.out
      obtain ⟨d0, d1⟩ := c3 k (by omega)
      clear c3
      simp only [slR] at c1 c2
      have hlt2 : (k : Int) < (M : Int) := by omega
      have hlt3 : (k : Int) < (n : Int) := by omega
      go_wp2_with (go_at_call 17; refine (CB.out _ HB.out).mono ?_; rintro e w1 ⟨rfl, hw1⟩; replace hw1 := hw1.symm; subst hw1)
      obtain ⟨v', w', hr, hp', hb'⟩ := app1 (at0 l0 k).1 (at0 l1 k).1 HP.out (by rw [prs_len]; omega) HB.out.size
      have HP' := hid_into hp'
      have HB' := hid_into (hb' _ (Nat.le_refl _) _ HB.out)
      have HB1 : Below w.heap.size w (wr.alloc (.cells #[.int .u16 (at0 l0 k).1, .int .u16 (at0 l1 k).1] 47)).drew := (HB.out.alloc HB.out.size _).drew
      have t0 : wr.cell? ⟨rb, 1, none⟩ = _ ∧ wr.cell? ⟨rb, 2, none⟩ = _ ∧ wr.cell? ⟨a0, k, none⟩ = _ ∧ wr.cell? ⟨a1, k, none⟩ = _ := ⟨(HC.out wr HB.out).1, (HC.out wr HB.out).2.1, (HC.out wr HB.out).2.2 k (by omega)⟩
      have t1 := And.intro (HC.out _ HB1).1 (And.intro (HC.out _ HB1).2.1 ((HC.out _ HB1).2.2 k (by omega)))
      have t2 := And.intro (HC.out _ HB'.out).1 (And.intro (HC.out _ HB'.out).2.1 ((HC.out _ HB'.out).2.2 k (by omega)))
      simp only [slR] at t0 t1 t2
      replace t0 := hid_into t0
      replace t1 := hid_into t1
      replace t2 := hid_into t2
      clear hp' hb' HB1
      have HR := hid_into hr
      clear hr
      go_region_held3 (fun u => u.cell? ⟨rb, 1, none⟩ = some (.slice (some ⟨a0, 0, none⟩) n n) ∧ u.cell? ⟨rb, 2, none⟩ = some (.slice (some ⟨a1, 0, none⟩) n n) ∧ u.cell? ⟨a0, k, none⟩ = some (.int .u16 (at0 l0 k).1) ∧ u.cell? ⟨a1, k, none⟩ = some (.int .u16 (at0 l1 k).1)) (first | exact t0 | exact t1 | exact t2)
        (first | (refine step_append_eq rfl 41 (.tmp 11) (.tmp 29) rfl _ _ _ (by rfl) (by rfl) HR.out ?_))
      go_wp2_with fail
      go_roundw
      case rel => exact ⟨k + 1, by omega, by go_num, HP', HB'⟩
      case measure => simp [intOf]; omega
    · obtain rfl : k = M := by omega
      clear hlt
      go_wp2_with (go_at_call 17; refine (CB.out _ HB.out).mono ?_; rintro e w1 ⟨rfl, hw1⟩; replace hw1 := hw1.symm; subst hw1)
      go_ret
      exact ⟨_, rfl, HP.out.ls, HB.out⟩
end Go.Proofs.Ytkjoadncbfhjfaa
