/-
  InputsAnyOrder: how its loops stand.
-/
import Derived.Test.YtkjoadncbfhjfaaOrderP
import Derived.Test.YtkjoadncbfhjfaaOwnG
namespace Go.Proofs.Ytkjoadncbfhjfaa
open Go.RowKit
theorem info33 : (Try.prog.info? 33).map (fun i => (i.zero, i.size, i.bytes)) = some (some (.agg #[.int .i64 0, .int .i64 0, .int .u16 0]), 3, 24) := by kernel_rfl
theorem kdT : Kd Try.prog 22 33 3 To.cells := by
  refine ⟨Try.underlying22, fun _ => rfl, fun s u hu => ?_, by decide, _, _, info33, rfl, by decide⟩
  simp only [To.cells, List.mem_cons, List.not_mem_nil, or_false] at hu
  rcases hu with rfl | rfl | rfl <;> rfl
theorem wpList_append_eq {o : Oper} {a : Act} {w w' : World} {ops : Array Oper} {rest : List Oper} {Q : Exit → Act → World → Prop} (hgd : o.guard = none) (t : TypeId) (s x : Operand) (ho : o.op = .call { callee := .builtin .append, args := #[s, x], argTypes := #[t, t] })
    (v u v' : Value) (hs : a.eval s = v) (hx : a.eval x = u) (hr : ∀ ty, (Builtin.append_ #[t, t] ty #[v, u]).run Try.prog w = .ok v' w') (h : wpList Try.prog ops Q rest (a.put o.dst v') w') : wpList Try.prog ops Q (o :: rest) a w := by
  refine wpList_plain hgd fun _ hK => ?_
  unfold Oper.wp execOp
  simp only [ho, resolve, invoke, builtin, Sem.run_bind, Sem.run_pure, Result.andThen_ok, List.map_toArray, List.map_cons, List.map_nil, hs, hx, hr]
  exact hK _ _ h
abbrev Rt (w : World) (B : Nat) (v : Value) (l : List To) : Prop := Ro w B 33 3 To.cells v l
/-- One more to tell. -/
theorem tell1 {wr : World} {B : Nat} {v : Value} {l : List To} (t : To) (hp : Rt wr B v l) (hl : l.length ≤ 1000) (hB : B ≤ wr.heap.size) : ∃ v' w', (∀ ty, (Builtin.append_ #[22, 22] ty #[v, .slice (some ⟨wr.heap.size, 0, none⟩) 1 1]).run Try.prog (wr.alloc (.cells #[.int .i64 t.p, .int .i64 t.f, .int .u16 t.x] 33)) = .ok v' w') ∧ Rt w' B v' (l ++ [t]) ∧ Below B wr w' := by
  have hn : Rt (wr.alloc (.cells #[.int .i64 t.p, .int .i64 t.f, .int .u16 t.x] 33)) B v l := hp.keep fun k _ _ hk => Below.heap_alloc _ _ _ hk
  have hc := Cw.new wr t.cells 33
  have hB2 : B ≤ (wr.alloc (.cells #[.int .i64 t.p, .int .i64 t.f, .int .u16 t.x] 33)).heap.size := by rw [World.size_alloc]; omega
  obtain ⟨v', w2, hr, h2, h3, h4⟩ := hn.app kdT ⟨wr.heap.size, 0, none⟩ 1 [t] (fun j u hu => by rw [Addr.add_lit, Nat.zero_add]; exact (hc.cell j).trans (by simpa using hu)) (by simp; omega) hB2
  exact ⟨v', w2, hr, h2, grown_below h3 ((Below.refl _ _).alloc hB _) hB2 fun k hk => (hp.lt k hk).1⟩
def slen : Value → Nat
  | .slice _ n _ => n
  | _ => 0
/-- How the loop that tells stands. -/
structure Od (w wr : World) (qb g0 g1 : Nat) (xs ys : List Int) (L : List To) (l0 l1 : List Pl) (v : Value) : Prop where
  q : Qp wr w.heap.size (w.heap.size + 3) qb g0 g1 l0 l1
  b : Below w.heap.size w wr
  sz : w.heap.size + 3 ≤ wr.heap.size
  o : Rt wr (w.heap.size + 3) v L
  r0 : Rd xs 0 L l0
  r1 : Rd ys 1 L l1
  d : Dist L
  pp : ∀ t ∈ L, t.p = 0 ∨ t.p = 1
  xx : ∀ t ∈ L, 0 ≤ t.x ∧ t.x < 65536
/-- What one more Put makes of it. -/
theorem Od.told {w wr : World} {qb g0 g1 : Nat} {xs ys : List Int} {A B : List To} {t : To} {l0 l1 : List Pl} {v : Value} (h : Od w wr qb g0 g1 xs ys (A ++ t :: B) l0 l1 v) :
    ∃ i : Nat, t.f = (i : Int) ∧ i < l0.length ∧ (at0 (sel t.p l0 l1) i).2 = false ∧ at0 (sel t.p (up t.p 0 l0 i t.x) (up t.p 1 l1 i t.x)) i = (t.x, true) ∧ Rd xs 0 (A ++ B) (up t.p 0 l0 i t.x) ∧ Rd ys 1 (A ++ B) (up t.p 1 l1 i t.x) := by
  have hm := mid_mem A B t
  rcases h.pp t hm with hp | hp
  · obtain ⟨i, h1, h2, h3, h4⟩ := h.r0.step h.d hp
    refine ⟨i, h1, h2, by rw [hp]; exact h3, ?_, ?_, ?_⟩
    · rw [hp]
      show at0 (up 0 0 l0 i t.x) i = _
      unfold up
      rw [if_pos rfl, at0_set h2, if_pos rfl]
    · unfold up; rw [if_pos hp]; exact h4
    · unfold up; rw [if_neg (by omega)]; exact h.r1.other (by omega)
  · obtain ⟨i, h1, h2, h3, h4⟩ := h.r1.step h.d hp
    refine ⟨i, h1, by rw [← h.q.len]; exact h2, by rw [hp]; exact h3, ?_, ?_, ?_⟩
    · rw [hp]
      show at0 (up 1 1 l1 i t.x) i = _
      unfold up
      rw [if_pos rfl, at0_set h2, if_pos rfl]
    · unfold up; rw [if_neg (by omega)]; exact h.r0.other (by omega)
    · unfold up; rw [if_pos hp]; exact h4
theorem Ps_of_prs {w : World} {B : Nat} {l : List Pi} (hc : Cw w B (cellsP l) 47) (hl : l.length ≤ 1000) : Ps w (.slice (some ⟨B, 0, none⟩) l.length l.length) l := Ps_of_block hc (by unfold maxLen; omega)
theorem and64k (a : Int) : ∃ A : Nat, bits .and .i64 a 65535 = (A : Int) ∧ A < 65536 := by
  have e : bits .and .i64 a 65535 = IntKind.i64.wrap (((BitVec.ofInt 64 a &&& BitVec.ofInt 64 65535).toNat : Nat) : Int) := rfl
  have hb : (BitVec.ofInt 64 a &&& BitVec.ofInt 64 65535).toNat < 65536 := by
    rw [BitVec.toNat_and]
    have : (BitVec.ofInt 64 65535).toNat = 65535 := by decide
    rw [this]
    exact Nat.lt_of_le_of_lt Nat.and_le_right (by decide)
  refine ⟨_, ?_, hb⟩
  rw [e]
  generalize (BitVec.ofInt 64 a &&& BitVec.ofInt 64 65535).toNat = n at *
  simp [IntKind.wrap, IntKind.bits, IntKind.signed]
  omega
theorem Qp.drew {w : World} {lo hi qb g0 g1 : Nat} {l0 l1 : List Pl} (h : Qp w lo hi qb g0 g1 l0 l1) : Qp w.drew lo hi qb g0 g1 l0 l1 := h.keep fun _ _ _ => rfl
theorem cut_at {L : List To} {K : Nat} (h : K < L.length) : ∃ A t B, L = A ++ t :: B ∧ A.length = K := by
  refine ⟨L.take K, L[K], L.drop (K + 1), ?_, by rw [List.length_take]; omega⟩
  rw [← List.drop_eq_getElem_cons h, List.take_append_drop]
/-- A Put that changes nothing but its Queue. -/
def Pu (w : World) (qb g0 g1 : Nat) (m0 m1 : List Pl) (W : World) (p f x E : Int) : Prop :=
  Calls Try.prog 10 #[.pointer (some ⟨qb, 0, none⟩), .int .i64 p, .int .i64 f, .int .u16 x] W fun e w' => e = .returned (.int .i64 E) ∧ Qp w' w.heap.size (w.heap.size + 3) qb g0 g1 m0 m1 ∧ Og (fun k => w.heap.size ≤ k ∧ k < w.heap.size + 3) W w'
theorem wrap_ne {x : Int} (_h : 0 ≤ x ∧ x < 65536) : ¬ x = IntKind.u16.wrap (x + 1) := by
  simp [IntKind.wrap, IntKind.bits, IntKind.signed]
  omega
/-- A round of the loop that tells, in plain words. -/
theorem Od.round {w wr : World} {qb g0 g1 : Nat} {xs ys : List Int} {L : List To} {l0 l1 : List Pl} {v : Value} (h : Od w wr qb g0 g1 xs ys L l0 l1 v) {K : Nat} (hK : K < L.length) :
    ∃ (g cap : Nat) (A B : List To) (t : To) (m0 m1 : List Pl), v = .slice (some ⟨g, 0, none⟩) L.length cap ∧ L.length ≤ cap ∧ cap ≤ maxLen ∧ w.heap.size + 3 ≤ g ∧ g < wr.heap.size ∧ L = A ++ t :: B ∧ A.length = K ∧
      (∀ W : World, W.heap[g]? = wr.heap[g]? → W.cell? ⟨g, K * 3, none⟩ = some (.int .i64 t.p) ∧ W.cell? ⟨g, K * 3 + 1, none⟩ = some (.int .i64 t.f) ∧ W.cell? ⟨g, K * 3 + 2, none⟩ = some (.int .u16 t.x)) ∧
      Pu w qb g0 g1 m0 m1 wr.drew t.p t.f t.x 0 ∧ (∀ W, Qp W w.heap.size (w.heap.size + 3) qb g0 g1 m0 m1 → Pu w qb g0 g1 m0 m1 W t.p t.f t.x 8 ∧ Pu w qb g0 g1 m0 m1 W t.p t.f (IntKind.u16.wrap (t.x + 1)) 18) ∧
      (∀ W v', Qp W w.heap.size (w.heap.size + 3) qb g0 g1 m0 m1 → Below w.heap.size w W → w.heap.size + 3 ≤ W.heap.size → Rt W (w.heap.size + 3) v' (A ++ B) → Od w W qb g0 g1 xs ys (A ++ B) m0 m1 v') := by
  obtain ⟨A, t, B, rfl, hA⟩ := cut_at hK
  obtain ⟨g, cap, rfl, hg1, hg2, hlc, hcm, hcell⟩ := h.o.spot (by simp)
  obtain ⟨i, hi, hil, hu, hau, hr0, hr1⟩ := h.told
  have hpp := h.pp t (mid_mem A B t)
  have hxx := h.xx t (mid_mem A B t)
  refine ⟨g, cap, A, B, t, up t.p 0 l0 i t.x, up t.p 1 l1 i t.x, rfl, hlc, hcm, hg1, hg2, rfl, hA, ?_, ?_, ?_, ?_⟩
  · intro W hW
    have hk : (A ++ t :: B)[K]? = some t := by rw [List.getElem?_append_right (by omega), hA, Nat.sub_self]; rfl
    have f : ∀ j u, t.cells[j]? = some u → W.cell? ⟨g, K * 3 + j, none⟩ = some u := fun j u hu => (World.cell?_of_block (a := ⟨g, K * 3 + j, none⟩) hW).trans (hcell _ _ (fm_at kdT.len _ K j t u hk hu))
    exact ⟨f 0 _ rfl, f 1 _ rfl, f 2 _ rfl⟩
  · rw [Pu, hi]
    exact put_told h.q.drew hpp hil hu t.x
  · intro W hW
    have hl : i < (up t.p 0 l0 i t.x).length := by unfold up; split; (rw [List.length_set]; exact hil); exact hil
    rw [Pu, Pu, hi]
    exact ⟨put_twice hW hpp hl hau t.x 8 (by rw [if_pos rfl]), put_twice hW hpp hl hau _ 18 (by rw [if_neg (wrap_ne hxx)])⟩
  · intro W v' hq hb hs ho
    exact ⟨hq, hb, hs, ho, hr0, hr1, h.d.mid.1, fun s hs => h.pp s (mem_mid' hs), fun s hs => h.xx s (mem_mid' hs)⟩
end Go.Proofs.Ytkjoadncbfhjfaa
