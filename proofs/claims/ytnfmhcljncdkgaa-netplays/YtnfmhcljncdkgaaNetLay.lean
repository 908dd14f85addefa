/-
  The program's Net: Len, lay, by contracts.
-/
import Derived.Test.YtnfmhcljncdkgaaNetDel
import Derived.Deep.RegionHeld3
namespace Go.Proofs.Ytnfmhcljncdkgaa
open Go.RowKit
/-- A Net at block nb, whose row is v. -/
structure Np (w : World) (B nb : Nat) (v : Value) (L : List Mg) : Prop where
  q : Cw w nb [v] 56
  r : Rm w B v L
  b : B ≤ nb
  ne : v.ownBlock ≠ some nb
  le : L.length ≤ 1024
/-- The blocks of a Net. -/
def Nf (nb : Nat) (v : Value) : Nat → Prop := fun k => k = nb ∨ v.ownBlock = some k
theorem Np.lo {w : World} {B nb : Nat} {v : Value} {L : List Mg} (h : Np w B nb v L) : ∀ k, Nf nb v k → B ≤ k := fun k hk => by
  rcases hk with rfl | hk
  · exact h.b
  · exact (h.r.lt k hk).1
theorem Np.hi {w : World} {B nb : Nat} {v : Value} {L : List Mg} (h : Np w B nb v L) : ∀ k, Nf nb v k → k < w.heap.size := fun k hk => by
  rcases hk with rfl | hk
  · exact h.q.lt
  · exact (h.r.lt k hk).2
theorem Np.keep {w w' : World} {B nb : Nat} {v : Value} {L : List Mg} (h : Np w B nb v L) (hk : ∀ k, Nf nb v k → w'.heap[k]? = w.heap[k]?) : Np w' B nb v L :=
  ⟨h.q.keep (hk nb (Or.inl rfl)), h.r.keep fun k h1 _ _ => hk k (Or.inr h1), h.b, h.ne, h.le⟩
theorem Np.gr {w w' : World} {F : Nat → Prop} {B nb : Nat} {v : Value} {L : List Mg} (h : Np w B nb v L) (hg : Gr F w w') (hf : ∀ k, Nf nb v k → ¬ F k) : Np w' B nb v L := h.keep fun k hk => hg.block k (h.hi k hk) (hf k hk)
theorem Np.alloc {w : World} {B nb : Nat} {v : Value} {L : List Mg} (h : Np w B nb v L) (o : Obj) : Np (w.alloc o) B nb v L := h.keep fun k hk => Below.heap_alloc _ _ _ (h.hi k hk)
theorem Np.drew {w : World} {B nb : Nat} {v : Value} {L : List Mg} (h : Np w B nb v L) : Np w.drew B nb v L := h.keep fun _ _ => rfl
theorem Np.sm {w w' : World} {B nb : Nat} {v : Value} {L : List Mg} (h : Np w B nb v L) (hs : Sm w w') : Np w' B nb v L := h.keep fun _ _ => by rw [hs.heap]
theorem Np.slot {w : World} {B nb : Nat} {v : Value} {L : List Mg} (h : Np w B nb v L) : w.cell? ⟨nb, 0, none⟩ = some v := by rw [h.q.cell]; rfl
/-- What a call leaves of a Net: the row may be another one, in the same block or a new one. -/
structure Nx (w w' : World) (B nb : Nat) (v v' : Value) (L' : List Mg) : Prop where
  n : Np w' B nb v' L'
  g : Gr (Nf nb v) w w'
  o : ∀ k, v'.ownBlock = some k → v.ownBlock = some k ∨ w.heap.size ≤ k
theorem Nx.same {w : World} {B nb : Nat} {v : Value} {L : List Mg} (h : Np w B nb v L) : Nx w w B nb v v L := ⟨h, Gr.refl _ _, fun _ hk => Or.inl hk⟩
theorem Nx.pre {w w1 w' : World} {B nb : Nat} {v v' : Value} {L' : List Mg} (h : Nx w1 w' B nb v v' L') (hg : Gr (fun _ => False) w w1) : Nx w w' B nb v v' L' :=
  ⟨h.n, ⟨h.g.os.trans hg.os, h.g.tape.trans hg.tape, h.g.output.trans hg.output, Nat.le_trans hg.size h.g.size, fun k hk hf => (h.g.block k (Nat.lt_of_lt_of_le hk hg.size) hf).trans (hg.block k hk (fun h => h))⟩, fun k hk => by rcases h.o k hk with h1 | h1; exact Or.inl h1; exact Or.inr (Nat.le_trans hg.size h1)⟩
theorem Nx.then {w w1 w' : World} {B nb : Nat} {v v1 v' : Value} {L1 L' : List Mg} (h : Nx w w1 B nb v v1 L1) (k : Nx w1 w' B nb v1 v' L') : Nx w w' B nb v v' L' :=
  ⟨k.n, h.g.trans k.g fun j hj => by
      rcases hj with rfl | hj
      · exact Or.inl (Or.inl rfl)
      · rcases h.o j hj with h1 | h1
        · exact Or.inl (Or.inr h1)
        · exact Or.inr h1, fun j hj => by
      rcases k.o j hj with h1 | h1
      · exact h.o j h1
      · exact Or.inr (Nat.le_trans h.g.size h1)⟩
theorem Nx.post {w w1 w' : World} {B nb : Nat} {v v1 : Value} {L1 : List Mg} (h : Nx w w1 B nb v v1 L1) (hg : Gr (fun _ => False) w1 w') : Nx w w' B nb v v1 L1 :=
  ⟨h.n.gr hg (fun _ _ h => h), h.g.trans hg (fun _ h => h.elim), h.o⟩
/-- A store into the Net's own cell. -/
theorem Np.store {w w' : World} {B nb : Nat} {v v' : Value} {L L' : List Mg} (h : Np w B nb v L) (hg : Gr (fun k => v.ownBlock = some k) w w') (hr : Rm w' B v' L') (ho : ∀ k, v'.ownBlock = some k → v.ownBlock = some k ∨ w.heap.size ≤ k) (hl : L'.length ≤ 1024) : Nx w (w'.setCell ⟨nb, 0, none⟩ v') B nb v v' L' := by
  have hne : v'.ownBlock ≠ some nb := fun e => by
    rcases ho nb e with h1 | h1
    · exact h.ne h1
    · have := h.q.lt; omega
  refine ⟨⟨?_, ?_, h.b, hne, hl⟩, ?_, ho⟩
  · have := (hg.cw h.q h.ne).set 0 v'
    exact this
  · exact hr.keep fun k hk _ _ => Below.heap_setCell _ _ _ _ (fun e => hne (by rw [hk]; exact congrArg some e))
  · exact (hg.mono fun k hk => Or.inr hk).trans (Gr.setCell _ _ _ (F := fun k => k = nb) rfl) fun k hk => Or.inl (Or.inl hk)
theorem len_nil (w : World) : Calls Try.prog 24 #[.pointer none] w fun e w' => e = .returned (.int .i64 0) ∧ w' = w := by
  go_enter Try.func24, Try.ntmps24
  go_wp2_with fail
  go_ret
  exact ⟨rfl, rfl⟩
theorem Rm.form {w : World} {B : Nat} {v : Value} {L : List Mg} (h : Rm w B v L) : ∃ ao cap, v = .slice ao L.length cap := by
  obtain ⟨ao, cap, hv, _⟩ := Ax.Ro.form h
  exact ⟨ao, cap, hv⟩
theorem len_any {w : World} {B nb : Nat} {v : Value} {L : List Mg} (h : Np w B nb v L) : Calls Try.prog 24 #[.pointer (some ⟨nb, 0, none⟩)] w fun e w' => e = .returned (.int .i64 (L.length : Int)) ∧ w' = w := by
  have c := h.slot
  obtain ⟨ao, cap, rfl⟩ := h.r.form
  clear h
  go_enter Try.func24, Try.ntmps24
  go_wp2_with fail
  go_ret
  exact ⟨rfl, rfl⟩
/-- An append whose run is known. -/
theorem step_append_eq {o : Oper} {a : Act} {w w' : World} {ops : Array Oper} {K : Act → World → Prop} {Q : Exit → Act → World → Prop} {E : Prop} (hgd : o.guard = none) (t : TypeId) (s x : Operand) (ho : o.op = .call { callee := .builtin .append, args := #[s, x], argTypes := #[t, t] })
    (v u v' : Value) (hs : a.eval s = v) (hx : a.eval x = u) (hr : ∀ ty, (Builtin.append_ #[t, t] ty #[v, u]).run Try.prog w = .ok v' w') (h : K (a.put o.dst v') w') : if Region.wanted o (yielded ops a.tmps) = true then Oper.wp Try.prog o a w K Q else E := by
  have hw : Region.wanted o (yielded ops a.tmps) = true := by simp [Region.wanted, hgd]
  rw [if_pos hw]
  unfold Oper.wp execOp
  simp only [ho, resolve, invoke, builtin, Sem.run_bind, Sem.run_pure, Result.andThen_ok, List.map_toArray, List.map_cons, List.map_nil, hs, hx, hr]
  exact h
/-- A message behind a row. -/
theorem app_one {w : World} {B : Nat} {v : Value} {L : List Mg} (h : Rm w B v L) (m : Mg) (hl : L.length ≤ 1024) (hB : B ≤ w.heap.size) :
    ∃ v' w', (∀ ty, (Builtin.append_ #[54, 54] ty #[v, .slice (some ⟨w.heap.size, 0, none⟩) 1 1]).run Try.prog (w.alloc (.cells #[.int .i64 m.fr, .int .i64 m.to, .string (strOfNums m.d)] 59)).drew = .ok v' w') ∧ Rm w' B v' (L ++ [m]) ∧ Gr (fun k => v.ownBlock = some k) w w' ∧ (∀ k, v'.ownBlock = some k → v.ownBlock = some k ∨ w.heap.size ≤ k) := by
  have h1 : Rm (w.alloc (.cells #[.int .i64 m.fr, .int .i64 m.to, .string (strOfNums m.d)] 59)).drew B v L := h.keep fun k hk _ hlt => Below.heap_alloc _ _ _ hlt
  obtain ⟨v', w', hr, h2, h3, h4⟩ := Ax.Ro.app KL h1 ⟨w.heap.size, 0, none⟩ 1 [m] (by
    intro j u hu
    rw [Addr.add_lit]
    show (w.alloc _).cell? _ = _
    rw [cell_of_row _ _ _ _ _ _ (heap_alloc_new w _)]
    simpa [ltC] using hu) (by simp; omega) (by show B ≤ (w.alloc _).heap.size; rw [World.size_alloc]; omega)
  refine ⟨v', w', hr, h2, ⟨h3.os, h3.tape, h3.output, ?_, fun k hk hf => ?_⟩, fun k hk => ?_⟩
  · have := h3.size
    rw [show (w.alloc (.cells #[.int .i64 m.fr, .int .i64 m.to, .string (strOfNums m.d)] 59)).drew.heap.size = w.heap.size + 1 from World.size_alloc _ _] at this
    omega
  · have e := h3.block k (by show k < (w.alloc _).heap.size; rw [World.size_alloc]; omega) (fun e => hf e.symm)
    exact e.trans (Below.heap_alloc _ _ _ hk)
  · rcases h4 with h5 | h5
    · exact Or.inl (by rw [← h5]; exact hk)
    · right
      rw [hk] at h5
      have : k = (w.alloc (.cells #[.int .i64 m.fr, .int .i64 m.to, .string (strOfNums m.d)] 59)).drew.heap.size := Option.some.inj h5
      rw [this]
      show w.heap.size ≤ (w.alloc _).heap.size
      rw [World.size_alloc]; omega
set_option maxHeartbeats 2000000 in
theorem lay_full {w : World} {B nb : Nat} {v : Value} {L : List Mg} (h : Np w B nb v L) (m : Mg) (hf : 1024 ≤ L.length) : Calls Try.prog 27 #[.pointer (some ⟨nb, 0, none⟩), .agg #[.int .i64 m.fr, .int .i64 m.to, .string (strOfNums m.d)]] w fun e w' => e = .returned (.bool false) ∧ Gr (fun _ => False) w w' := by
  have c := h.q
  have c1 : Cw (w.alloc (.cells #[.int .i64 m.fr, .int .i64 m.to, .string (strOfNums m.d)] 59)) nb [v] 56 := c.alloc _
  have c2 := c1.cell 0
  simp only [List.getElem?_cons_zero] at c2
  obtain ⟨ao, cap, rfl⟩ := h.r.form
  have f1 : (1024 : Int) ≤ (L.length : Int) := by omega
  clear h c c1
  go_enter Try.func27, Try.ntmps27
  go_wp2_with fail
  go_ret
  exact ⟨rfl, Gr.alloc _ _ _⟩
/-- What lay's region reads. -/
def LayS (nb b : Nat) (v : Value) (p q : Int) (x : ByteArray) (u : World) : Prop := u.cell? ⟨nb, 0, none⟩ = some v ∧ u.cell? ⟨b, 0, none⟩ = some (.int .i64 p) ∧ u.cell? ⟨b, 1, none⟩ = some (.int .i64 q) ∧ u.cell? ⟨b, 2, none⟩ = some (.string x)
theorem LayS.of {nb b : Nat} {v : Value} {p q : Int} {x : ByteArray} {u : World} (h1 : Cw u nb [v] 56) (h2 : Cw u b [.int .i64 p, .int .i64 q, .string x] 59) : LayS nb b v p q x u :=
  ⟨by rw [h1.cell]; rfl, by rw [h2.cell]; rfl, by rw [h2.cell]; rfl, by rw [h2.cell]; rfl⟩
theorem lay_facts {w w1 : World} {B nb : Nat} {v : Value} {L : List Mg} (h : Np w B nb v L) (hB : B ≤ w.heap.size) (m : Mg) (hf : L.length < 1024) (hb : Below w.heap.size w w1) (bx : Cw w1 w.heap.size [.int .i64 m.fr, .int .i64 m.to, .string (strOfNums m.d)] 59) :
    ∃ v' ao' cap' w2, v' = .slice ao' (L.length + 1) cap' ∧ Hid (∀ ty, (Builtin.append_ #[54, 54] ty #[v, .slice (some ⟨w1.heap.size, 0, none⟩) 1 1]).run Try.prog (w1.alloc (.cells #[.int .i64 m.fr, .int .i64 m.to, .string (strOfNums m.d)] 59)).drew = .ok v' w2) ∧
      LayS nb w.heap.size v m.fr m.to (strOfNums m.d) w1 ∧ LayS nb w.heap.size v m.fr m.to (strOfNums m.d) (w1.alloc (.cells #[.int .i64 m.fr, .int .i64 m.to, .string (strOfNums m.d)] 59)).drew ∧ LayS nb w.heap.size v m.fr m.to (strOfNums m.d) w2 ∧ w2.frozen? ⟨nb, 0, none⟩ = false ∧ Hid (Nx w (w2.setCell ⟨nb, 0, none⟩ v') B nb v v' (L ++ [m])) := by
  have n1 : Np w1 B nb v L := h.keep fun k hk => hb.block k (h.hi k hk)
  obtain ⟨v', w2, hr, hR, hG, ho⟩ := app_one n1.r m (by omega) (by have := hb.size; omega)
  have hst := n1.store hG hR ho (by rw [List.length_append]; simp; omega)
  have c2 := hG.cw n1.q n1.ne
  have nlt := h.q.lt
  obtain ⟨ao', cap', hv'⟩ := Rm.form hR
  rw [List.length_append] at hv'
  refine ⟨v', ao', cap', w2, hv', hr, LayS.of n1.q bx, LayS.of (n1.q.alloc _) (bx.alloc _), LayS.of c2 (hG.cw bx fun e => ?_), c2.frozen 0, hst.pre (Gr.of_below hb _ (fun k hk h2 => by omega))⟩
  have := (h.r.lt _ e).2
  omega
set_option maxRecDepth 20000 in
set_option maxHeartbeats 2000000 in
theorem lay_some {w : World} {B nb : Nat} {v : Value} {L : List Mg} (h : Np w B nb v L) (hB : B ≤ w.heap.size) (m : Mg) (hf : L.length < 1024) : Calls Try.prog 27 #[.pointer (some ⟨nb, 0, none⟩), .agg #[.int .i64 m.fr, .int .i64 m.to, .string (strOfNums m.d)]] w fun e w' => e = .returned (.bool true) ∧ ∃ v', Nx w w' B nb v v' (L ++ [m]) := by
  have F : Hid (∀ w1, Below w.heap.size w w1 → Cw w1 w.heap.size [.int .i64 m.fr, .int .i64 m.to, .string (strOfNums m.d)] 59 → _) := fun w1 hb bx => lay_facts (w1 := w1) h hB m hf hb bx
  obtain ⟨x, hx⟩ : ∃ x, x = strOfNums m.d := ⟨_, rfl⟩
  rw [← hx] at F ⊢
  obtain ⟨ao, cap, rfl⟩ := h.r.form
  have f1 : ¬ (1024 : Int) ≤ (L.length : Int) := by omega
  clear h hx hf hB
  go_enter Try.func27, Try.ntmps27
  go_wp2_with (refine wpList_box_row rfl 59 (.tmp 1) rfl [.int .i64 m.fr, .int .i64 m.to, .string x] (by rfl) ?_; intro w1 bx hb hs1; obtain ⟨v', ao', cap', w2, rfl, HR, t0, t1, t2, fz2, HF⟩ := F.out w1 hb bx; obtain ⟨k1, b0, b1, b2⟩ := id t0)
  have mixed : Try.prog.follows .mixedOrders = true := by kernel_rfl
  have nl := World.block_lt_of_cell? w1 _ k1
  have k2 := t2.1
  go_region_law_o (refine step_append_eq rfl 54 (.tmp 15) (.tmp 17) rfl _ _ _ (by rfl) (by rfl) HR.out ?_)
  all_goals (go_wp2_with fail; go_ret; exact ⟨rfl, _, HF.out⟩)
end Go.Proofs.Ytnfmhcljncdkgaa
