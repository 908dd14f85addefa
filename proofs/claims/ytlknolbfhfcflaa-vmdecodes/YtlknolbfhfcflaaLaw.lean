/-
  Words for the laws: a game that the law made (Kn), and Step within a region that draws its order.
-/
import Derived.Test.YtlknolbfhfcflaaVmS
import Derived.Deep.DeepCutAuto
namespace Go.Proofs.Ytlknolbfhfcflaa
open Go.RowKit
section
variable {ops : Array Oper} {o : Oper} {a : Act} {w : World} {K : Act → World → Prop} {Q : Exit → Act → World → Prop} {E : Prop}
theorem step_alloc_row (hgd : o.guard = none) (ty : TypeId) (ho : o.op = .alloc ty) (cs : List Value) (hz : (Try.prog.info? ty).bind (·.zero) = some (.agg cs.toArray))
    (h : ∀ W, Cw W w.heap.size cs ty → Below w.heap.size w W → Hid (W.heap.size = w.heap.size + 1) → K (a.put o.dst (.pointer (some ⟨w.heap.size, 0, none⟩))) W) : if Region.wanted o (yielded ops a.tmps) = true then Oper.wp Try.prog o a w K Q else E := by
  have hw : Region.wanted o (yielded ops a.tmps) = true := by simp [Region.wanted, hgd]
  rw [if_pos hw]
  cases hi : Try.prog.info? ty with
  | none => rw [hi] at hz; cases hz
  | some i =>
    have hz' : i.zero = some (.agg cs.toArray) := by rw [hi] at hz; exact hz
    unfold Oper.wp execOp
    simp only [ho, Sem.run_bind, Instr.alloc, zeroValue, typeInfo, hi, hz', newVar, newRow, run_newObj_alloc, Sem.run_pure, Result.andThen_ok, run_program]
    exact h _ (Cw.new w cs ty) ((Below.refl _ _).alloc (Nat.le_refl _) _) (World.size_alloc _ _)
theorem step_store_rw (hgd : o.guard = none) (ty : TypeId) (x y : Operand) (ho : o.op = .store ty x y) (g : Nat) (cs ds : List Value) (t : TypeId) (hx : a.eval x = .pointer (some ⟨g, 0, none⟩)) (hy : a.eval y = .agg ds.toArray)
    (hc : Cw w g cs t) (hi : Hid ((Try.prog.info? ty).map (·.size) = some cs.length)) (hl : Hid (cs.length = ds.length)) (h1 : Hid (∀ v ∈ ds, v.oneCell' = true))
    (h : ∀ W, Cw W g ds t → Only g w W → K (a.put o.dst undef) W) : if Region.wanted o (yielded ops a.tmps) = true then Oper.wp Try.prog o a w K Q else E := by
  have hw : Region.wanted o (yielded ops a.tmps) = true := by simp [Region.wanted, hgd]
  rw [if_pos hw]
  refine wp_store_mid ty x y ho g 0 ds.toArray hx hy (by rw [List.size_toArray, ← hl.out]; exact hc.there) (by rw [List.size_toArray, ← hl.out]; exact hi.out) (all_oneCell_toArray h1.out) ?_
  exact h _ (hc.put hl.out) (Only.sets g 0 w ds)
/-- A store of a whole row, half run. -/
theorem upon_store {b : Nat} {cs ds : List Value} {t : TypeId} (hc : Cw w b cs t) (hl : Hid (cs.length = ds.length)) (h1 : Hid (∀ v ∈ ds, v.oneCell' = true)) (h : ∀ W, Cw W b ds t → Only b w W → K (a.put o.dst undef) W) :
    Oper.upon Try.prog o a K Q ((Sem.run Try.prog (storeCells ⟨b, 0, none⟩ ds) w).andThen fun _ w' => Result.ok Next.skip w') := by
  have ht := hc.there
  rw [hl.out] at ht
  have := run_storeCells_cells (P := Try.prog) b 0 ds 0 w (fun j hj => by simpa using (ht j hj).1) (fun j hj => by simpa using (ht j hj).2) h1.out
  simp only [Nat.add_zero] at this
  rw [this]
  exact h _ (hc.put hl.out) (Only.sets b 0 w ds)
end
/-- A game of the law's own, in block G; its program l, of the slice cv; what lies below N is left as it is. -/
structure Kn (w W : World) (N G : Nat) (cv : Value) (cap fuel : Int) (l : List Ii) : Prop where
  g : Cw W G [cv, .int .i64 cap, .int .i64 fuel] 24
  ls : Ls W cv l
  below : Below w.heap.size w W
  lo : w.heap.size ≤ N
  lt : G < N
  own : ∀ k, cv.ownBlock = some k → k < N
  size : N ≤ W.heap.size
variable {w W W' : World} {N G : Nat} {cv : Value} {cap fuel : Int} {l : List Ii}
theorem Kn.next (h : Kn w W N G cv cap fuel l) (hb : Below W.heap.size W W') : Kn w W' N G cv cap fuel l :=
  ⟨h.g.below hb h.g.lt, h.ls.below hb, h.below.trans (hb.mono h.below.size), h.lo, h.lt, h.own, Nat.le_trans h.size hb.size⟩
theorem Kn.only (h : Kn w W N G cv cap fuel l) {b : Nat} (hb : Only b W W') (hN : N ≤ b) : Kn w W' N G cv cap fuel l :=
  ⟨hb.cw h.g (by have := h.lt; omega), h.ls.keep (fun k hk _ => hb.block k (by have := h.own k hk; omega)), h.below.trans (hb.below (by have := h.lo; omega)), h.lo, h.lt, h.own, by rw [hb.size]; exact h.size⟩
theorem Kn.sm (h : Kn w W N G cv cap fuel l) (hs : Sm W W') : Kn w W' N G cv cap fuel l := h.next ⟨hs.os, hs.tape, hs.output, by rw [hs.size]; exact Nat.le_refl _, fun k _ => by rw [hs.heap]⟩
/-- The cells of the game. -/
def GmC (G : Nat) (cv : Value) (cap fuel : Int) (V : World) : Prop := V.cell? ⟨G, 0, none⟩ = some cv ∧ V.cell? ⟨G, 1, none⟩ = some (.int .i64 cap) ∧ V.cell? ⟨G, 2, none⟩ = some (.int .i64 fuel)
theorem Kn.s (h : Kn w W N G cv cap fuel l) : W.cell? ⟨G, 0, none⟩ = some cv ∧ W.cell? ⟨G, 1, none⟩ = some (.int .i64 cap) ∧ W.cell? ⟨G, 2, none⟩ = some (.int .i64 fuel) := ⟨(h.g.cell 0).trans rfl, (h.g.cell 1).trans rfl, (h.g.cell 2).trans rfl⟩
theorem Kn.step (h : Kn w W N G cv cap fuel l) (s t : Sp) (i0 i1 e : Int) (hs : s.Wf) (hi0 : 0 ≤ i0 ∧ i0 < 65536) (hi1 : 0 ≤ i1 ∧ i1 < 65536) (he : stepF l cap fuel s i0 i1 = (t, e)) :
    Calls Try.prog 8 #[.agg #[cv, .int .i64 cap, .int .i64 fuel], .agg (stV s).toArray, .agg #[.int .u16 i0, .int .u16 i1]] W fun r w' => r = .returned (.tuple #[.agg (stV t).toArray, .int .i64 e]) ∧ Below W.heap.size W w' := by
  have := Step_any cv l cap fuel s i0 i1 W h.ls hs hi0 hi1
  rw [he] at this
  exact this
/-- A game just made. -/
theorem Kn.make (w : World) (l : List Ii) (cap fuel : Int) (hl : l.length ≤ 1000) : Kn w ((w.alloc (.cells (cells2 l).toArray 52)).alloc (.cells #[.slice (some ⟨w.heap.size, 0, none⟩) l.length l.length, .int .i64 cap, .int .i64 fuel] 24)) (w.heap.size + 2) (w.heap.size + 1) (.slice (some ⟨w.heap.size, 0, none⟩) l.length l.length) cap fuel l := by
  have hc : Cw (w.alloc (.cells (cells2 l).toArray 52)) w.heap.size (cells2 l) 52 := Cw.new _ _ _
  have hg := Cw.new (w.alloc (.cells (cells2 l).toArray 52)) [.slice (some ⟨w.heap.size, 0, none⟩) l.length l.length, .int .i64 cap, .int .i64 fuel] 24
  rw [World.size_alloc] at hg
  refine ⟨hg, Ls_of_block (hc.alloc _) (by unfold maxLen; omega), (((Below.refl w.heap.size w).alloc (Nat.le_refl _) _).alloc (by rw [World.size_alloc]; omega) _), by omega, by omega, ?_, ?_⟩
  · intro k hk
    have : w.heap.size = k := by simpa [Value.ownBlock] using hk
    omega
  · rw [World.size_alloc, World.size_alloc]; omega
/-- A variable for a state that was made ahead of a call. -/
theorem Kn.alloc1 {W0 wa : World} (H : Kn w W0.drew N G cv cap fuel l) (Ba : Below (W0.alloc (.cells zeroS.toArray 28)).drew.heap.size (W0.alloc (.cells zeroS.toArray 28)).drew wa) :
    Hid (Cw wa W0.heap.size zeroS 28) ∧ Hid (N ≤ W0.heap.size) ∧ Hid (Kn w wa N G cv cap fuel l) := by
  have h1 : Kn w (W0.alloc (.cells zeroS.toArray 28)).drew N G cv cap fuel l := (H.next (W' := W0.drew.alloc (.cells zeroS.toArray 28)) ((Below.refl _ _).alloc (Nat.le_refl _) _)).sm ⟨rfl, rfl, rfl, rfl⟩
  have h2 : Cw (W0.alloc (.cells zeroS.toArray 28)).drew W0.heap.size zeroS 28 := Cw.keep (Cw.new W0 zeroS 28) rfl
  refine ⟨h2.below Ba ?_, H.size, h1.next Ba⟩
  show W0.heap.size < (W0.alloc _).heap.size
  rw [World.size_alloc]; omega
theorem Kn.alloc2 {W0 wa : World} (H : Kn w W0 N G cv cap fuel l) (Ba : Below (W0.alloc (.cells zeroS.toArray 28)).heap.size (W0.alloc (.cells zeroS.toArray 28)) wa) :
    Hid (Cw wa W0.heap.size zeroS 28) ∧ Hid (N ≤ W0.heap.size) ∧ Hid (Kn w wa N G cv cap fuel l) := by
  have h1 : Kn w (W0.alloc (.cells zeroS.toArray 28)) N G cv cap fuel l := H.next ((Below.refl _ _).alloc (Nat.le_refl _) _)
  refine ⟨Cw.below (Cw.new W0 zeroS 28) Ba ?_, H.size, h1.next Ba⟩
  rw [World.size_alloc]; omega
/-- What a state needs, to be stored. -/
theorem st_len {s : Sp} (h : s.Wf) : Hid (zeroS.length = (stV s).length) := by rw [(stV_c h).len]; exact hid_into rfl
theorem st_one {s : Sp} (h : s.Wf) : Hid (∀ v ∈ stV s, v.oneCell' = true) := (stV_c h).one
theorem zeroS_size : Hid ((Try.prog.info? 28).map (·.size) = some zeroS.length) := Try.size28
theorem st_size {s : Sp} (h : s.Wf) : Hid ((Try.prog.info? 28).map (·.size) = some (stV s).length) := by rw [(stV_c h).len]; exact Try.size28
theorem startS_wf (k : Int) (hk : 0 ≤ k ∧ k < 4294967296) : (startS k).Wf := ⟨rfl, by intro x hx; simp only [startS, zeros, List.mem_cons, List.not_mem_nil, or_false, or_self] at hx; subst hx; exact zero_in, by show (0 : Int) ≤ (if k = 0 then 1 else k) ∧ (if k = 0 then 1 else k) < 4294967296; split <;> omega⟩
end Go.Proofs.Ytlknolbfhfcflaa
