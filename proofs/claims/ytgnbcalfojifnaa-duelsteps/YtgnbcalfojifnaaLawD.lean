/-
  Words for duel's laws: what the law holds in its own variables (Pw), a copy of a row of pairs.
-/
import Derived.Test.YtgnbcalfojifnaaRPlay
import Derived.Test.YtgnbcalfojifnaaDKnown
import Derived.Test.YtgnbcalfojifnaaStEq
namespace Go.Proofs.Ytgnbcalfojifnaa
open Go.RowKit
/-- What stays true where blocks stay as they were. -/
def Stab (T : World → Prop) : Prop := ∀ V V' : World, T V → (∀ k, k < V.heap.size → V'.heap[k]? = V.heap[k]?) → T V'
theorem Stab.and {T U : World → Prop} (h : Stab T) (k : Stab U) : Stab fun V => T V ∧ U V := fun V V' hT hk => ⟨h V V' hT.1 hk, k V V' hT.2 hk⟩
theorem Stab.cw (g : Nat) (cs : List Value) (t : TypeId) : Stab fun V => Cw V g cs t := fun _ _ h hk => h.keep (hk g h.lt)
theorem Stab.so (base : Nat) (v : Value) (xs : List Sp) : Stab fun V => So V base v xs := fun _ _ h hk => h.keep fun k _ hl => hk k hl
theorem Stab.po (base : Nat) (v : Value) (ps : List (Int × Int)) : Stab fun V => Po V base v ps := fun _ _ h hk => h.keep fun k _ hl => hk k hl
def Nil (_ : World) : Prop := True
theorem Stab.nil : Stab Nil := fun _ _ h _ => h
/-- The game, and what else the law holds. -/
structure Pw (w W : World) (cv : Value) (cap fuel : Int) (T : World → Prop) : Prop where
  g : Cw W w.heap.size [cv, .int .i64 cap, .int .i64 fuel] 24
  below : Below w.heap.size w W
  t : T W
  st : Stab T
section
variable {w W W' : World} {cv : Value} {cap fuel : Int} {T : World → Prop}
theorem Pw.make (w : World) (cv : Value) (cap fuel : Int) : Pw w (w.alloc (.cells #[cv, .int .i64 cap, .int .i64 fuel] 24)) cv cap fuel Nil := ⟨Cw.new w [cv, .int .i64 cap, .int .i64 fuel] 24, (Below.refl _ _).alloc (Nat.le_refl _) _, trivial, Stab.nil⟩
theorem Pw.next (h : Pw w W cv cap fuel T) (hb : Below W.heap.size W W') : Pw w W' cv cap fuel T := ⟨h.g.below hb h.g.lt, h.below.trans (hb.mono h.below.size), h.st _ _ h.t fun k hk => hb.block k hk, h.st⟩
theorem Pw.add (h : Pw w W cv cap fuel T) {U : World → Prop} (hu : U W) (su : Stab U) : Pw w W cv cap fuel fun V => T V ∧ U V := ⟨h.g, h.below, ⟨h.t, hu⟩, h.st.and su⟩
theorem Pw.lt (h : Pw w W cv cap fuel T) : w.heap.size < W.heap.size := h.g.lt
/-- A new variable, written. -/
theorem Pw.fresh {W1 W2 : World} {cs : List Value} (h : Pw w W cv cap fuel T) (B : Below W.heap.size W W1) (O : Only W.heap.size W1 W2) (hc : Cw W2 W.heap.size cs 30) : Pw w W2 cv cap fuel fun V => T V ∧ Cw V W.heap.size cs 30 := by
  have hl := h.lt
  have hk : ∀ k, k < W.heap.size → W2.heap[k]? = W.heap[k]? := fun k hk => (O.block k (by omega)).trans (B.block k hk)
  exact ⟨h.g.keep (hk _ hl), (h.below.trans (B.mono h.below.size)).trans (O.below h.below.size), ⟨h.st _ _ h.t hk, hc⟩, h.st.and (Stab.cw _ _ _)⟩
theorem Pw.cells (h : Pw w W cv cap fuel T) : W.cell? ⟨w.heap.size, 0, none⟩ = some cv ∧ W.cell? ⟨w.heap.size, 1, none⟩ = some (.int .i64 cap) ∧ W.cell? ⟨w.heap.size, 2, none⟩ = some (.int .i64 fuel) := ⟨h.g.cell 0, h.g.cell 1, h.g.cell 2⟩
end
theorem Po.empty (w : World) {base : Nat} (hb : base ≤ w.heap.size) : Po (w.alloc (.cells #[] 43)) base (.slice (some ⟨w.heap.size, 0, none⟩) 0 0) [] :=
  ⟨rfl, Or.inr ⟨w.heap.size, 0, #[], rfl, hb, heap_alloc_new w _, Nat.le_refl _, by unfold maxLen; omega, rfl, rfl⟩⟩
/-- append([]Pair{}, in...). -/
theorem wpList_copy_ps (w : World) {ops : Array Oper} {rest : List Oper} {o : Oper} {a : Act} {Q : Exit → Act → World → Prop} (hgd : o.guard = none) (s x : Operand)
    (ho : o.op = .call { callee := .builtin .append, args := #[s, x], argTypes := #[26, 26] })
    (N : Nat) (hs : a.eval s = .slice (some ⟨N, 0, none⟩) 0 0) (hown : Po w N (.slice (some ⟨N, 0, none⟩) 0 0) []) (hN : N ≤ w.heap.size) (vx : Value) (zs : List (Int × Int)) (hx : a.eval x = vx) (hb : Ps w vx zs) (h63 : zs.length ≤ 1000)
    (h : ∀ ao cap w', Po w' N (.slice ao zs.length cap) zs → Below N w w' → wpList Try.prog ops Q rest (a.put o.dst (.slice ao zs.length cap)) w') : wpList Try.prog ops Q (o :: rest) a w := by
  refine wpList_append_ps w hgd s x ho N _ [] hs hown vx zs hx hb (by simp only [List.length_nil]; omega) hN ?_
  intro ao cap w' h1 h2 _
  simp only [List.length_nil, Nat.zero_add, List.nil_append] at h1 ⊢
  exact h ao cap w' h1 (Grows.below (Grows.grownBy (F := fun k => k = N) h2 fun k hk => by simpa [Value.ownBlock] using hk.symm) hN fun k hk => by omega)
/-- What the law's play is, ready for the walk. -/
theorem run_neqS {s : Sp} (hs : s.Wf) : Hid (∀ w : World, (Op.equalIn 10000 30 (.agg (stV s).toArray) (.agg (stV s).toArray)).run Try.prog w = .ok true w) := by
  have h := run_eqS s s hs hs
  rw [eqS_same] at h
  exact h
end Go.Proofs.Ytgnbcalfojifnaa
