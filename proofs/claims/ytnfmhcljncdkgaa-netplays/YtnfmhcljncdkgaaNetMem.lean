/-
  The program's Net in memory: its messages' cells (ltC), a row of them with its spare room, a change of one block in the middle; what a step may change (Gr).
-/
import Derived.Test.YtnfmhcljncdkgaaRow
import Derived.Test.YtnfmhcljncdkgaaOwnG
import Derived.Test.YtnfmhcljncdkgaaNetPlain
import Derived.Laws.BytesArg
namespace Go.Proofs.Ytnfmhcljncdkgaa
open Go.RowKit
/-- A message as the program keeps it. -/
def ltC (m : Mg) : List Value := [.int .i64 m.fr, .int .i64 m.to, .string (strOfNums m.d)]
theorem KL : Ax.Kd Try.prog 54 59 3 ltC where
  ty := Try.underlying54
  len := fun _ => rfl
  one := fun s u hu => by simp only [ltC, List.mem_cons, List.not_mem_nil, or_false] at hu; rcases hu with rfl | rfl | rfl <;> rfl
  pos := by decide
  inf := ⟨.agg #[.int .i64 0, .int .i64 0, .string ⟨#[]⟩], 32, by kernel_rfl, rfl, by decide⟩
def flL (L : List Mg) : List Value := L.flatMap ltC
theorem flL_len (L : List Mg) : (flL L).length = L.length * 3 := Ax.fm_len (en := ltC) (c := 3) (fun _ => rfl) L
theorem flL_app (A B : List Mg) : flL (A ++ B) = flL A ++ flL B := by simp [flL]
theorem flL_cons (m : Mg) (B : List Mg) : flL (m :: B) = ltC m ++ flL B := rfl
theorem flL_one (L : List Mg) : ∀ u ∈ flL L, u.oneCell' = true := fun u hu => by
  obtain ⟨s, _, hs⟩ := List.mem_flatMap.1 hu
  exact KL.one s u hs
/-- A row of messages, from block base on. -/
abbrev Rm (w : World) (base : Nat) (v : Value) (L : List Mg) : Prop := Ax.Ro w base 59 3 ltC v L
theorem setCells_mid (b : Nat) (t : TypeId) (post : List Value) : ∀ (vs pre old : List Value) (w : World), Cw w b (pre ++ old ++ post) t → old.length = vs.length → Cw (w.setCells b pre.length vs) b (pre ++ vs ++ post) t
  | [], pre, old, w, h, hl => by
    have : old = [] := List.eq_nil_of_length_eq_zero hl
    subst this
    exact h
  | v :: vs, pre, [], w, h, hl => by simp at hl
  | v :: vs, pre, u :: old, w, h, hl => by
    have h1 : Cw (w.setCell ⟨b, pre.length, none⟩ v) b ((pre ++ [v]) ++ old ++ post) t := by
      have := h.set pre.length v
      simpa using this
    have h2 := setCells_mid b t post vs (pre ++ [v]) old _ h1 (by simpa using hl)
    show Cw ((w.setCell ⟨b, pre.length, none⟩ v).setCells b (pre.length + 1) vs) b _ t
    simpa using h2
theorem Cw.thereAt {w : World} {g : Nat} {cs : List Value} {t : TypeId} (h : Cw w g cs t) (o n : Nat) (hn : o + n ≤ cs.length) : w.there g o n := by
  intro j hj
  rw [h.cell, h.frozen]
  simp [show o + j < cs.length by omega]
/-- A row that is not nil, opened. -/
theorem Rm.spot {w : World} {base : Nat} {v : Value} {L : List Mg} (h : Rm w base v L) (hL : L ≠ []) : ∃ g cap rest, v = .slice (some ⟨g, 0, none⟩) L.length cap ∧ base ≤ g ∧ Cw w g (flL L ++ rest) 59 ∧ (flL L ++ rest).length = cap * 3 ∧ L.length ≤ cap ∧ cap ≤ maxLen := by
  rcases h.2 with ⟨rfl, h0⟩ | ⟨g, cap, cur, rfl, hb, hg, hn, hc, hs, ht⟩
  · exact absurd (List.eq_nil_of_length_eq_zero h0) hL
  · have e : cur.toList = flL L ++ cur.toList.drop (L.length * 3) := by
      conv => lhs; rw [← List.take_append_drop (L.length * 3) cur.toList]
      rw [ht]; rfl
    refine ⟨g, cap, cur.toList.drop (L.length * 3), rfl, hb, ?_, ?_, hn, hc⟩
    · unfold Cw; rw [← e]; exact hg
    · rw [← e, Array.length_toList]; exact hs
theorem Rm.mk {w : World} {base g cap : Nat} {L : List Mg} {cs rest : List Value} (hb : base ≤ g) (h : Cw w g cs 59) (he : cs = flL L ++ rest) (hl : cs.length = cap * 3) (hn : L.length ≤ cap) (hc : cap ≤ maxLen) : Rm w base (.slice (some ⟨g, 0, none⟩) L.length cap) L := by
  subst he
  refine ⟨flL_len L, Or.inr ⟨g, cap, (flL L ++ rest).toArray, rfl, hb, h, hn, hc, by rw [List.size_toArray]; exact hl, ?_⟩⟩
  have := flL_len L
  rw [show (flL L ++ rest).toArray.toList = flL L ++ rest from rfl, List.take_append_of_le_length (by omega), List.take_of_length_le (by omega)]
  rfl
theorem run_clear_row {P : Program} (w : World) (t e ty : TypeId) (z : Value) (ht : P.underlying t = some (.slice e)) (hv : ∀ w, (zeroValue e).run P w = .ok z w) (b o n c : Nat) (hn : 0 < n) (zs : List Value) (hz : (Builtin.zeroCells z.cells n).toList = zs)
    (h1 : ∀ u ∈ zs, u.oneCell' = true) (hc : w.there b o zs.length) :
    (Builtin.clear_ #[t] ty #[.slice (some ⟨b, o, none⟩) n c]).run P w = .ok (.tuple #[]) (w.setCells b o zs) := by
  have hst := run_storeCells_cells (P := P) b o zs 0 w (by intro j hj; simpa using (hc j hj).1) (by intro j hj; simpa using (hc j hj).2) h1
  simp only [Nat.add_zero] at hst
  obtain ⟨m, rfl⟩ : ∃ m, n = m + 1 := ⟨n - 1, by omega⟩
  simp [Builtin.clear_, run_underlying ht, hv, hz, hst]
/-- The world w' is w but for the blocks of F, and new ones. -/
structure Gr (F : Nat → Prop) (w w' : World) : Prop where
  os : w'.os = w.os
  tape : w'.tape = w.tape
  output : w'.output = w.output
  size : w.heap.size ≤ w'.heap.size
  block : ∀ k, k < w.heap.size → ¬ F k → w'.heap[k]? = w.heap[k]?
theorem Gr.refl (F : Nat → Prop) (w : World) : Gr F w w := ⟨rfl, rfl, rfl, Nat.le_refl _, fun _ _ _ => rfl⟩
theorem Gr.mono {F G : Nat → Prop} {w w' : World} (h : Gr F w w') (hg : ∀ k, F k → G k) : Gr G w w' := ⟨h.os, h.tape, h.output, h.size, fun k hk hn => h.block k hk fun hf => hn (hg k hf)⟩
theorem Gr.trans {F F' : Nat → Prop} {w w' w'' : World} (h : Gr F w w') (h' : Gr F' w' w'') (hn : ∀ k, F' k → F k ∨ w.heap.size ≤ k) : Gr F w w'' :=
  ⟨h'.os.trans h.os, h'.tape.trans h.tape, h'.output.trans h.output, Nat.le_trans h.size h'.size, fun k hk hf => (h'.block k (Nat.lt_of_lt_of_le hk h.size) fun h1 => by rcases hn k h1 with h2 | h2; exact hf h2; omega).trans (h.block k hk hf)⟩
theorem Gr.of_below {w w' : World} {B : Nat} (h : Below B w w') (F : Nat → Prop) (hF : ∀ k, k < w.heap.size → B ≤ k → F k) : Gr F w w' :=
  ⟨h.os, h.tape, h.output, h.size, fun k hk hf => by
    by_cases hb : k < B
    · exact h.block k hb
    · exact absurd (hF k hk (by omega)) hf⟩
theorem Gr.below {F : Nat → Prop} {w w' : World} (h : Gr F w w') {B : Nat} (hB : B ≤ w.heap.size) (hF : ∀ k, F k → B ≤ k) : Below B w w' :=
  ⟨h.os, h.tape, h.output, h.size, fun k hk => h.block k (by omega) fun hf => by have := hF k hf; omega⟩
theorem Gr.alloc (F : Nat → Prop) (w : World) (o : Obj) : Gr F w (w.alloc o) := ⟨rfl, rfl, rfl, by simp, fun k hk _ => Below.heap_alloc _ _ _ hk⟩
theorem Gr.drew (F : Nat → Prop) (w : World) : Gr F w w.drew := ⟨rfl, rfl, rfl, Nat.le_refl _, fun _ _ _ => rfl⟩
theorem Gr.setCell {F : Nat → Prop} (w : World) (a : Addr) (v : Value) (h : F a.block) : Gr F w (w.setCell a v) :=
  ⟨rfl, rfl, rfl, by simp [World.setCell], fun k _ hf => Below.heap_setCell _ _ _ _ fun e => hf (e ▸ h)⟩
theorem Gr.setCells {F : Nat → Prop} (w : World) (b o : Nat) (vs : List Value) (h : F b) : Gr F w (w.setCells b o vs) :=
  have k := setCells_rest b vs o w
  ⟨k.1, k.2.1, k.2.2.1, by rw [k.2.2.2]; exact Nat.le_refl _, fun j _ hf => setCells_other b j (fun e => hf (e ▸ h)) vs o w⟩
theorem Gr.grownBy {F : Nat → Prop} {w w' : World} {r : Option Nat} (h : w.grownBy w' r) (hr : ∀ k, r = some k → F k) : Gr F w w' :=
  ⟨h.os, h.tape, h.output, h.size, fun k hk hf => h.block k hk fun e => hf (hr k e.symm)⟩
theorem Gr.cw {F : Nat → Prop} {w w' : World} {g : Nat} {cs : List Value} {t : TypeId} (h : Gr F w w') (hc : Cw w g cs t) (hf : ¬ F g) : Cw w' g cs t := hc.keep (h.block g hc.lt hf)
theorem Gr.bs {F : Nat → Prop} {w w' : World} {v : Value} {zs : List Int} (h : Gr F w w') (hb : Bs w v zs) (hf : ∀ k, v.ownBlock = some k → ¬ F k) : Bs w' v zs := hb.keep fun k hk hl => h.block k hl (hf k hk)
end Go.Proofs.Ytnfmhcljncdkgaa
