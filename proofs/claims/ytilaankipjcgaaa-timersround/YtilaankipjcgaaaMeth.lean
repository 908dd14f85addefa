/-
  How container/heap finds the methods of timers' queue; the queue in its struct (Tq).
-/
import Derived.Test.YtilaankipjcgaaaSwap
namespace Go.Proofs.Ytilaankipjcgaaa
open Go.RowKit
variable {w w' : World} {v : Value} {q : List Th}
theorem m_row (name : String) (f : FuncId) (hf : (Try.prog.info? 54).map (fun i => (i.methods.find? (·.name == name)).map fun m => (m.path, m.func)) = some (some (#[], some (f, false))))
    {a : Addr} (h : w.cell? a = some v) : (method 186 54 (.pointer (some a)) name).run Try.prog w = .ok (f, v) w := by
  cases hi : Try.prog.info? 54 with
  | none => rw [hi] at hf; cases hf
  | some i =>
    rw [hi] at hf
    simp only [Option.map_some, Option.some.injEq] at hf
    cases hm : i.methods.find? (·.name == name) with
    | none => rw [hm] at hf; cases hf
    | some m =>
      rw [hm] at hf
      simp only [Option.map_some, Option.some.injEq, Prod.mk.injEq] at hf
      have hag : ∀ w : World, (isAgg 47).run Try.prog w = .ok false w := fun w => by kernel_rfl
      have hw : ∀ (a : Addr) (s : String) (w : World), (Builtin.ssaWrapNilChk_ #[54] 54 #[.pointer (some a), strVal "", strVal s]).run Try.prog w = .ok (.pointer (some a)) w := fun a s w => by kernel_rfl
      obtain ⟨n, hn⟩ : ∃ n, 186 = n + 1 := ⟨185, rfl⟩
      rw [hn, method]
      clear hn
      simp only [typeInfo, Sem.run_bind, run_program, hi, Sem.run_pure, Result.andThen_ok, hm, hf.1, hf.2, List.toList_toArray, follow, receiverAt, Array.isEmpty]
      simp [go_sem, h, Place.get, hw, loadVar, hag, asAddr]
theorem m_len {a : Addr} (h : w.cell? a = some v) : (method 186 54 (.pointer (some a)) "Len").run Try.prog w = .ok (44, v) w := m_row _ _ (by kernel_rfl) h
theorem m_less {a : Addr} (h : w.cell? a = some v) : (method 186 54 (.pointer (some a)) "Less").run Try.prog w = .ok (45, v) w := m_row _ _ (by kernel_rfl) h
theorem m_swap {a : Addr} (h : w.cell? a = some v) : (method 186 54 (.pointer (some a)) "Swap").run Try.prog w = .ok (46, v) w := m_row _ _ (by kernel_rfl) h
theorem m_pop (w : World) (a : Addr) : (method 186 54 (.pointer (some a)) "Pop").run Try.prog w = .ok (50, .pointer (some a)) w := by kernel_rfl
theorem m_push (w : World) (a : Addr) : (method 186 54 (.pointer (some a)) "Push").run Try.prog w = .ok (51, .pointer (some a)) w := by kernel_rfl
/-- The queue in its struct at block sb; m: the map's cell. -/
structure Tq (w : World) (sb : Nat) (m v : Value) (q : List Th) : Prop where
  st : Cw w sb [m, v] 49
  qu : Qu w v q
theorem Tq.cell {sb : Nat} {m : Value} (h : Tq w sb m v q) : w.cell? ⟨sb, 1, none⟩ = some v := by rw [h.st.cell]; rfl
theorem Tq.below {sb : Nat} {m : Value} (h : Tq w sb m v q) (hb : Below w.heap.size w w') : Tq w' sb m v q := ⟨h.st.below hb h.st.lt, h.qu.below hb⟩
/-- The struct is none of the queue's blocks. -/
theorem Tq.ne {sb : Nat} {m : Value} (h : Tq w sb m v q) : ¬ own v q sb := by
  intro hk
  have h1 := h.st
  rw [Cw] at h1
  rcases h.qu.kind hk with ⟨cur, h2⟩ | ⟨cur, h2⟩ <;> rw [h2] at h1 <;> simp at h1
theorem Tq.grows {sb : Nat} {m : Value} {q' : List Th} (h : Tq w sb m v q) (hg : Grows (own v q) w w') (hq : Qu w' v q') : Tq w' sb m v q' := ⟨h.st.keep (hg.block sb h.st.lt h.ne), hq⟩
end Go.Proofs.Ytilaankipjcgaaa
