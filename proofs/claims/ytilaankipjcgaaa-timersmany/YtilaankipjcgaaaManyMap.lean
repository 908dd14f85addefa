/-
  TimersMany: the law's own map of numbers to times.
-/
import Derived.Test.YtilaankipjcgaaaFullWalk
import Derived.Test.YtilaankipjcgaaaRef
namespace Go.Proofs.Ytilaankipjcgaaa
open Go.RowKit Go.Maps
def entsI (ms : List Pr) : List (Lit × DataW Value) := ms.map fun p => (.int .i64 p.1, .held (.int .i64 p.2))
def DmI (ms : List Pr) : DataW Value := .map (entsI ms)
def insI (x d : Int) : List Pr → List Pr
  | [] => [(x, d)]
  | y :: r => if x < y.1 then (x, d) :: y :: r else y :: insI x d r
def ptI (ms : List Pr) (x d : Int) : List Pr := insI x d (rm ms x)
theorem entsI_ins (x d : Int) : ∀ ms : List Pr, entsI (insI x d ms) = DataW.insert (.int .i64 x, .held (.int .i64 d)) (entsI ms)
  | [] => rfl
  | y :: r => by
    have ih := entsI_ins x d r
    simp only [insI, entsI, List.map_cons, DataW.insert, Lit.before] at ih ⊢
    by_cases h : x < y.1
    · simp [h]
    · simp [h, ih]
theorem entsI_rm (ms : List Pr) (x : Int) : entsI (rm ms x) = (entsI ms).filter fun p => !p.1.sameKey (.int .i64 x) := by
  simp only [entsI, rm, List.filter_map]
  congr 1
  apply List.filter_congr
  intro p _
  simp only [Function.comp, same_int]
theorem DmI_put (ms : List Pr) (x d : Int) : (DmI ms).put (.int .i64 x) (.held (.int .i64 d)) = DmI (ptI ms x d) := by
  simp only [DmI, DataW.put, ptI, entsI_ins, entsI_rm]
theorem DmI_size (ms : List Pr) : Maps.size (DmI ms) = ms.length := by simp [DmI, Maps.size, entsI]
theorem DmI_at (ms : List Pr) (x : Int) (z : DataW Value) : (DmI ms).atKey (.int .i64 x) z = match get ms x with | some d => .held (.int .i64 d) | none => z := by
  simp only [DmI, DataW.atKey, entsI, List.find?_map, get]
  have e : ((fun p : Lit × DataW Value => p.1.sameKey (.int .i64 x)) ∘ fun p : Pr => (Lit.int .i64 p.1, DataW.held (Value.int .i64 p.2))) = fun p => p.1 == x := by
    funext p
    simp only [Function.comp, same_int]
  rw [e]
  cases ms.find? fun p => p.1 == x <;> rfl
theorem insI_perm (x d : Int) : ∀ ms : List Pr, (insI x d ms).Perm ((x, d) :: ms)
  | [] => List.Perm.refl _
  | y :: r => by
    simp only [insI]
    split
    · exact List.Perm.refl _
    · exact ((insI_perm x d r).cons y).trans (List.Perm.swap _ _ _)
theorem zero3 (w : World) : (zeroValue 3).run Try.prog w = .ok (.int .i64 0) w := by kernel_rfl
/-- The law's map at block b holds s. -/
def Mp (w : World) (b : Nat) (s : List Pr) : Prop := ∃ ms, w.ownsMap Try.prog 3 Rv b ms.length (DmI ms) ∧ ms.Perm s
variable {w w' : World} {b : Nat} {s : List Pr}
theorem Mp.keep (h : Mp w b s) (hk : w'.heap[b]? = w.heap[b]?) : Mp w' b s := by
  obtain ⟨ms, h1, h2⟩ := h
  exact ⟨ms, ownsMap_keep h1 hk, h2⟩
theorem Mp.lt (h : Mp w b s) : b < w.heap.size := by obtain ⟨ms, h1, _⟩ := h; exact h1.lt
theorem Mp.put (h : Mp w b s) (hl : s.length ≤ 100000) {x : Int} (hx : In64 x) (d : Int) : ∃ w', (Instr.mapUpdate 42 (.map (some b)) (.int .i64 x) (.int .i64 d)).run Try.prog w = .ok () w' ∧ Mp w' b (put s x d) ∧ w.grownBy w' (some b) := by
  obtain ⟨ms, h1, h2⟩ := h
  obtain ⟨w', hr, ho, ht⟩ := h1.store lawI Try.underlying42 (by have := h2.length_eq; unfold maxLen; omega) (key3 hx) (val := .int .i64 d) (d := .held (.int .i64 d)) rfl
  rw [DmI_put] at ho
  have h3 := ownsMap_tight ho
  rw [DmI_size] at h3
  refine ⟨w', hr, ⟨_, h3, ?_⟩, ht.grown⟩
  exact (insI_perm x d _).trans (((rm_perm h2 x).cons _).trans (put_perm s x d).symm)
theorem Mp.look (h : Mp w b s) (hd : Dis s) {x d : Int} (hx : In64 x) (hg : get s x = some d) : (Instr.lookup 42 (.map (some b)) (.int .i64 x) false).run Try.prog w = .ok (.int .i64 d) w := by
  obtain ⟨ms, h1, h2⟩ := h
  obtain ⟨v, ps, hr, hv⟩ := h1.lookup lawI Try.underlying42 (zero3 w) (zd := .held (.int .i64 0)) rfl (key3 hx)
  rw [hr]
  have hgm : get ms x = some d := by rw [get_perm h2 (dis_perm hd h2.symm)]; exact hg
  have e : v = .int .i64 d := by
    simp only [Option.some.injEq, Prod.mk.injEq, DmI_at, hgm] at hv
    simpa using hv.1
  rw [e]
theorem Mp.len (h : Mp w b s) (ty : TypeId) : (Builtin.len_ #[42] ty #[.map (some b)]).run Try.prog w = .ok (.int .i64 (s.length : Int)) w := by
  obtain ⟨ms, h1, h2⟩ := h
  have := h1.len Try.underlying42 ty
  rw [DmI_size, h2.length_eq] at this
  exact this
theorem Mp.new (w : World) : Mp (w.alloc (.map #[] 0)) w.heap.size [] := ⟨[], World.ownsMap_made (H := Value) w Try.prog 3 Rv, List.Perm.refl _⟩
end Go.Proofs.Ytilaankipjcgaaa
