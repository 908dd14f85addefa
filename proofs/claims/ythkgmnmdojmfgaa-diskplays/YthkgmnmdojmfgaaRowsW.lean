/-
  Rows of bytes that came in (Rs), how much they are (wt); a disk of the call's own that holds at most one file.
-/
import Derived.Test.YthkgmnmdojmfgaaKnown
namespace Go.Proofs.Ythkgmnmdojmfgaa
open Go.RowKit Go.Maps
variable {w w' w0 : World} {sb : Nat} {room : Int} {fs : Fls} {lit : Bool} {left : Int}

/-- A row: its slice, its bytes. -/
abbrev Rw := Value × List Int
/-- What is known of a row that came in. -/
def RwOk (w : World) (r : Rw) : Prop := Bs w r.1 r.2 ∧ Byt r.2 ∧ r.2.length ≤ 140737488355328
/-- The slice v reads as the rows rs. -/
def Rs (w : World) (v : Value) (rs : List Rw) : Prop :=
  ∃ ao cap, v = .slice ao rs.length cap ∧ rs.length ≤ 140737488355328 ∧ (∀ r ∈ rs, RwOk w r) ∧
    (rs ≠ [] → ∃ b off, ao = some ⟨b, off, none⟩ ∧ ∀ i r, rs[i]? = some r → w.cell? ⟨b, off + i, none⟩ = some r.1)
theorem RwOk.below {r : Rw} (h : RwOk w r) (hb : Below w.heap.size w w') : RwOk w' r := ⟨h.1.below hb (Nat.le_refl _), h.2⟩
theorem Rs.below {v : Value} {rs : List Rw} (h : Rs w v rs) (hb : Below w.heap.size w w') : Rs w' v rs := by
  obtain ⟨ao, cap, hv, hl, hr, hc⟩ := h
  refine ⟨ao, cap, hv, hl, fun r hm => (hr r hm).below hb, fun hne => ?_⟩
  obtain ⟨b, off, e, hcell⟩ := hc hne
  refine ⟨b, off, e, fun i r hi => ?_⟩
  have h1 := hcell i r hi
  rw [World.cell?_of_block (w := w) (hb.block b (World.block_lt_of_cell? w _ h1))]
  exact h1
theorem Rs.form {v : Value} {rs : List Rw} (h : Rs w v rs) : ∃ ao cap, v = .slice ao rs.length cap ∧ rs.length ≤ 140737488355328 ∧ True := by
  obtain ⟨ao, cap, hv, hl, _⟩ := h
  exact ⟨ao, cap, hv, hl, trivial⟩
/-- The i-th row, as a round reads it. -/
theorem Rs.get {rs : List Rw} {ao : Option Addr} {cap : Nat} (h : Rs w (.slice ao rs.length cap) rs) {i : Nat} (hi : i < rs.length) :
    ∃ b off ap cp zs, ao = some ⟨b, off, none⟩ ∧ rs[i]? = some (.slice ap zs.length cp, zs) ∧ w.cell? ⟨b, off + i, none⟩ = some (.slice ap zs.length cp) ∧ Bs w (.slice ap zs.length cp) zs ∧ Byt zs ∧ zs.length ≤ 140737488355328 := by
  obtain ⟨ao', cap', hv, hl, hr, hc⟩ := h
  simp only [Value.slice.injEq] at hv
  obtain ⟨rfl, _, rfl⟩ := hv
  obtain ⟨b, off, e, hcell⟩ := hc (fun e => by rw [e] at hi; simp at hi)
  have hg : rs[i]? = some rs[i] := List.getElem?_eq_getElem hi
  obtain ⟨hb, hby, hlen⟩ := hr _ (List.getElem_mem hi)
  obtain ⟨ap, cp, hsv, _⟩ := hb.len
  generalize rs[i] = r at *
  obtain ⟨v, zs⟩ := r
  simp only at hsv hb hby hlen
  subst hsv
  exact ⟨b, off, ap, cp, zs, e, hg, hcell i _ hg, hb, hby, hlen⟩
/-- How many bytes rows have. -/
def sl (rs : List Rw) : Nat := (rs.map fun r => r.2.length).sum
theorem sl_take {rs : List Rw} {i : Nat} {r : Rw} (h : rs[i]? = some r) : sl (rs.take (i + 1)) = sl (rs.take i) + r.2.length := by
  obtain ⟨hi, e⟩ := List.getElem?_eq_some_iff.1 h
  rw [List.take_succ_eq_append_getElem hi, e]
  simp [sl]
theorem sl_append (a b : List Rw) : sl (a ++ b) = sl a + sl b := by simp [sl]
theorem sl_take_le (rs : List Rw) (i : Nat) : sl (rs.take i) ≤ sl rs := by
  have := sl_append (rs.take i) (rs.drop i)
  rw [List.take_append_drop] at this
  omega
theorem sl_all (rs : List Rw) : sl (rs.take rs.length) = sl rs := by rw [List.take_length]
theorem Ss.fits (h : Ss w0 w sb room fs lit left) : (tot fs : Int) ≤ room ∧ fs.length ≤ 4096 ∧ 0 ≤ room ∧ room ≤ 1073741824 := by
  obtain ⟨F, mb, h1, _, _⟩ := h
  exact ⟨h1.fits, h1.cnt, h1.room0⟩
theorem burnL_out (ev : Int) (left : Int) : burnL ev false left = left := by simp [burnL]
end Go.Proofs.Ythkgmnmdojmfgaa
