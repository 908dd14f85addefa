/-
  A queue of rows of bytes of one's own: its first one, the others, rows appended.
-/
import Derived.Test.YtahodgmdikaedaaDoorLkQue
import Derived.Test.YtahodgmdikaedaaDoorM11
import Derived.Deep.Upon
namespace Go.Proofs.YtahodgmdikaedaaDoor
open Go.RowKit
structure Rq (w : World) (B : Nat) (v : Value) (rs : List Rw2) : Prop where
  row : Qr w B 29 1 v rs.length (slOf rs)
  each : ∀ r ∈ rs, Ow w B r.1 r.2 ∧ ∀ k, r.1.ownBlock = some k → v.ownBlock ≠ some k
section
variable {w w' : World} {B : Nat} {v : Value} {rs : List Rw2}
theorem Rq.nil (w : World) (B : Nat) : Rq w B (.slice none 0 0) [] := ⟨Qr.nil _ _ _ _, fun r h => by cases h⟩
theorem Rq.gr {G : Nat → Prop} (h : Rq w B v rs) (hg : Gr G w w') (hn : ∀ k, B ≤ k → k < w.heap.size → ¬ G k) : Rq w' B v rs :=
  ⟨h.row.keep fun k hk hlt => hg.block k hlt (hn k (h.row.lt k hk).1 hlt), fun r hr => ⟨(h.each r hr).1.keep fun k hk hlt => hg.block k hlt (hn k (World.ownsRow.lt (h.each r hr).1 k hk).1 hlt), (h.each r hr).2⟩⟩
theorem Rq.own (h : Osl w B v rs) : Rq w B v rs := ⟨Qr.own h.row, fun r hr => ⟨(h.each r hr).1, (h.each r hr).2.2.2⟩⟩
theorem Rq.app {u : Value} {os : List Rw2} {n : Nat} (h : Rq w B v rs) (ho : Osl w n u os) (hn : B ≤ n) (hv : ∀ k, v.ownBlock = some k → k < n) (hl : rs.length + os.length ≤ 1000000) (hB : B ≤ w.heap.size) :
    ∃ ao cap w', (∀ ty, (Builtin.append_ #[33, 33] ty #[v, u]).run Tryd.prog w = .ok (.slice ao (rs.length + os.length) cap) w') ∧ Rq w' B (.slice ao (rs.length + os.length) cap) (rs ++ os) ∧ Gr (fun k => v.ownBlock = some k) w w' ∧ ((Value.slice ao (rs.length + os.length) cap).ownBlock = v.ownBlock ∨ ∃ k, (Value.slice ao (rs.length + os.length) cap).ownBlock = some k ∧ w.heap.size ≤ k) := by
  have fin : ∀ (ao : Option Addr) (cap : Nat) (w' : World), Qr w' B 29 1 (.slice ao (rs.length + os.length) cap) (rs.length + os.length) (slOf rs ++ slOf os) → Gr (fun k => v.ownBlock = some k) w w' → ((Value.slice ao (rs.length + os.length) cap).ownBlock = v.ownBlock ∨ ∃ k, (Value.slice ao (rs.length + os.length) cap).ownBlock = some k ∧ w.heap.size ≤ k) → Rq w' B (.slice ao (rs.length + os.length) cap) (rs ++ os) := fun ao cap w' hq hg hat => by
    refine ⟨by rw [List.length_append, show slOf (rs ++ os) = slOf rs ++ slOf os by simp [slOf]]; exact hq, fun r hr => ?_⟩
    rcases List.mem_append.1 hr with hr | hr
    · obtain ⟨e1, e2⟩ := h.each r hr
      refine ⟨e1.keep fun k hk hlt => hg.block k hlt (e2 k hk), fun k hk e => ?_⟩
      rcases hat with h1 | ⟨k', h1, h2⟩
      · exact e2 k hk (by rw [← h1]; exact e)
      · rw [h1] at e
        have := Option.some.inj e
        have := (World.ownsRow.lt e1 k hk).2
        omega
    · obtain ⟨e1, _, _, _⟩ := ho.each r hr
      have hlt := World.ownsRow.lt e1
      refine ⟨(e1.keep fun k hk hl2 => hg.block k hl2 fun e => by have := hv k e; have := (hlt k hk).1; omega).mono hn, fun k hk e => ?_⟩
      rcases hat with h1 | ⟨k', h1, h2⟩
      · have := hv k (by rw [← h1]; exact e)
        have := (hlt k hk).1
        omega
      · rw [h1] at e
        have := Option.some.inj e
        have := (hlt k hk).2
        omega
  rcases ho.row.2 with ⟨rfl, h0⟩ | ⟨g, cap, cur, rfl, b1, b2, b3, b4, b5, b6⟩
  · obtain rfl : os = [] := List.eq_nil_of_length_eq_zero h0
    obtain ⟨i0, hi, hz0, hz1, hz2⟩ := info_parts Tryd.info22
    obtain ⟨ao, cp, hv2⟩ := h.row.form
    subst hv2
    have hle : rs.length ≤ cp := by
      rcases h.row.2 with ⟨e1, e2⟩ | ⟨_, _, _, _, e1, _, _, e2, _⟩
      · omega
      · simp only [Value.slice.injEq] at e1
        obtain ⟨_, _, rfl⟩ := e1
        exact e2
    have hq : Qr w B 29 1 (.slice ao (rs.length + ([] : List Rw2).length) cp) (rs.length + ([] : List Rw2).length) (slOf rs ++ slOf []) := by
      have := h.row
      simpa [slOf] using this
    exact ⟨ao, cp, w, fun ty => run_append_nothing w 33 33 ty 29 i0 Tryd.underlying33 hi ao rs.length cp hle _ (Src.ofNil w Tryd.underlying33 0), fin ao cp w hq (Gr.refl _ _) (Or.inl rfl), Gr.refl _ _, Or.inl rfl⟩
  · have hcell : ∀ j u, (slOf os)[j]? = some u → w.cell? ((⟨g, 0, none⟩ : Addr).add j) = some u := fun j u hu => by
      rw [Addr.add_lit, Nat.zero_add, cell_of_row w g j _ _ _ b2, ← Array.getElem?_toList]
      rw [← b6] at hu
      have hj : j < os.length * 1 := by
        have := (List.getElem?_eq_some_iff.1 hu).1
        rw [List.length_take] at this
        omega
      rw [List.getElem?_take_of_lt hj] at hu
      exact hu
    obtain ⟨ao, cp, w', hrun, hq, hg, hat⟩ := h.row.append 33 (.slice none 0 0) Tryd.underlying33 Tryd.info22 rfl (by decide) ⟨g, 0, none⟩ os.length cap (slOf os) (by simp [slOf]) hcell (fun u hu => by
      obtain ⟨r, hr, rfl⟩ := List.mem_map.1 hu
      obtain ⟨a1, c1, e, _⟩ := (ho.each r hr).1.bs.len
      rw [e]; rfl) (by unfold maxLen; omega) (by omega) hB
    have hG : Gr (fun k => v.ownBlock = some k) w w' := Gr.grownBy hg fun k hk => hk
    exact ⟨ao, cp, w', hrun, fin ao cp w' hq hG hat, hG, hat⟩
/-- The first row. -/
theorem Rq.head {r : Rw2} (h : Rq w B v (r :: rs)) : ∃ g off cap ap cp, v = .slice (some ⟨g, off, none⟩) (rs.length + 1) cap ∧ rs.length + 1 ≤ cap ∧ cap ≤ maxLen ∧ w.cell? ⟨g, off, none⟩ = some (.slice ap r.2.length cp) ∧ Bs w (.slice ap r.2.length cp) r.2 ∧ (∀ k, (Value.slice ap r.2.length cp).ownBlock = some k → B ≤ k ∧ k < w.heap.size) ∧
    Rq w B (.slice (if cap = 1 then some ⟨g, off, none⟩ else some ⟨g, off + 1, none⟩) rs.length (cap - 1)) rs := by
  obtain ⟨e1, e2⟩ := h.each r (List.mem_cons_self ..)
  obtain ⟨g, off, cap, hv, c1, c2, ht⟩ := Qr.tail (n := rs.length) h.row
  obtain ⟨g2, off2, cap2, hv2, _, _, _, _, hc, _⟩ := Qr.cell (n := rs.length + 1) h.row (by omega)
  rw [hv] at hv2
  simp only [Value.slice.injEq, Option.some.injEq, Addr.mk.injEq, and_true] at hv2
  obtain ⟨⟨rfl, rfl⟩, _, rfl⟩ := hv2
  obtain ⟨ap, cp, hr, _⟩ := e1.bs.len
  have hb := e1.bs
  have hx := World.ownsRow.lt e1
  rw [hr] at hb hx
  refine ⟨g, off, cap, ap, cp, hv, c1, c2, by have := hc 0 r.1 (by simp [slOf]); rw [Nat.add_zero, hr] at this; exact this, hb, hx, ?_, fun q hq => ?_⟩
  · have : (slOf (r :: rs)).drop 1 = slOf rs := rfl
    rw [this] at ht
    exact ht
  · obtain ⟨f1, f2⟩ := h.each q (List.mem_cons_of_mem _ hq)
    refine ⟨f1, fun k hk e => f2 k hk ?_⟩
    rw [hv]
    rw [← e]
    split <;> rfl
end
end Go.Proofs.YtahodgmdikaedaaDoor
