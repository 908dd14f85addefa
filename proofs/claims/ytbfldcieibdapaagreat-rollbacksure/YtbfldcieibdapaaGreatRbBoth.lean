/-
  Both sessions, the program's and the document's, side by side (Bt); each call of either; the work stays small.
-/
import Derived.Test.YtbfldcieibdapaaGreatM38
import Derived.Test.YtbfldcieibdapaaGreatM09
namespace Go.Proofs.YtbfldcieibdapaaGreat
open Go.RowKit
theorem Rx.keep2 {w w' : World} {lo hi : Nat} {Y : Yx} {G : Gm} {s : Sa} (h : Rx w lo hi Y G s) (hk : ∀ k, lo ≤ k → k < hi → w'.heap[k]? = w.heap[k]?) (hc : G.l ≠ [] → ∀ k, Y.cv.ownBlock = some k → w'.heap[k]? = w.heap[k]?) (hz : hi ≤ w'.heap.size) : Rx w' lo hi Y G s :=
  ⟨h.c.keep (hk _ h.x.s.1 h.x.s.2), h.q.keep (fun k h1 h2 => hk k (by have := h.x.q; omega) (by have := h.x.q; omega)), h.l.keepN hc, h.x, hz, h.ok, h.g, h.nc⟩
/-- The program's session (s) and the document's (t). -/
structure Bt (w W : World) (lo hi : Nat) (X : Sx) (lo2 hi2 : Nat) (Y : Yx) (G : Gm) (s t : Sa) : Prop where
  se : Se W lo hi X G s
  rx : Rx W lo2 hi2 Y G t
  b : Below w.heap.size w W
  lo : w.heap.size ≤ lo
  ord : hi ≤ lo2
  cv : G.l ≠ [] → ∀ k, Y.cv.ownBlock = some k → k < w.heap.size
section
variable {w W W' : World} {lo hi lo2 hi2 : Nat} {X : Sx} {Y : Yx} {G : Gm} {s t u : Sa}
theorem Bt.next (h : Bt w W lo hi X lo2 hi2 Y G s t) (hb : Below W.heap.size W W') : Bt w W' lo hi X lo2 hi2 Y G s t := ⟨h.se.below hb, h.rx.below hb, h.b.trans (hb.mono h.b.size), h.lo, h.ord, h.cv⟩
theorem Bt.sm (h : Bt w W lo hi X lo2 hi2 Y G s t) (hb : Sm W W') : Bt w W' lo hi X lo2 hi2 Y G s t := h.next (hb.below _)
theorem Bt.lohi (h : Bt w W lo hi X lo2 hi2 Y G s t) : lo ≤ hi ∧ lo2 ≤ hi2 := ⟨by have := h.se.x.s; omega, by have := h.rx.x.s; omega⟩
theorem Bt.grow (h : Bt w W lo hi X lo2 hi2 Y G s t) (hs : Se W' lo hi X G u) (hg : Grows (In2 lo hi) W W') : Bt w W' lo hi X lo2 hi2 Y G u t := by
  have hz := h.rx.z
  have ho := h.ord
  have hl := h.lo
  have hb := h.b.size
  have hlh := h.lohi
  refine ⟨hs, h.rx.keep2 (fun k h1 h2 => hg.block k (by omega) (fun hf => by have := hf.2; omega)) (fun hn k hk => hg.block k (by have := h.cv hn k hk; omega) (fun hf => by have := hf.1; have := h.cv hn k hk; omega)) (Nat.le_trans hz hg.size), h.b.trans (hg.below hb fun _ hk => Nat.le_trans hl hk.1), hl, ho, h.cv⟩
theorem Bt.rgrow (h : Bt w W lo hi X lo2 hi2 Y G s t) (hs : Rx W' lo2 hi2 Y G u) (hg : Grows (In2 lo2 hi2) W W') : Bt w W' lo hi X lo2 hi2 Y G s u := by
  have hz := h.rx.z
  have ho := h.ord
  have hl := h.lo
  have hb := h.b.size
  have hlh := h.lohi
  exact ⟨h.se.grows hg (fun k hk => Or.inr (by have := hk.1; omega)), hs, h.b.trans (hg.below hb fun _ hk => by have := hk.1; omega), hl, ho, h.cv⟩
theorem Bt.Local (h : Bt w W lo hi X lo2 hi2 Y G s t) (hst : 0 ≤ s.st ∧ s.st < 4611686018427300000) {x : Int} (hx : 0 ≤ x ∧ x < 65536) : Calls Tryz.prog 13 #[.pointer (some ⟨X.sb, 0, none⟩), .int .u16 x] W fun e w' => e = .returned (.tuple #[.int .i64 (locA s G).1, .int .i64 (locA s G).2]) ∧ Bt w w' lo hi X lo2 hi2 Y G (locS s G x) t ∧ Grows (In2 lo hi) W w' := (h.se.Local hst hx).mono (by rintro e w' ⟨rfl, h1, h2⟩; exact ⟨rfl, h.grow h1 h2, h2⟩)
theorem Bt.rLocal (h : Bt w W lo hi X lo2 hi2 Y G s t) (hst : 0 ≤ t.st ∧ t.st < 4611686018427300000) {x : Int} (hx : 0 ≤ x ∧ x < 65536) : Calls Tryz.prog 14 #[.pointer (some ⟨Y.sb, 0, none⟩), .int .u16 x] W fun e w' => e = .returned (.tuple #[.int .i64 (locA t G).1, .int .i64 (locA t G).2]) ∧ Bt w w' lo hi X lo2 hi2 Y G s (locS t G x) ∧ Grows (In2 lo2 hi2) W w' := (rLocal_any h.rx hst hx).mono (by rintro e w' ⟨rfl, h1, h2⟩; exact ⟨rfl, h.rgrow h1 h2, h2⟩)
theorem Bt.Remote (h : Bt w W lo hi X lo2 hi2 Y G s t) (hst : 0 ≤ s.st ∧ s.st < 4611686018427300000) (hwr : 0 ≤ s.wr ∧ s.wr < 4611686018427300000) {f x : Int} (hf : -9223372036854775808 ≤ f ∧ f ≤ 9223372036854775807) (hx : 0 ≤ x ∧ x < 65536) : Calls Tryz.prog 15 #[.pointer (some ⟨X.sb, 0, none⟩), .int .i64 f, .int .u16 x] W fun e w' => e = .returned (.int .i64 (remA s G f x)) ∧ Bt w w' lo hi X lo2 hi2 Y G (remS s G f x) t ∧ Grows (In2 lo hi) W w' := (h.se.Remote hst hwr hf hx).mono (by rintro e w' ⟨rfl, h1, h2⟩; exact ⟨rfl, h.grow h1 h2, h2⟩)
theorem Bt.rRemote (h : Bt w W lo hi X lo2 hi2 Y G s t) (hst : 0 ≤ t.st ∧ t.st < 4611686018427300000) (hwr : 0 ≤ t.wr ∧ t.wr < 4611686018427300000) {f x : Int} (hf : -9223372036854775808 ≤ f ∧ f ≤ 9223372036854775807) (hx : 0 ≤ x ∧ x < 65536) : Calls Tryz.prog 16 #[.pointer (some ⟨Y.sb, 0, none⟩), .int .i64 f, .int .u16 x] W fun e w' => e = .returned (.int .i64 (remA t G f x)) ∧ Bt w w' lo hi X lo2 hi2 Y G s (remS t G f x) ∧ Grows (In2 lo2 hi2) W w' := (rRemote_any h.rx hst hwr hf hx).mono (by rintro e w' ⟨rfl, h1, h2⟩; exact ⟨rfl, h.rgrow h1 h2, h2⟩)
theorem Bt.Now (h : Bt w W lo hi X lo2 hi2 Y G s t) : Calls Tryz.prog 18 #[.pointer (some ⟨X.sb, 0, none⟩)] W fun e w' => e = .returned (.agg (stV (s.now G)).toArray) ∧ Bt w w' lo hi X lo2 hi2 Y G s t := h.se.Now.mono (by rintro e w' ⟨rfl, h1⟩; exact ⟨rfl, h.next h1⟩)
theorem Bt.rNow (h : Bt w W lo hi X lo2 hi2 Y G s t) : Calls Tryz.prog 19 #[.pointer (some ⟨Y.sb, 0, none⟩)] W fun e w' => e = .returned (.agg (stV (t.now G)).toArray) ∧ Bt w w' lo hi X lo2 hi2 Y G s t := (rNow_any h.rx).mono (by rintro e w' ⟨rfl, h1⟩; exact ⟨rfl, h.next h1⟩)
theorem Bt.Sure (h : Bt w W lo hi X lo2 hi2 Y G s t) : Calls Tryz.prog 20 #[.pointer (some ⟨X.sb, 0, none⟩)] W fun e w' => e = .returned (.agg (stV (s.sure G)).toArray) ∧ Bt w w' lo hi X lo2 hi2 Y G s t := h.se.Sure.mono (by rintro e w' ⟨rfl, h1⟩; exact ⟨rfl, h.next h1⟩)
theorem Bt.rSure (h : Bt w W lo hi X lo2 hi2 Y G s t) : Calls Tryz.prog 21 #[.pointer (some ⟨Y.sb, 0, none⟩)] W fun e w' => e = .returned (.agg (stV (t.sure G)).toArray) ∧ Bt w w' lo hi X lo2 hi2 Y G s t := (rSure_any h.rx).mono (by rintro e w' ⟨rfl, h1⟩; exact ⟨rfl, h.next h1⟩)
theorem Bt.Work (h : Bt w W lo hi X lo2 hi2 Y G s t) : Calls Tryz.prog 17 #[.pointer (some ⟨X.sb, 0, none⟩)] W fun e w' => e = .returned (.tuple #[.int .i64 s.st, .int .i64 s.wr]) ∧ Bt w w' lo hi X lo2 hi2 Y G s t := h.se.Work.mono (by rintro e w' ⟨rfl, h1⟩; exact ⟨rfl, h.sm h1⟩)
theorem Bt.Needs (h : Bt w W lo hi X lo2 hi2 Y G s t) : Calls Tryz.prog 22 #[.pointer (some ⟨X.sb, 0, none⟩)] W fun e w' => e = .returned (.int .i64 (In.kn s.h : Int)) ∧ Bt w w' lo hi X lo2 hi2 Y G s t := h.se.Needs.mono (by rintro e w' ⟨rfl, h1⟩; exact ⟨rfl, h.sm h1⟩)
theorem Bt.rNeeds (h : Bt w W lo hi X lo2 hi2 Y G s t) : Calls Tryz.prog 23 #[.pointer (some ⟨Y.sb, 0, none⟩)] W fun e w' => e = .returned (.int .i64 (In.kn t.h : Int)) ∧ Bt w w' lo hi X lo2 hi2 Y G s t := (rNeeds_any h.rx).mono (by rintro e w' ⟨rfl, h1⟩; exact ⟨rfl, h.sm h1⟩)
end
/-- What one step may add to the work. -/
structure Wk (s : Sa) (n : Nat) : Prop where
  a : 0 ≤ s.st ∧ s.st ≤ 600 * (n : Int)
  b : 0 ≤ s.wr ∧ s.wr ≤ (n : Int)
theorem Wk.new (me cap : Int) : Wk (newS me cap) 0 := ⟨⟨Int.le_refl _, Int.le_refl _⟩, ⟨Int.le_refl _, Int.le_refl _⟩⟩
theorem Wk.loc {s : Sa} {n : Nat} (h : Wk s n) (G : Gm) (x : Int) : Wk (locS s G x) (n + 1) := by
  have h1 := h.a
  have h2 := h.b
  unfold locS
  split
  · exact ⟨by show 0 ≤ s.st + 1 ∧ s.st + 1 ≤ 600 * ((n + 1 : Nat) : Int); omega, by show 0 ≤ s.wr + 0 ∧ s.wr + 0 ≤ ((n + 1 : Nat) : Int); omega⟩
  · exact ⟨by omega, by omega⟩
theorem Wk.rem {s : Sa} {n : Nat} (h : Wk s n) {G : Gm} (hG : G.Ok) (hs : s.Ok G) (f : Int) {x : Int} (hx : 0 ≤ x ∧ x < 65536) : Wk (remS s G f x) (n + 1) := by
  have h1 := h.a
  have h2 := h.b
  unfold remS
  split
  · rename_i c
    obtain ⟨hr, _⟩ := remA_go c
    split
    · rename_i c2
      obtain ⟨c2, _⟩ := c2
      have hfk := hr.fk
      generalize f.toNat = k at *
      subst hfk
      have g1 := (hs.fit.hear (f := k) hx).gs hG (s.hear k x).P
      have hcap := (chkG_cap hG.c).2.2.1
      have hle : (((s.hear k x).now G).frame) ≤ 600 := Int.le_trans g1.f1 hcap
      have hge : (k : Int) ≤ ((s.hear k x).now G).frame := by
        obtain ⟨⟨m, m1, m2, m3, m4, m5⟩, mo⟩ := way s G s.P
        have hkm : k < m := by rw [show s.now G = s.at G s.P from rfl, m2] at c2; omega
        have e1 : (s.hear k x).at G k = s.at G k := Sa.at_congr fun j hj => Sa.hear_use hs.fit hr.cap x hj
        have e2 := m3 k (by omega)
        rw [← e1] at e2
        rw [← e2]
        exact Sa.at_frame_mono (s.hear k x) G (show k ≤ (s.hear k x).P by show k ≤ s.P; omega)
      exact ⟨by show 0 ≤ s.st + (((s.hear k x).now G).frame - (k : Int)) ∧ s.st + (((s.hear k x).now G).frame - (k : Int)) ≤ 600 * ((n + 1 : Nat) : Int); omega, by show 0 ≤ s.wr + 1 ∧ s.wr + 1 ≤ ((n + 1 : Nat) : Int); omega⟩
    · exact ⟨by show 0 ≤ s.st ∧ s.st ≤ 600 * ((n + 1 : Nat) : Int); omega, by show 0 ≤ s.wr ∧ s.wr ≤ ((n + 1 : Nat) : Int); omega⟩
  · exact ⟨by omega, by omega⟩
theorem Wk.st {s : Sa} {n : Nat} (h : Wk s n) (hn : n ≤ 1000000) : (0 ≤ s.st ∧ s.st < 4611686018427300000) ∧ (0 ≤ s.wr ∧ s.wr < 4611686018427300000) := by
  have h1 := h.a
  have h2 := h.b
  exact ⟨⟨by omega, by omega⟩, ⟨by omega, by omega⟩⟩
/-- Is that game more than is looked at? -/
def slw (n : Nat) (fuel : Int) : Bool := decide (120 < n ∨ (300 < fuel ∧ fuel ≤ 2000))
theorem slow_any (ao : Option Addr) (n cp : Nat) (cap fuel : Int) (w : World) : Calls Tryz.prog 9 #[.agg #[.slice ao n cp, .int .i64 cap, .int .i64 fuel]] w fun e w' => e = .returned (.bool (slw n fuel)) ∧ Below w.heap.size w w' := by
  by_cases h1 : 120 < n
  · have h1' : (120 : Int) < n := by omega
    rw [show slw n fuel = true by simp [slw, h1]]
    go_enter Tryz.func9, Tryz.ntmps9
    go_wp2
    go_ret
    exact ⟨rfl, (Below.refl _ _).alloc (Nat.le_refl _) _⟩
  · have h1' : (n : Int) ≤ 120 := by omega
    by_cases h2 : 300 < fuel
    · by_cases h3 : fuel ≤ 2000
      · rw [show slw n fuel = true by simp [slw, h2, h3]]
        go_enter Tryz.func9, Tryz.ntmps9
        go_wp2
        go_ret
        exact ⟨rfl, (Below.refl _ _).alloc (Nat.le_refl _) _⟩
      · rw [show slw n fuel = false by simp [slw]; omega]
        go_enter Tryz.func9, Tryz.ntmps9
        go_wp2
        go_ret
        exact ⟨by simp [Array.getD]; omega, (Below.refl _ _).alloc (Nat.le_refl _) _⟩
    · rw [show slw n fuel = false by simp [slw]; omega]
      go_enter Tryz.func9, Tryz.ntmps9
      go_wp2
      go_ret
      exact ⟨by simp [Array.getD]; omega, (Below.refl _ _).alloc (Nat.le_refl _) _⟩
end Go.Proofs.YtbfldcieibdapaaGreat
