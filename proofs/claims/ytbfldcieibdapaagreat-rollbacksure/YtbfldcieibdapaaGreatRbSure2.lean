/-
  RollbackSure: how it stands (Sw), what its steps leave.
-/
import Derived.Test.YtbfldcieibdapaaGreatRbLeft
namespace Go.Proofs.YtbfldcieibdapaaGreat
open Go.RowKit
structure Sw (w W : World) (lo hi : Nat) (X : Sx) (tb : Nat) (G : Gm) (mine his : List Int) (s : Sa) (D : Nat) (Tl : List Bool) (L : List Int) (lv : Value) (n : Nat) : Prop where
  se : Se W lo hi X G s
  b : Below w.heap.size w W
  lo : w.heap.size ≤ lo
  tc : Cw W tb (Tl.map Value.bool) 4
  tz : hi ≤ tb
  lf : Ro1 W hi lv L
  ne : ∀ k, lv.ownBlock = some k → k ≠ tb
  kv : Kv s (gd mine) (gd his)
  P : s.P = D
  tl : Tl.length = his.length
  wk : Wk s n
  lin : ∀ z ∈ L, ∃ i : Nat, z = (i : Int) ∧ i < his.length
  ll : L.length ≤ 100
  dl : D ≤ mine.length
section
variable {w W W' : World} {lo hi tb : Nat} {X : Sx} {G : Gm} {mine his : List Int} {s u : Sa} {D D' n n' : Nat} {Tl : List Bool} {L : List Int} {lv : Value}
theorem Sw.lohi (h : Sw w W lo hi X tb G mine his s D Tl L lv n) : lo ≤ hi := by have := h.se.x.s; omega
theorem Sw.next (h : Sw w W lo hi X tb G mine his s D Tl L lv n) (hb : Below W.heap.size W W') : Sw w W' lo hi X tb G mine his s D Tl L lv n :=
  ⟨h.se.below hb, h.b.trans (hb.mono h.b.size), h.lo, h.tc.below hb h.tc.lt, h.tz, h.lf.keep (fun k _ _ hk => hb.block k hk), h.ne, h.kv, h.P, h.tl, h.wk, h.lin, h.ll, h.dl⟩
theorem Sw.sm (h : Sw w W lo hi X tb G mine his s D Tl L lv n) (hb : Sm W W') : Sw w W' lo hi X tb G mine his s D Tl L lv n := h.next (hb.below _)
theorem Sw.wup (h : Sw w W lo hi X tb G mine his s D Tl L lv n) (hn : n ≤ n') : Sw w W lo hi X tb G mine his s D Tl L lv n' :=
  ⟨h.se, h.b, h.lo, h.tc, h.tz, h.lf, h.ne, h.kv, h.P, h.tl, ⟨by have := h.wk.a; omega, by have := h.wk.b; omega⟩, h.lin, h.ll, h.dl⟩
theorem Sw.grow (h : Sw w W lo hi X tb G mine his s D Tl L lv n) (hs : Se W' lo hi X G u) (hg : Grows (In2 lo hi) W W') (hk : Kv u (gd mine) (gd his)) (hP : u.P = D') (hw : Wk u n') (hd : D' ≤ mine.length) : Sw w W' lo hi X tb G mine his u D' Tl L lv n' := by
  have hz := h.tz
  refine ⟨hs, h.b.trans (hg.below h.b.size fun _ hk => Nat.le_trans h.lo hk.1), h.lo, h.tc.keep (hg.block tb h.tc.lt (fun hf => by have := hf.2; omega)), hz, h.lf.keep (fun k _ h1 h2 => hg.block k h2 (fun hf => by have := hf.2; omega)), h.ne, hk, hP, h.tl, hw, h.lin, h.ll, hd⟩
theorem Sw.Local (h : Sw w W lo hi X tb G mine his s D Tl L lv n) (hm : ∀ z ∈ mine, 0 ≤ z ∧ z < 65536) (hn : n ≤ 1000000) (hg : D < mine.length) : Calls Tryz.prog 13 #[.pointer (some ⟨X.sb, 0, none⟩), .int .u16 (gd mine D)] W fun e w' => e = .returned (.tuple #[.int .i64 (locA s G).1, .int .i64 (locA s G).2]) ∧ Sw w w' lo hi X tb G mine his (locS s G (gd mine D)) (if (locA s G).2 = 0 then D + 1 else D) Tl L lv (n + 1) := by
  have hk := h.kv.loc h.se.g h.se.ok
  rw [h.P] at hk
  have hP := locS_P h.se.g h.se.ok (gd mine D)
  rw [h.P] at hP
  refine (h.se.Local (h.wk.st hn).1 (gd_in hm D)).mono ?_
  rintro e w' ⟨rfl, h1, h2⟩
  exact ⟨rfl, h.grow h1 h2 hk hP (h.wk.loc G _) (by split <;> omega)⟩
theorem Sw.first (h : Sw w W lo hi X tb G mine his s D Tl L lv n) (h0 : (locA s G).2 = 0) : (locA s G).1 = (D : Int) := by
  rw [(locA_go h0).2.2, h.P]
theorem Sw.Remote (h : Sw w W lo hi X tb G mine his s D Tl L lv n) (hm : ∀ z ∈ his, 0 ≤ z ∧ z < 65536) (hn : n ≤ 1000000) {i : Nat} (hi1 : i < 1000) : Calls Tryz.prog 15 #[.pointer (some ⟨X.sb, 0, none⟩), .int .i64 (i : Int), .int .u16 (gd his i)] W fun e w' => e = .returned (.int .i64 (remA s G (i : Int) (gd his i))) ∧ Sw w w' lo hi X tb G mine his (remS s G (i : Int) (gd his i)) D Tl L lv (n + 1) ∧ Grows (In2 lo hi) W w' := by
  refine (h.se.Remote (h.wk.st hn).1 (h.wk.st hn).2 (f := (i : Int)) ⟨by omega, by omega⟩ (gd_in hm i)).mono ?_
  rintro e w' ⟨rfl, h1, h2⟩
  exact ⟨rfl, h.grow h1 h2 (h.kv.rem h.se.ok i) (by rw [(remS_me s G _ _).2]; exact h.P) (h.wk.rem h.se.g h.se.ok _ (gd_in hm i)) h.dl, h2⟩
/-- One is marked. -/
theorem Sw.mark (h : Sw w W lo hi X tb G mine his s D Tl L lv n) {i : Nat} : Sw w (W.setCell ⟨tb, i, none⟩ (.bool true)) lo hi X tb G mine his s D (Tl.set i true) L lv n := by
  have ho := Only.set tb i W (.bool true)
  have hz := h.tz
  have hl := h.lohi
  have hlo := h.lo
  have hgr : Grows (fun k => k = tb) W (W.setCell ⟨tb, i, none⟩ (.bool true)) := ⟨ho.os, ho.tape, ho.output, by rw [ho.size]; exact Nat.le_refl _, fun k _ hk => ho.block k hk⟩
  refine ⟨h.se.grows hgr (fun k hk => Or.inr (by omega)), h.b.trans (ho.below (by omega)), h.lo, ?_, hz, h.lf.keep (fun k h0 _ _ => ho.block k (h.ne k h0)), h.ne, h.kv, h.P, by rw [List.length_set]; exact h.tl, h.wk, h.lin, h.ll, h.dl⟩
  have := h.tc.set i (.bool true)
  rw [← List.map_set] at this
  exact this
/-- What is left is laid anew. -/
theorem Sw.left (h : Sw w W lo hi X tb G mine his s D Tl L lv n) {L' : List Int} {lv' : Value} (hb : Below W.heap.size W W') (hr : Ro1 W' W.heap.size lv' L') (hs : ∀ z ∈ L', z ∈ L) (hl : L'.length ≤ L.length) : Sw w W' lo hi X tb G mine his s D Tl L' lv' n := by
  have h1 := h.next hb
  have hz := h.tz
  have ht := h.tc.lt
  have hsz := h.se.z
  refine ⟨h1.se, h1.b, h1.lo, h1.tc, h1.tz, ?_, fun k hk => (by have := (hr.lt k hk).1; omega), h1.kv, h1.P, h1.tl, h1.wk, fun z hz => h1.lin z (hs z hz), Nat.le_trans hl h.ll, h1.dl⟩
  refine ⟨hr.1, ?_⟩
  rcases hr.2 with h2 | ⟨g, cap, cur, e1, e2, rest⟩
  · exact Or.inl h2
  · exact Or.inr ⟨g, cap, cur, e1, by omega, rest⟩
theorem Sw.B (h : Sw w W lo hi X tb G mine his s D Tl L lv n) (hm : ∀ j, (In.at0 s.h j).2 = Tl.getD j false) {m : Nat} (h1 : m ≤ D) (h2 : ∀ j, j < m → Tl.getD j false = true) (h3 : m = D ∨ Tl.getD m false = false) : s.B = m := by
  have hP := h.P
  unfold Sa.P at hP
  have hle : m ≤ In.kn s.h := by
    rcases Nat.lt_or_ge (In.kn s.h) m with c | c
    · exfalso
      have h4 := h2 _ c
      rw [← hm] at h4
      by_cases c2 : In.kn s.h < s.h.length
      · rw [In.kn_stop s.h c2] at h4; cases h4
      · have e : (In.at0 s.h (In.kn s.h)).2 = false := by simp [In.at0, List.getD, List.getElem?_eq_none (by omega : s.h.length ≤ In.kn s.h)]
        rw [e] at h4; cases h4
    · exact c
  unfold Sa.B
  rw [hP]
  rcases h3 with rfl | h3
  · omega
  · have := kn_le_no (l := s.h) (k := m) (by rw [hm]; exact h3)
    omega
theorem Sw.sure (h : Sw w W lo hi X tb G mine his s D Tl L lv n) {m : Nat} (hB : s.B = m) : s.sure G = endG G.l G.cap G.fuel (startS G.seed) (frst (fun k => prM s.me (gd mine k) (gd his k)) m) := by
  rw [h.kv.sure, hB]
  rfl
theorem Sw.at {g n1 cv K : Nat} {z : Int} (h : Sw w W lo hi X tb G mine his s D Tl L (.slice (some ⟨g, 0, none⟩) n1 cv) n) (hz : L[K]? = some z) : W.cell? ⟨g, K, none⟩ = some (.int .i64 z) := by
  obtain ⟨g', cap', hv, _, _, _, _, hc⟩ := h.lf.spot (by rintro rfl; simp at hz)
  simp only [Value.slice.injEq, Option.some.injEq, Addr.mk.injEq, and_true] at hv
  obtain ⟨rfl, _⟩ := hv
  have := hc (K * 1 + 0) _ (Ax.fm_at kdI.len L K 0 z _ hz rfl)
  simpa using this
theorem Sw.form {av : Option Addr} {n1 cv : Nat} (h : Sw w W lo hi X tb G mine his s D Tl L (.slice av n1 cv) n) (hz : L ≠ []) : ∃ g, av = some ⟨g, 0, none⟩ ∧ L.length ≤ cv ∧ cv ≤ maxLen := by
  obtain ⟨g, cap', hv, _, _, h1, h2, _⟩ := h.lf.spot hz
  simp only [Value.slice.injEq] at hv
  obtain ⟨rfl, _, rfl⟩ := hv
  exact ⟨g, rfl, h1, h2⟩
end
end Go.Proofs.YtbfldcieibdapaaGreat
