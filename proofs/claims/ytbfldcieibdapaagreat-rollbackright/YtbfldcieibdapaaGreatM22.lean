/-
  Joined from: RbAdder.
-/
import Derived.Test.YtbfldcieibdapaaGreatM21
section
/-
  The law's game in plain words: each player's cell grows by what he does. No walk.
-/
namespace Go.Proofs.YtbfldcieibdapaaGreat
open Go.RowKit
def adS (limit : Int) (k : Nat) (x y : Int) : Sp := ⟨k, [x, y, 0, 0, 0, 0, 0, 0, 0, 0, 0, 0, 0, 0, 0, 0], 1, decide ((k : Int) = limit), if (k : Int) = limit then moreI x y else 0⟩
def adX (s : Sa) : Nat → Int
  | 0 => 0
  | k + 1 => heldI (adX s k + (s.use k).1)
def adY (s : Sa) : Nat → Int
  | 0 => 0
  | k + 1 => heldI (adY s k + (s.use k).2)
theorem adS_step {limit : Int} {k : Nat} {x y i0 i1 : Int} (hk : (k : Int) < limit) : stepS acode limit 20 (adS limit k x y) i0 i1 = adS limit (k + 1) (heldI (x + i0)) (heldI (y + i1)) := by
  have h1 : adS limit k x y = ⟨k, [x, y, 0, 0, 0, 0, 0, 0, 0, 0, 0, 0, 0, 0, 0, 0], 1, false, 0⟩ := by
    unfold adS
    rw [if_neg (by omega), show decide ((k : Int) = limit) = false by simp; omega]
  have h2 : stepS acode limit 20 ⟨k, [x, y, 0, 0, 0, 0, 0, 0, 0, 0, 0, 0, 0, 0, 0, 0], 1, false, 0⟩ i0 i1 = endS limit ⟨k, [heldI (x + i0), heldI (y + i1), 0, 0, 0, 0, 0, 0, 0, 0, 0, 0, 0, 0, 0, 0], 1, false, 0⟩ := rfl
  rw [h1, h2]
  unfold endS adS
  by_cases h3 : (k : Int) + 1 = limit
  · rw [if_pos ⟨h3, rfl⟩, if_pos (by omega), show decide (((k + 1 : Nat) : Int) = limit) = true by simp; omega]
    simp
  · rw [if_neg (fun e => h3 e.1), if_neg (by omega), show decide (((k + 1 : Nat) : Int) = limit) = false by simp; omega]
    simp
theorem ad_at {limit : Int} (hl : 1 ≤ limit) (s : Sa) : ∀ k : Nat, (k : Int) ≤ limit → s.at (adG limit) k = adS limit k (adX s k) (adY s k)
  | 0, _ => by
    rw [Sa.at_zero]
    unfold adS
    rw [if_neg (by simp; omega), show decide (((0 : Nat) : Int) = limit) = false by simp; omega]
    rfl
  | k + 1, h => by
    have ih := ad_at hl s k (by omega)
    have ho : (s.at (adG limit) k).over = false := by rw [ih]; show decide ((k : Int) = limit) = false; simp; omega
    rw [Sa.at_go ho, ih]
    show stepS acode limit 20 _ _ _ = _
    exact adS_step (by omega)
/-- A session of that game: p frames are done, q are told, one behind the other. -/
structure Nv (limit : Int) (s : Sa) (p q : Nat) : Prop where
  ok : s.Ok (adG limit)
  P : s.P = p
  kh : In.kn s.h = q
  free : ∀ k, q ≤ k → (In.at0 s.h k).2 = false
section
variable {limit : Int} {s : Sa} {p q : Nat}
theorem Nv.ple (h : Nv limit s p q) : (p : Int) ≤ limit := by have := h.ok.fit.P_le; rw [h.P] at this; exact this
theorem Nv.now (h : Nv limit s p q) (hl : 1 ≤ limit) : s.now (adG limit) = adS limit p (adX s p) (adY s p) := by unfold Sa.now; rw [h.P]; exact ad_at hl s p h.ple
theorem Nv.B (h : Nv limit s p q) : s.B = min p q := by unfold Sa.B; rw [h.kh]; have := h.P; unfold Sa.P at this; rw [this]
theorem Nv.sure (h : Nv limit s p q) (hl : 1 ≤ limit) : s.sure (adG limit) = adS limit (min p q) (adX s (min p q)) (adY s (min p q)) := by unfold Sa.sure; rw [h.B]; exact ad_at hl s _ (by have := h.ple; omega)
theorem adS_frame (limit : Int) (k : Nat) (x y : Int) : (adS limit k x y).frame = (k : Int) := rfl
theorem adS_over (limit : Int) (k : Nat) (x y : Int) : (adS limit k x y).over = decide ((k : Int) = limit) := rfl
theorem Nv.loc_ok (h : Nv limit s p q) (hl : 1 ≤ limit) (h6 : limit ≤ 600) (hp : (p : Int) < limit) (hw : p < min p q + 8) {x : Int} (hx : 0 ≤ x ∧ x < 65536) : locA s (adG limit) = ((p : Int), 0) ∧ locS s (adG limit) x = (s.put x).work 1 0 ∧ Nv limit ((s.put x).work 1 0) (p + 1) q := by
  have hA : locA s (adG limit) = ((p : Int), 0) := by
    unfold locA
    rw [h.now hl, h.sure hl, adS_over, adS_frame, h.P, if_neg (by simp; omega), if_neg (by omega)]
  have hS : locS s (adG limit) x = (s.put x).work 1 0 := by unfold locS; rw [hA, if_pos rfl]
  have hok := h.ok.loc (adG_ok hl h6) hx
  rw [hS] at hok
  refine ⟨hA, hS, hok, ?_, h.kh, h.free⟩
  show (s.put x).P = p + 1
  rw [Sa.put_P h.ok.fit (by rw [h.P]; exact hp) x, h.P]
theorem Nv.loc_win (h : Nv limit s p q) (hl : 1 ≤ limit) (hp : (p : Int) < limit) (hw : min p q + 8 ≤ p) (x : Int) : locA s (adG limit) = (0, 13) ∧ locS s (adG limit) x = s := by
  have hA : locA s (adG limit) = (0, 13) := by
    unfold locA
    rw [h.now hl, h.sure hl, adS_over, adS_frame, h.P, if_neg (by simp; omega), if_pos (by omega)]
  exact ⟨hA, by unfold locS; rw [hA]; rfl⟩
theorem Nv.loc_over (h : Nv limit s p q) (hl : 1 ≤ limit) (hp : (p : Int) = limit) (x : Int) : locA s (adG limit) = (0, 12) ∧ locS s (adG limit) x = s := by
  have hA : locA s (adG limit) = (0, 12) := by
    unfold locA
    rw [h.now hl, adS_over, if_pos (by simp [hp])]
  exact ⟨hA, by unfold locS; rw [hA]; rfl⟩
theorem Nv.hear (h : Nv limit s p q) (hq : (q : Int) < limit) {x : Int} (hok : (s.hear q x).Ok (adG limit)) : Nv limit (s.hear q x) p (q + 1) := by
  have hm : q < s.h.length := by have := h.ok.fit.hl; have e : (adG limit).cap = limit := rfl; omega
  refine ⟨hok, h.P, ?_, fun k hk => ?_⟩
  · refine In.kn_of (by show q + 1 ≤ (s.h.set q (x, true)).length; rw [List.length_set]; omega) (fun j hj => ?_) (fun hj => ?_)
    · show (In.at0 (s.h.set q (x, true)) j).2 = true
      rw [In.at0_set hm]
      split
      · rfl
      · exact In.kn_mark s.h j (by rw [h.kh]; omega)
    · show (In.at0 (s.h.set q (x, true)) (q + 1)).2 = false
      rw [In.at0_set hm, if_neg (by omega)]
      exact h.free _ (by omega)
  · show (In.at0 (s.h.set q (x, true)) k).2 = false
    rw [In.at0_set hm, if_neg (by omega)]
    exact h.free _ (by omega)
theorem Nv.rem_ok (h : Nv limit s p q) (hl : 1 ≤ limit) (hq : (q : Int) < limit) (hw : q ≤ min p q + 24) {x : Int} (hx : 0 ≤ x ∧ x < 65536) : remA s (adG limit) (q : Int) x = 0 ∧ (∃ d e, remS s (adG limit) (q : Int) x = (s.hear q x).work d e ∧ 0 ≤ d ∧ d ≤ 600 ∧ 0 ≤ e ∧ e ≤ 1 ∧ (gv s.h (q + 1) = x → d = 0 ∧ e = 0) ∧ (p ≤ q → d = 0 ∧ e = 0)) ∧ Nv limit (s.hear q x) p (q + 1) := by
  have hlen := h.ok.fit.hl
  have hc : (adG limit).cap = limit := rfl
  have hE : In.putE s.h (q : Int) x = 0 := by
    unfold In.putE
    rw [if_neg (by omega), Int.toNat_natCast, if_neg (by rw [h.free q (Nat.le_refl _)]; decide)]
  have hA : remA s (adG limit) (q : Int) x = 0 := by
    unfold remA
    rw [if_neg (by omega), h.sure hl, adS_over, adS_frame, if_neg (by simp; omega), if_neg (by omega)]
    exact hE
  obtain ⟨hr, _⟩ := remA_go hA
  rw [Int.toNat_natCast] at hr
  have hok := h.ok.hear hr hx
  have hN := h.hear hq hok
  refine ⟨hA, ?_, hN⟩
  unfold remS
  rw [if_pos hA, Int.toNat_natCast, h.now hl, adS_frame]
  by_cases c : (q : Int) < (p : Int) ∧ gv s.h (q + 1) ≠ x
  · rw [if_pos c, hN.now hl, adS_frame]
    refine ⟨_, _, rfl, by omega, ?_, by decide, by decide, fun e => absurd e c.2, fun e => by omega⟩
    have h1 := h.ple
    have h2 := h.ok.win
    rw [h.sure hl, adS_frame, h.P] at h2
    omega
  · rw [if_neg c]
    exact ⟨0, 0, by rw [Sa.work_zero], by decide, by decide, by decide, by decide, fun _ => ⟨rfl, rfl⟩, fun _ => ⟨rfl, rfl⟩⟩
theorem Nv.work (h : Nv limit s p q) (d e : Int) : Nv limit (s.work d e) p q := ⟨h.ok.work d e, h.P, h.kh, h.free⟩
end
theorem newS_nv {limit me : Int} (hl : 1 ≤ limit) (h6 : limit ≤ 600) (hm : me = 0 ∨ me = 1) : Nv limit (newS me limit) 0 0 := ⟨newS_ok (adG_ok hl h6) hm, newS_P _ _, kn_zeros _, fun k _ => by show (In.at0 (In.zeros limit.toNat) k).2 = false; rw [In.zeros_at]⟩
/-- A session of the law's own, of that game. -/
def Ah (w W : World) (lo hi : Nat) (X : Sx) (limit : Int) (p q : Nat) (b : Int) : Prop := ∃ s, Lx w W lo hi X (adG limit) s ∧ Nv limit s p q ∧ (0 ≤ s.st ∧ s.st ≤ b) ∧ 0 ≤ s.wr ∧ s.wr ≤ b
section
variable {w W W' : World} {lo hi : Nat} {X : Sx} {limit : Int} {p q : Nat} {b : Int}
theorem Ah.bel (h : Ah w W lo hi X limit p q b) : Below w.heap.size w W := by obtain ⟨s, h1, _⟩ := h; exact h1.b
theorem Ah.mono (h : Ah w W lo hi X limit p q b) {c : Int} (hc : b ≤ c) : Ah w W lo hi X limit p q c := by obtain ⟨s, h1, h2, h3, h4⟩ := h; exact ⟨s, h1, h2, ⟨h3.1, by omega⟩, h4.1, by omega⟩
theorem Ah.loc_ok (h : Ah w W lo hi X limit p q b) (hl : 1 ≤ limit) (h6 : limit ≤ 600) (hb : b ≤ 10000000) (hp : (p : Int) < limit) (hw : p < min p q + 8) {x : Int} (hx : 0 ≤ x ∧ x < 65536) : Calls Tryz.prog 13 #[.pointer (some ⟨X.sb, 0, none⟩), .int .u16 x] W fun e w' => e = .returned (.tuple #[.int .i64 (p : Int), .int .i64 0]) ∧ Ah w w' lo hi X limit (p + 1) q (b + 1) := by
  obtain ⟨s, h1, h2, h3, h4⟩ := h
  obtain ⟨e1, e2, e3⟩ := h2.loc_ok hl h6 hp hw hx
  have g := h1.Local ⟨h3.1, by omega⟩ hx
  rw [e1, e2] at g
  exact g.mono (by rintro e w' ⟨rfl, k⟩; exact ⟨rfl, _, k, e3, ⟨by show 0 ≤ s.st + 1; omega, by show s.st + 1 ≤ b + 1; omega⟩, by show 0 ≤ s.wr + 0; omega, by show s.wr + 0 ≤ b + 1; omega⟩)
theorem Ah.loc_win (h : Ah w W lo hi X limit p q b) (hl : 1 ≤ limit) (hb : b ≤ 10000000) (hp : (p : Int) < limit) (hw : min p q + 8 ≤ p) {x : Int} (hx : 0 ≤ x ∧ x < 65536) : Calls Tryz.prog 13 #[.pointer (some ⟨X.sb, 0, none⟩), .int .u16 x] W fun e w' => e = .returned (.tuple #[.int .i64 0, .int .i64 13]) ∧ Ah w w' lo hi X limit p q b := by
  obtain ⟨s, h1, h2, h3, h4⟩ := h
  obtain ⟨e1, e2⟩ := h2.loc_win hl hp hw x
  have g := h1.Local ⟨h3.1, by omega⟩ hx
  rw [e1, e2] at g
  exact g.mono (by rintro e w' ⟨rfl, k⟩; exact ⟨rfl, _, k, h2, h3, h4⟩)
theorem Ah.rem_ok (h : Ah w W lo hi X limit p q b) (hl : 1 ≤ limit) (h6 : limit ≤ 600) (hb : b ≤ 10000000) (hq : (q : Int) < limit) (hw : q ≤ min p q + 24) {x : Int} (hx : 0 ≤ x ∧ x < 65536) : Calls Tryz.prog 15 #[.pointer (some ⟨X.sb, 0, none⟩), .int .i64 (q : Int), .int .u16 x] W fun e w' => e = .returned (.int .i64 0) ∧ Ah w w' lo hi X limit p (q + 1) (b + 600) := by
  obtain ⟨s, h1, h2, h3, h4⟩ := h
  obtain ⟨e1, ⟨d, e, e2, d0, d1, f0, f1, _⟩, e3⟩ := h2.rem_ok hl hq hw hx
  have g := h1.Remote ⟨h3.1, by omega⟩ ⟨h4.1, by omega⟩ (f := (q : Int)) (x := x) ⟨by omega, by omega⟩ hx
  rw [e1, e2] at g
  exact g.mono (by rintro e w' ⟨rfl, k⟩; exact ⟨rfl, _, k, e3.work _ _, ⟨by show 0 ≤ s.st + d; omega, by show s.st + d ≤ b + 600; omega⟩, by show 0 ≤ s.wr + _; omega, by show s.wr + _ ≤ b + 600; omega⟩)
theorem Ah.needs (h : Ah w W lo hi X limit p q b) : Calls Tryz.prog 22 #[.pointer (some ⟨X.sb, 0, none⟩)] W fun e w' => e = .returned (.int .i64 (q : Int)) ∧ Ah w w' lo hi X limit p q b := by
  obtain ⟨s, h1, h2, h3⟩ := h
  have g := h1.Needs
  rw [h2.kh] at g
  exact g.mono (by rintro e w' ⟨rfl, k⟩; exact ⟨rfl, _, k, h2, h3⟩)
theorem Ah.sure (h : Ah w W lo hi X limit p q b) (hl : 1 ≤ limit) : Calls Tryz.prog 20 #[.pointer (some ⟨X.sb, 0, none⟩)] W fun e w' => (∃ cs : List Value, e = .returned (.agg cs.toArray) ∧ ∀ V : World, (Instr.field 48 (.agg cs.toArray) 0).run Tryz.prog V = .ok (.int .i64 ((min p q : Nat) : Int)) V) ∧ Ah w w' lo hi X limit p q b := by
  obtain ⟨s, h1, h2, h3⟩ := h
  exact h1.Sure.mono (by rintro e w' ⟨rfl, k⟩; exact ⟨⟨_, rfl, fun V => by rw [(fieldS h1.se.sureGs.wf).1 V, h2.sure hl]; rfl⟩, _, k, h2, h3⟩)
theorem Ah_new (w W : World) (hb : Below w.heap.size w W) (g : Nat) (limit me : Int) (h1 : 1 ≤ limit) (h2 : limit ≤ 600) (hl : Ls W (.slice (some ⟨g, 0, none⟩) 8 8) acode) (hm : me = 0 ∨ me = 1) : Calls Tryz.prog 10 #[.agg #[.slice (some ⟨g, 0, none⟩) 8 8, .int .i64 limit, .int .i64 20], .int .u32 1, .int .i64 me] W fun e w' => ∃ X hi, e = .returned (.tuple #[.pointer (some ⟨X.sb, 0, none⟩), .int .i64 0]) ∧ Ah w w' W.heap.size hi X limit 0 0 0 :=
  (ad_new w W hb g limit me h1 h2 hl hm).mono (by rintro e w' ⟨X, hi, rfl, k, _⟩; exact ⟨X, hi, rfl, _, k, newS_nv h1 h2 hm, ⟨Int.le_refl _, Int.le_refl _⟩, Int.le_refl _, Int.le_refl _⟩)
end
end Go.Proofs.YtbfldcieibdapaaGreat
end
