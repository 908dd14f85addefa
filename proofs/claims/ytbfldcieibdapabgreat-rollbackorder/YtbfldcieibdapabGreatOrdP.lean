/-
  RollbackOrder in plain words and in memory: two sessions that are told the same, each in its order (Om); in the end they are as one.
-/
import Derived.Test.YtbfldcieibdapabGreatM36
namespace Go.Proofs.YtbfldcieibdapabGreat
open Go.RowKit
theorem gv_same {l m : List In.Pl} {f : Nat → Int} (hm : ∀ j, (In.at0 l j).2 = (In.at0 m j).2) (h1 : ∀ j, (In.at0 l j).2 = true → (In.at0 l j).1 = f j) (h2 : ∀ j, (In.at0 m j).2 = true → (In.at0 m j).1 = f j) : ∀ k, gv l k = gv m k
  | 0 => rfl
  | k + 1 => by
    unfold gv
    have e := hm k
    by_cases c : (In.at0 l k).2 = true
    · have c2 := c
      rw [e] at c2
      rw [if_pos c, if_pos c2, h1 k c, h2 k c2]
    · have c2 := c
      rw [e] at c2
      rw [if_neg c, if_neg c2, gv_same hm h1 h2 k]
theorem kn_same {l m : List In.Pl} (hl : l.length = m.length) (hm : ∀ j, (In.at0 l j).2 = (In.at0 m j).2) : In.kn l = In.kn m :=
  Nat.le_antisymm (kn_mono hl fun j h => by rw [← hm]; exact h) (kn_mono hl.symm fun j h => by rw [hm]; exact h)
theorem mark_P {s : Sa} {G : Gm} (h : s.Fit G) (j : Nat) : (In.at0 s.m j).2 = decide (j < s.P) := by
  by_cases c : j < s.P
  · rw [In.kn_mark s.m j c]; simp [c]
  · rw [h.gap j (by omega)]; simp [c]
/-- Two sessions of which the same is known. -/
theorem as_one {s t : Sa} {G : Gm} {f g : Nat → Int} (hs : s.Ok G) (ht : t.Ok G) (ks : Kv s f g) (kt : Kv t f g) (hme : s.me = t.me) (hP : s.P = t.P) (hh : ∀ j, (In.at0 s.h j).2 = (In.at0 t.h j).2) : s.now G = t.now G ∧ s.sure G = t.sure G ∧ In.kn s.h = In.kn t.h := by
  have hmm : ∀ j, (In.at0 s.m j).2 = (In.at0 t.m j).2 := fun j => by rw [mark_P hs.fit, mark_P ht.fit, hP]
  have e1 := gv_same hmm ks.mv kt.mv
  have e2 := gv_same hh ks.hv kt.hv
  have hu : ∀ k, s.use k = t.use k := fun k => by
    unfold Sa.use Sa.r0 Sa.r1
    rw [hme]
    split <;> rw [e1, e2]
  have k1 : In.kn s.h = In.kn t.h := kn_same (by have := hs.fit.hl; have := ht.fit.hl; omega) hh
  have hB : s.B = t.B := by
    unfold Sa.B
    rw [k1, show In.kn s.m = In.kn t.m from hP]
  refine ⟨?_, ?_, k1⟩
  · unfold Sa.now
    rw [hP]
    exact Sa.at_congr fun k _ => hu k
  · unfold Sa.sure
    rw [hB]
    exact Sa.at_congr fun k _ => hu k
theorem Pf.mark {G : Gm} {s : Sa} {f g : Nat → Int} {p q : Nat} (h : Pf G s f g p q) (j : Nat) : (In.at0 s.h j).2 = decide (j < q) := by
  by_cases c : j < q
  · rw [In.kn_mark s.h j (by rw [h.kh]; exact c)]; simp [c]
  · rw [h.free j (by omega)]; simp [c]
/-- What is not yet told is taken, if the game is not over. -/
theorem rem_or {s : Sa} {G : Gm} (hs : s.Ok G) (hG : G.Ok) {i : Nat} (hc : (i : Int) < G.cap) (h12 : i ≤ 24) (hf : (In.at0 s.h i).2 = false) (x : Int) : remA s G (i : Int) x = 0 ∨ remA s G (i : Int) x = 12 := by
  have hlen := hs.fit.hl
  have h0 : 0 ≤ (s.sure G).frame := (hs.fit.gs hG _).f0
  have hE : In.putE s.h (i : Int) x = 0 := by
    unfold In.putE
    rw [if_neg (by omega), Int.toNat_natCast, if_neg (by rw [hf]; decide)]
  unfold remA
  rw [if_neg (by omega)]
  split
  · exact Or.inr rfl
  · rw [if_neg (by omega)]
    exact Or.inl hE
/-- What is left to tell of him. -/
structure Lf (b : Sa) (his : List Int) (L : List Int) (i : Nat) : Prop where
  nd : L.Nodup
  lin : ∀ z ∈ L, ∃ j : Nat, z = (j : Int) ∧ j < his.length
  ln : L.length + i = his.length
  mrk : ∀ j, (In.at0 b.h j).2 = decide (j < his.length ∧ ¬ (j : Int) ∈ L)
theorem Lf.step {b : Sa} {G : Gm} {his A C : List Int} {t i : Nat} (h : Lf b his (A ++ (t : Int) :: C) i) (hb : b.Ok G) {x : Int} (h0 : remA b G (t : Int) x = 0) : Lf (remS b G (t : Int) x) his (A ++ C) (i + 1) := by
  have hnd := h.nd
  rw [List.nodup_append, List.nodup_cons] at hnd
  obtain ⟨n1, ⟨n2, n3⟩, n4⟩ := hnd
  have htm : (t : Int) ∈ A ++ (t : Int) :: C := by simp
  have hno : ¬ (t : Int) ∈ A ++ C := fun hm => by
    rcases List.mem_append.1 hm with hm | hm
    · exact n4 _ hm _ (List.mem_cons_self ..) rfl
    · exact n2 hm
  obtain ⟨t', e, ht⟩ := h.lin _ htm
  refine ⟨?_, fun z hz => h.lin z ?_, ?_, fun j => ?_⟩
  · rw [List.nodup_append]
    exact ⟨n1, n3, fun a ha c hc => n4 a ha c (List.mem_cons_of_mem _ hc)⟩
  · rcases List.mem_append.1 hz with hz | hz
    · exact List.mem_append_left _ hz
    · exact List.mem_append_right _ (List.mem_cons_of_mem _ hz)
  · have := h.ln
    simp only [List.length_append, List.length_cons] at this ⊢
    omega
  · rw [remA_told h0 hb j, h.mrk j]
    by_cases c : (j : Int) = (t : Int)
    · rw [if_pos c]
      symm
      rw [decide_eq_true_eq]
      exact ⟨by omega, by rw [c]; exact hno⟩
    · rw [if_neg c]
      have : (j : Int) ∈ A ++ (t : Int) :: C ↔ (j : Int) ∈ A ++ C := by simp [c]
      simp only [this]
theorem Lf.free {b : Sa} {his L : List Int} {t i : Nat} (h : Lf b his L i) (ht : (t : Int) ∈ L) : (In.at0 b.h t).2 = false := by
  rw [h.mrk t]
  simp [ht]
theorem Lf.all {b : Sa} {his L : List Int} (h : Lf b his L his.length) (j : Nat) : (In.at0 b.h j).2 = decide (j < his.length) := by
  have : L = [] := List.eq_nil_of_length_eq_zero (by have := h.ln; omega)
  subst this
  rw [h.mrk j]
  simp
/-- In memory: both sessions, and what is left, a row behind them. -/
structure Om (w W : World) (lo hi : Nat) (X : Sx) (lo2 hi2 : Nat) (Y : Sx) (G : Gm) (a b : Sa) (L : List Int) (lv : Value) (n : Nat) : Prop where
  m : Bp w W lo hi X lo2 hi2 Y G a b
  lf : Ro1 W hi2 lv L
  wa : Wk a n
  wb : Wk b n
section
variable {w W W' : World} {lo hi lo2 hi2 : Nat} {X Y : Sx} {G : Gm} {a b : Sa} {L L' : List Int} {lv lv' : Value} {n : Nat}
theorem Om.next (h : Om w W lo hi X lo2 hi2 Y G a b L lv n) (hb : Below W.heap.size W W') : Om w W' lo hi X lo2 hi2 Y G a b L lv n := ⟨h.m.next hb, h.lf.keep (fun k _ _ hk => hb.block k hk), h.wa, h.wb⟩
theorem Om.sm (h : Om w W lo hi X lo2 hi2 Y G a b L lv n) (hb : Sm W W') : Om w W' lo hi X lo2 hi2 Y G a b L lv n := h.next (hb.below _)
theorem Om.remA (h : Om w W lo hi X lo2 hi2 Y G a b L lv n) (hn : n ≤ 1000000) {i : Nat} (h12 : i ≤ 1000) {x : Int} (hx : 0 ≤ x ∧ x < 65536) : Calls Tryz.prog 10 #[.pointer (some ⟨X.sb, 0, none⟩), .int .i64 (i : Int), .int .u16 x] W fun e w' => e = .returned (.int .i64 (remA a G (i : Int) x)) ∧ Om w w' lo hi X lo2 hi2 Y G (remS a G (i : Int) x) b L lv (n + 1) := by
  refine (h.m.sx.Remote (h.wa.st hn).1 (h.wa.st hn).2 (f := (i : Int)) ⟨by omega, by omega⟩ hx).mono ?_
  rintro e w' ⟨rfl, h1, h2⟩
  have ho := h.m.ord
  have hl := h.m.lohi
  exact ⟨rfl, h.m.growX h1 h2, h.lf.keep (fun k h3 _ h4 => h2.block k h4 (fun hf => by have := hf.2; omega)), h.wa.rem h.m.sx.g h.m.sx.ok _ hx, h.wb.up⟩
theorem Om.remB (h : Om w W lo hi X lo2 hi2 Y G a b L lv n) (hn : n ≤ 1000000) {i : Nat} (h12 : i ≤ 1000) {x : Int} (hx : 0 ≤ x ∧ x < 65536) : Calls Tryz.prog 10 #[.pointer (some ⟨Y.sb, 0, none⟩), .int .i64 (i : Int), .int .u16 x] W fun e w' => e = .returned (.int .i64 (Go.Proofs.YtbfldcieibdapabGreat.remA b G (i : Int) x)) ∧ Om w w' lo hi X lo2 hi2 Y G a (remS b G (i : Int) x) L lv (n + 1) := by
  refine (h.m.sy.Remote (h.wb.st hn).1 (h.wb.st hn).2 (f := (i : Int)) ⟨by omega, by omega⟩ hx).mono ?_
  rintro e w' ⟨rfl, h1, h2⟩
  exact ⟨rfl, h.m.growY h1 h2, h.lf.keep (fun k h3 _ h4 => h2.block k h4 (fun hf => by have := hf.2; omega)), h.wa.up, h.wb.rem h.m.sy.g h.m.sy.ok _ hx⟩
theorem Om.left (h : Om w W lo hi X lo2 hi2 Y G a b L lv n) (hb : Below W.heap.size W W') (hr : Ro1 W' W.heap.size lv' L') : Om w W' lo hi X lo2 hi2 Y G a b L' lv' n := by
  have hz := h.m.sy.z
  refine ⟨h.m.next hb, ?_, h.wa, h.wb⟩
  refine ⟨hr.1, ?_⟩
  rcases hr.2 with h2 | ⟨g, cap, cur, e1, e2, rest⟩
  · exact Or.inl h2
  · exact Or.inr ⟨g, cap, cur, e1, by omega, rest⟩
theorem Om.at {g n1 cv K : Nat} {z : Int} (h : Om w W lo hi X lo2 hi2 Y G a b L (.slice (some ⟨g, 0, none⟩) n1 cv) n) (hz : L[K]? = some z) : W.cell? ⟨g, K, none⟩ = some (.int .i64 z) := by
  obtain ⟨g', cap', hv, _, _, _, _, hc⟩ := h.lf.spot (by rintro rfl; simp at hz)
  simp only [Value.slice.injEq, Option.some.injEq, Addr.mk.injEq, and_true] at hv
  obtain ⟨rfl, _⟩ := hv
  have := hc (K * 1 + 0) _ (Ax.fm_at kdI.len L K 0 z _ hz rfl)
  simpa using this
theorem Om.form {av : Option Addr} {n1 cv : Nat} (h : Om w W lo hi X lo2 hi2 Y G a b L (.slice av n1 cv) n) (hz : L ≠ []) : ∃ g, av = some ⟨g, 0, none⟩ ∧ L.length ≤ cv ∧ cv ≤ maxLen := by
  obtain ⟨g, cap', hv, _, _, h1, h2, _⟩ := h.lf.spot hz
  simp only [Value.slice.injEq] at hv
  obtain ⟨rfl, _, rfl⟩ := hv
  exact ⟨g, rfl, h1, h2⟩
end
theorem Ro1.base {W : World} {B B' : Nat} {v : Value} {l : List Int} (h : Ro1 W B v l) (hB : B' ≤ B) : Ro1 W B' v l := by
  refine ⟨h.1, ?_⟩
  rcases h.2 with h2 | ⟨g, cap, cur, e1, e2, rest⟩
  · exact Or.inl h2
  · exact Or.inr ⟨g, cap, cur, e1, by omega, rest⟩
def ints (n : Nat) : List Int := (List.range n).map fun (i : Nat) => (i : Int)
theorem ints_len (n : Nat) : (ints n).length = n := by simp [ints]
theorem ints_succ (n : Nat) : ints (n + 1) = ints n ++ [(n : Int)] := by simp [ints, List.range_succ]
theorem ints_mem {n : Nat} {z : Int} (h : z ∈ ints n) : ∃ i : Nat, z = (i : Int) ∧ i < n := by
  obtain ⟨i, h1, rfl⟩ := List.mem_map.1 h
  exact ⟨i, rfl, List.mem_range.1 h1⟩
theorem ints_has {n j : Nat} (h : j < n) : (j : Int) ∈ ints n := List.mem_map.2 ⟨j, List.mem_range.2 h, rfl⟩
theorem ints_nodup : ∀ n, (ints n).Nodup
  | 0 => by simp [ints]
  | n + 1 => by
    rw [ints_succ, List.nodup_append]
    refine ⟨ints_nodup n, by simp, fun a ha b hb e => ?_⟩
    obtain ⟨i, rfl, hi⟩ := ints_mem ha
    simp only [List.mem_cons, List.not_mem_nil, or_false] at hb
    omega
theorem Lf.start {b : Sa} {his : List Int} (h : ∀ j, (In.at0 b.h j).2 = false) : Lf b his (ints his.length) 0 :=
  ⟨ints_nodup _, fun z hz => ints_mem hz, by rw [ints_len]; rfl, fun j => by
    rw [h j]
    symm
    rw [decide_eq_false_iff_not]
    rintro ⟨h1, h2⟩
    exact h2 (ints_has h1)⟩
end Go.Proofs.YtbfldcieibdapabGreat
