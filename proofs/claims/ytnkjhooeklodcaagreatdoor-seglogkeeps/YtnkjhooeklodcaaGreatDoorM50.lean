/-
  Joined from: SegKw.
-/
import Derived.Test.YtnkjhooeklodcaaGreatDoorM49
section
/-
  SeglogKeeps' states: while it lays (Kl), behind the crash (Ko), behind the openings (Kf); what each call makes of them.
-/
namespace Go.Proofs.YtnkjhooeklodcaaGreatDoor
open Go.RowKit Go.Maps Go.Sort

variable {W w w' w1 w2 : World} {B N pb sb wb lb xb kb i m s : Nat} {lv lv' : Value} {rs : List Rw} {q : List (List Int)}
def Lr (w : World) (B : Nat) (rs : List Rw) (m : Nat) (lv : Value) : Prop := w.ownsRow 0 38 1 lv m ((rs.take m).map (·.1)) ∧ ∀ j, lv.ownBlock = some j → B ≤ j ∧ j < w.heap.size
theorem Lr.keep (h : Lr w B rs m lv) (hs : w.heap.size ≤ w'.heap.size) (hk : ∀ j, lv.ownBlock = some j → w'.heap[j]? = w.heap[j]?) : Lr w' B rs m lv :=
  ⟨Fr.ownsRow_keep h.1 fun k hk' _ => hk k hk', fun j hj => ⟨(h.2 j hj).1, Nat.lt_of_lt_of_le (h.2 j hj).2 hs⟩⟩
theorem Lr.below (h : Lr w B rs m lv) (hb : Below w.heap.size w w') : Lr w' B rs m lv := h.keep hb.size fun j hj => hb.block j (h.2 j hj).2
def Kl (W w : World) (rs : List Rw) (pb sb wb lb xb kb i m s : Nat) (lv : Value) : Prop :=
  Below W.heap.size W w ∧ Cx W W.heap.size ∧ ∃ Z u ps las ss sz dead k cs, Hs w W.heap.size Z pb sb wb lb xb u ps las ss sz dead k ∧ Kq [97] u.us ps las ss cs ∧ ps = (rs.take i).map (·.2) ∧ i ≤ rs.length ∧ s ≤ las ∧ k ≤ kb ∧ Lr w W.heap.size rs m lv ∧ (∀ j, Z j → j < w.heap.size) ∧ ∀ j, lv.ownBlock = some j → ¬ Z j ∧ j ≠ pb
theorem Kl.below (h : Kl W w rs pb sb wb lb xb kb i m s lv) (hb : Below w.heap.size w w') : Kl W w' rs pb sb wb lb xb kb i m s lv := by
  obtain ⟨h1, hc, Z, u, ps, las, ss, sz, dead, k, cs, h2, h3, h4, h5, h6, h7, h8, h9, h10⟩ := h
  exact ⟨h1.trans (hb.mono h1.size), hc, Z, u, ps, las, ss, sz, dead, k, cs, h2.below hb, h3, h4, h5, h6, h7, h8.below hb, fun j hj => Nat.lt_of_lt_of_le (h9 j hj) hb.size, h10⟩
theorem Kl.pair (h : Kl W w rs pb sb wb lb xb kb i m s lv) : w.cell? ⟨pb, 0, none⟩ = some (.pointer (some ⟨sb, 0, none⟩)) ∧ w.cell? ⟨pb, 1, none⟩ = some (.pointer (some ⟨wb, 0, none⟩)) ∧ w.cell? ⟨pb, 2, none⟩ = some (.pointer (some ⟨lb, 0, none⟩)) ∧ w.cell? ⟨pb, 3, none⟩ = some (.pointer (some ⟨xb, 0, none⟩)) := by
  obtain ⟨h1, hc, Z, u, ps, las, ss, sz, dead, k, cs, h2, _⟩ := h
  exact ⟨h2.pair.cell 0, h2.pair.cell 1, h2.pair.cell 2, h2.pair.cell 3⟩
theorem take_next {rs : List Rw} {i : Nat} {r : Rw} (h : rs[i]? = some r) : rs.take (i + 1) = rs.take i ++ [r] := by
  rw [List.take_add_one, h]
  rfl
theorem Kl.more {kb' : Nat} (h : Kl W w rs pb sb wb lb xb kb i m s lv) (hk : kb ≤ kb') : Kl W w rs pb sb wb lb xb kb' i m s lv := by
  obtain ⟨h1, hc, Z, u, ps, las, ss, sz, dead, k, cs, h2, h3, h4, h5, h6, h7, h8⟩ := h
  exact ⟨h1, hc, Z, u, ps, las, ss, sz, dead, k, cs, h2, h3, h4, h5, h6, Nat.le_trans h7 hk, h8⟩
theorem Kl.append {ap : Option Addr} {cp : Nat} {zs : List Int} (h : Kl W w rs pb sb wb lb xb kb i i s lv) (hi : i < 100) (hkb : kb ≤ 990) (hb : Bs W (.slice ap zs.length cp) zs) (hy : Byt zs) (hg : rs[i]? = some (.slice ap zs.length cp, zs)) :
    Calls Tryz.prog 16 #[.pointer (some ⟨lb, 0, none⟩), .slice ap zs.length cp] w fun e w1 => ∃ n er, e = .returned (.tuple #[.int .i64 n, .int .i64 er]) ∧ Below W.heap.size W w1 ∧ (w1.cell? ⟨pb, 2, none⟩ = some (.pointer (some ⟨lb, 0, none⟩)) ∧ w1.cell? ⟨pb, 3, none⟩ = some (.pointer (some ⟨xb, 0, none⟩))) ∧
      ∀ W1, Below w1.heap.size w1 W1 → Calls Tryz.prog 17 #[.pointer (some ⟨xb, 0, none⟩), .slice ap zs.length cp] W1 fun e w2 => e = .returned (.tuple #[.int .i64 n, .int .i64 er]) ∧ w2.cell? ⟨pb, 3, none⟩ = some (.pointer (some ⟨xb, 0, none⟩)) ∧ (er ≠ 0 → Kl W w2 rs pb sb wb lb xb (kb + 1) i i s lv) ∧ (er = 0 → Kl W w2 rs pb sb wb lb xb (kb + 1) (i + 1) i s lv) := by
  obtain ⟨h1, hc, Z, u, ps, las, ss, sz, dead, k, cs, h2, h3, h4, h5, h6, h7, h8, h9, h10⟩ := h
  have hw := h1.size
  have hbw : Bs w (.slice ap zs.length cp) zs := hb.below h1 (Nat.le_refl _)
  have hout : zs ≠ [] → Out W.heap.size Z (.slice ap zs.length cp) := fun hne j hj => by
    rcases hb with ⟨e, _⟩ | ⟨_, b, off, c, e, _, _, h3⟩
    · exact absurd e hne
    · rw [e] at hj
      have hkb : b = j := by simpa [Value.ownBlock] using hj
      rw [← hkb]
      exact Or.inl (World.block_lt_of_cell? W _ (h3 0 (List.length_pos_iff.2 hne)))
  have hpl : ps.length = i := by rw [h4, List.length_map, List.length_take]; omega
  obtain ⟨cs', a1, a2, a3⟩ := h3.append (p := zs) h2.sl (by omega) hy dead
  refine (LAp2 h2 (by omega) (hc.below h1) ap cp zs hbw hy hout).mono ?_
  rintro e w1 ⟨rfl, hg1, hM⟩
  have hX := fun j (hj : Zn W.heap.size Z pb j) => hj.1.1
  have hB1 := h1.trans (hg1.under hX hw)
  have hs1 := hg1.size
  refine ⟨_, _, rfl, hB1, ?_, fun W1 hW1 => ?_⟩
  · obtain ⟨_, _, _, _, _, _, hT, _⟩ := hM
    exact ⟨hT.p.cell 2, hT.p.cell 3⟩
  have hsW := hW1.size
  have hBW := hB1.trans (hW1.mono hB1.size)
  refine (XAp2 (hM.below hW1) (by omega) (by omega) (by omega) ap cp (hb.below hBW (Nat.le_refl _)) hy hout).mono ?_
  rintro e w2 ⟨rfl, hg2, hH⟩
  have hs2 := hg2.size
  have hB2 := hBW.trans (hg2.under hX (by omega))
  have hlk : ∀ j, lv.ownBlock = some j → w2.heap[j]? = w.heap[j]? := fun j hj => by
    have hj8 := (h8.2 j hj).2
    rw [hg2.block j (by omega) fun e => (h10 j hj).1 e.1.2, hW1.block j (by omega)]
    exact hg1.block j hj8 fun e => (h10 j hj).1 e.1.2
  have hL2 := h8.keep (w' := w2) (by omega) hlk
  have hpb := h2.pair.lt
  have key : ∀ i', i' ≤ rs.length → i ≤ i' → (apO [97] u ps las ss sz dead zs).ps = (rs.take i').map (·.2) → Kl W w2 rs pb sb wb lb xb (kb + 1) i' i s lv := fun i' hi' hii he => by
    refine ⟨hB2, hc, fun j => (Z j ∨ w.heap.size ≤ j) ∧ j < w2.heap.size, _, _, _, _, _, _, _, cs', hH.more fun j _ hj hz => ⟨hz, hj⟩, a1, he, hi', Nat.le_trans h6 a3, ?_, hL2, fun j hj => hj.2, fun j hj => ⟨fun e => ?_, (h10 j hj).2⟩⟩
    · omega
    · rcases e.1 with e | e
      · exact (h10 j hj).1 e
      · have := (h8.2 j hj).2; omega
  refine ⟨rfl, hH.pair.cell 3, fun hne => key i h5 (Nat.le_refl _) ?_, fun he => key (i + 1) ?_ (Nat.le_succ _) ?_⟩
  · rw [a2, if_neg hne, h4]
  · exact (List.getElem?_eq_some_iff.1 hg).1
  · rw [a2, if_pos he, h4, take_next hg, List.map_append]
    rfl
theorem Kl.laid {r : Rw} (h : Kl W w rs pb sb wb lb xb kb (i + 1) i s lv) (hg : rs[i]? = some r) (ho : w'.ownsRow 0 38 1 lv' (i + 1) ((rs.take i).map (·.1) ++ [r.1])) (hgr : w.grownBy w' lv.ownBlock) (hat : lv'.ownBlock = lv.ownBlock ∨ lv'.ownBlock = some w.heap.size) : Kl W w' rs pb sb wb lb xb kb (i + 1) (i + 1) s lv' := by
  obtain ⟨h1, hc, Z, u, ps, las, ss, sz, dead, k, cs, h2, h3, h4, h5, h6, h7, h8, h9, h10⟩ := h
  have hw := h1.size
  have hs := hgr.size
  have hpb := h2.pair.lt
  have hne : ∀ j, Z j ∨ j = pb → lv.ownBlock ≠ some j := fun j hj e => by
    rcases hj with hj | hj
    · exact (h10 j e).1 hj
    · exact (h10 j e).2 hj
  have hnew : ∀ j, lv'.ownBlock = some j → (W.heap.size ≤ j ∧ j < w'.heap.size) ∧ ¬ Z j ∧ j ≠ pb := fun j hj => by
    have hlt := (World.ownsRow.lt ho j hj).2
    rcases hat with e | e
    · rw [e] at hj
      exact ⟨⟨(h8.2 j hj).1, hlt⟩, h10 j hj⟩
    · rw [e] at hj
      have : w.heap.size = j := Option.some.inj hj
      exact ⟨⟨by omega, hlt⟩, fun e => by have := h9 j e; omega, by omega⟩
  refine ⟨⟨hgr.os.trans h1.os, hgr.tape.trans h1.tape, hgr.output.trans h1.output, Nat.le_trans hw hs, fun j hj => ?_⟩, hc, Z, u, ps, las, ss, sz, dead, k, cs, h2.keep hs fun j _ hj hz => hgr.block j hj (fun e => hne j hz e.symm), h3, h4, h5, h6, h7, ⟨?_, fun j hj => (hnew j hj).1⟩, fun j hj => Nat.lt_of_lt_of_le (h9 j hj) hs, fun j hj => (hnew j hj).2⟩
  · rw [hgr.block j (by omega) fun e => by have := (h8.2 j e.symm).1; omega]
    exact h1.block j hj
  · rw [take_next hg, List.map_append]
    exact ho
theorem Kl.sync (h : Kl W w rs pb sb wb lb xb kb i m s lv) (hi : i ≤ 100) (h0 : 0 < i) (hkb : kb ≤ 990) :
    Calls Tryz.prog 18 #[.pointer (some ⟨lb, 0, none⟩)] w fun e w1 => ∃ er, e = .returned (.int .i64 er) ∧ Below W.heap.size W w1 ∧ (w1.cell? ⟨pb, 2, none⟩ = some (.pointer (some ⟨lb, 0, none⟩)) ∧ w1.cell? ⟨pb, 3, none⟩ = some (.pointer (some ⟨xb, 0, none⟩))) ∧
      ∀ W1, Below w1.heap.size w1 W1 → Calls Tryz.prog 19 #[.pointer (some ⟨xb, 0, none⟩)] W1 fun e w2 => e = .returned (.int .i64 er) ∧ w2.cell? ⟨pb, 3, none⟩ = some (.pointer (some ⟨xb, 0, none⟩)) ∧ Kl W w2 rs pb sb wb lb xb (kb + 1) i m s lv ∧ (er = 0 → Kl W w2 rs pb sb wb lb xb (kb + 1) i m i lv) := by
  obtain ⟨h1, hc, Z, u, ps, las, ss, sz, dead, k, cs, h2, h3, h4, h5, h6, h7, h8, h9, h10⟩ := h
  have hw := h1.size
  have hpl : ps.length = i := by rw [h4, List.length_map, List.length_take]; omega
  have hss : ss ≠ [] := fun e => by
    have := (h2.sl.nil e).1
    rw [this] at hpl
    simp at hpl
    omega
  obtain ⟨a1, a2⟩ := h3.syL hss dead
  have hll : las ≤ (syL u ps.length las (nameN [97] (lastS ss)) dead).2.2.1 := by
    have := h3.le
    unfold Go.Proofs.YtnkjhooeklodcaaGreatDoor.syL
    split
    · exact Nat.le_refl _
    · split
      · exact Nat.le_refl _
      · show las ≤ if _ then ps.length else las
        split <;> omega
  refine (LSy2 h2 (by omega) (hc.below h1)).mono ?_
  rintro e w1 ⟨rfl, hg1, hM⟩
  have hX := fun j (hj : Zn W.heap.size Z pb j) => hj.1.1
  have hB1 := h1.trans (hg1.under hX hw)
  have hs1 := hg1.size
  refine ⟨_, rfl, hB1, ?_, fun W1 hW1 => ?_⟩
  · obtain ⟨_, _, _, _, _, _, hT, _⟩ := hM
    exact ⟨hT.p.cell 2, hT.p.cell 3⟩
  have hsW := hW1.size
  have hBW := hB1.trans (hW1.mono hB1.size)
  refine (XSy2 (hM.below hW1) (by omega) (by omega)).mono ?_
  rintro e w2 ⟨rfl, hg2, hH⟩
  have hs2 := hg2.size
  have hB2 := hBW.trans (hg2.under hX (by omega))
  have hlk : ∀ j, lv.ownBlock = some j → w2.heap[j]? = w.heap[j]? := fun j hj => by
    have hj8 := (h8.2 j hj).2
    rw [hg2.block j (by omega) fun e => (h10 j hj).1 e.1.2, hW1.block j (by omega)]
    exact hg1.block j hj8 fun e => (h10 j hj).1 e.1.2
  have hL2 := h8.keep (w' := w2) (by omega) hlk
  have key : ∀ s', s' ≤ (syL u ps.length las (nameN [97] (lastS ss)) dead).2.2.1 → Kl W w2 rs pb sb wb lb xb (kb + 1) i m s' lv := fun s' hs' => by
    refine ⟨hB2, hc, fun j => (Z j ∨ w.heap.size ≤ j) ∧ j < w2.heap.size, _, _, _, _, _, _, _, cs, hH.more fun j _ hj hz => ⟨hz, hj⟩, a1, h4, h5, hs', ?_, hL2, fun j hj => hj.2, fun j hj => ⟨fun e => ?_, (h10 j hj).2⟩⟩
    · omega
    · rcases e.1 with e | e
      · exact (h10 j hj).1 e
      · have := (h8.2 j hj).2; omega
  exact ⟨rfl, hH.pair.cell 3, key s (Nat.le_trans h6 hll), fun he => key i (by rw [a2 he, hpl]; exact Nat.le_refl _)⟩
def Qk (rs : List Rw) (i s : Nat) (q : List (List Int)) : Prop := s ≤ q.length ∧ q.length ≤ i ∧ ∀ j, j < s → q[j]? = ((rs.take i).map (·.2))[j]?
def Ko (W w : World) (rs : List Rw) (pb sb wb m : Nat) (lv : Value) (q : List (List Int)) : Prop :=
  Below W.heap.size W w ∧ Cx W W.heap.size ∧ ∃ Z lb xb u ps las ss sz dead, Hu w W.heap.size Z pb sb wb lb xb u u ps las ss sz dead ∧ Du u ∧ (openF [97] u).1.1 = 0 ∧ (openF [97] u).2.1 = q ∧ Lr w W.heap.size rs m lv ∧ (∀ j, Z j → j < w.heap.size) ∧ ∀ j, lv.ownBlock = some j → ¬ Z j ∧ j ≠ pb
theorem Ko.below (h : Ko W w rs pb sb wb m lv q) (hb : Below w.heap.size w w') : Ko W w' rs pb sb wb m lv q := by
  obtain ⟨h1, hc, Z, lb, xb, u, ps, las, ss, sz, dead, h2, h3, h4, h5, h8, h9, h10⟩ := h
  exact ⟨h1.trans (hb.mono h1.size), hc, Z, lb, xb, u, ps, las, ss, sz, dead, h2.below hb, h3, h4, h5, h8.below hb, fun j hj => Nat.lt_of_lt_of_le (h9 j hj) hb.size, h10⟩
theorem Ko.pair (h : Ko W w rs pb sb wb m lv q) : w.cell? ⟨pb, 0, none⟩ = some (.pointer (some ⟨sb, 0, none⟩)) ∧ w.cell? ⟨pb, 1, none⟩ = some (.pointer (some ⟨wb, 0, none⟩)) := by
  obtain ⟨h1, hc, Z, lb, xb, u, ps, las, ss, sz, dead, h2, _⟩ := h
  exact ⟨h2.pair.cell 0, h2.pair.cell 1⟩
theorem Kl.crash (h : Kl W w rs pb sb wb lb xb kb i m s lv) (hi : i ≤ 100) (keep t : Int) (hk : (Lit.int .i64 keep).wf = true) (ht : 0 ≤ t ∧ t < 256) : ∃ q, Qk rs i s q ∧
    Calls Tryz.prog 20 #[.pointer (some ⟨sb, 0, none⟩), .int .i64 keep, .int .u8 t] w fun e w1 => e = .returned (.tuple #[]) ∧ (w1.cell? ⟨pb, 0, none⟩ = some (.pointer (some ⟨sb, 0, none⟩)) ∧ w1.cell? ⟨pb, 1, none⟩ = some (.pointer (some ⟨wb, 0, none⟩))) ∧
      ∀ W1, Below w1.heap.size w1 W1 → Calls Tryz.prog 21 #[.pointer (some ⟨wb, 0, none⟩), .int .i64 keep, .int .u8 t] W1 fun e w2 => e = .returned (.tuple #[]) ∧ Ko W w2 rs pb sb wb m lv q := by
  obtain ⟨h1, hc, Z, u, ps, las, ss, sz, dead, k, cs, h2, h3, h4, h5, h6, h7, h8, h9, h10⟩ := h
  have hw := h1.size
  have hpl : ps.length = i := by rw [h4, List.length_map, List.length_take]; omega
  obtain ⟨r0, q1, q2, q3⟩ := h3.crash (by omega) h2.sl.seg ht keep
  have hle := h3.le
  refine ⟨ps.take las ++ r0, ⟨by rw [List.length_append, q3]; omega, by omega, fun j hj => ?_⟩, ?_⟩
  · rw [List.getElem?_append_left (by rw [q3]; omega), List.getElem?_take_of_lt (by omega), h4]
  refine (LCr2 h2.hu (by omega) keep t hk ht).mono ?_
  rintro e w1 ⟨rfl, hU1, hg1⟩
  have hX := fun j (hj : Zn W.heap.size Z pb j) => hj.1.1
  have hX2 := fun j (hj : Zn W.heap.size (fun j => Z j ∨ w.heap.size ≤ j) pb j) => hj.1.1
  have hB1 := h1.trans (hg1.under hX hw)
  have hs1 := hg1.size
  refine ⟨rfl, ⟨hU1.pair.cell 0, hU1.pair.cell 1⟩, fun W1 hW1 => ?_⟩
  have hsW := hW1.size
  have hBW := hB1.trans (hW1.mono hB1.size)
  refine (XCr2 (hU1.below hW1) h2.hu.good (by omega) keep t hk ht).mono ?_
  rintro e w2 ⟨rfl, hU2, hg2⟩
  have hs2 := hg2.size
  have hB2 := hBW.trans (hg2.under hX2 (by omega))
  have hnz : ∀ j, lv.ownBlock = some j → ¬ (Z j ∨ w.heap.size ≤ j) := fun j hj e => by
    rcases e with e | e
    · exact (h10 j hj).1 e
    · have := (h8.2 j hj).2; omega
  have hlk : ∀ j, lv.ownBlock = some j → w2.heap[j]? = w.heap[j]? := fun j hj => by
    have hj8 := (h8.2 j hj).2
    rw [hg2.block j (by omega) fun e => hnz j hj e.1.2, hW1.block j (by omega)]
    exact hg1.block j hj8 fun e => (h10 j hj).1 e.1.2
  have hDu : Du (u.crash keep t) := ⟨hU2.good, fun y hy => h2.sl.nl y (by rw [← lkU_crash keep.toNat t]; exact hy), h2.sl.rm⟩
  obtain ⟨D, F, G, H, es, fs, e1, e2, e3, e5⟩ := hU2
  refine ⟨rfl, hB2, hc, fun j => ((Z j ∨ w.heap.size ≤ j) ∨ W1.heap.size ≤ j) ∧ j < w2.heap.size, lb, xb, u.crash keep t, ps, las, ss, sz, dead, ⟨D, F, G, H, es, fs, e1, e2, e3, fun j hj => ⟨e5 j hj, ?_⟩⟩, hDu, (openF_free hDu rfl).1, q1, h8.keep (by omega) hlk, fun j hj => hj.2, fun j hj => ⟨fun e => ?_, (h10 j hj).2⟩⟩
  · rcases hj with (e | e) | (e | e)
    · exact e1.l.dl j e
    · exact e1.l.fl j e
    · exact e1.x.dl j e
    · exact e1.x.fl j e
  · rcases e.1 with e | e
    · exact hnz j hj e
    · have := (h8.2 j hj).2; omega
def Kf (W w : World) (rs : List Rw) (m : Nat) (lv : Value) (lb xb : Nat) (q : List (List Int)) : Prop := Below W.heap.size W w ∧ Lo3 w lb q ∧ Xo3 w xb q ∧ Lr w W.heap.size rs m lv
theorem Kf.below (h : Kf W w rs m lv lb xb q) (hb : Below w.heap.size w w') : Kf W w' rs m lv lb xb q :=
  ⟨h.1.trans (hb.mono h.1.size), h.2.1.below hb, h.2.2.1.below hb, h.2.2.2.below hb⟩
theorem Ko.open (h : Ko W w rs pb sb wb m lv q) :
    Calls Tryz.prog 22 #[.pointer (some ⟨sb, 0, none⟩), encStr [97]] w fun e w1 => ∃ lb2, e = .returned (.tuple #[.pointer (some ⟨lb2, 0, none⟩), .int .i64 0]) ∧ (w1.cell? ⟨pb, 0, none⟩ = some (.pointer (some ⟨sb, 0, none⟩)) ∧ w1.cell? ⟨pb, 1, none⟩ = some (.pointer (some ⟨wb, 0, none⟩))) ∧
      ∀ W1, Below w1.heap.size w1 W1 → Calls Tryz.prog 23 #[.pointer (some ⟨wb, 0, none⟩), encStr [97]] W1 fun e w2 => ∃ xb2, e = .returned (.tuple #[.pointer (some ⟨xb2, 0, none⟩), .int .i64 0]) ∧ w2.cell? ⟨pb, 1, none⟩ = some (.pointer (some ⟨wb, 0, none⟩)) ∧ Kf W w2 rs m lv lb2 xb2 q := by
  obtain ⟨h1, hc, Z, lb, xb, u, ps, las, ss, sz, dead, h2, h3, h4, rfl, h8, h9, h10⟩ := h
  have hw := h1.size
  have hpr := h2.pair
  refine (LOp2 h2 h3 h4 (hc.below h1)).mono ?_
  rintro e w1 ⟨lb2, rfl, hg1, hC⟩
  have hX := fun j (hj : Zn W.heap.size Z pb j) => hj.1.1
  have hB1 := h1.trans (hg1.under hX hw)
  have hs1 := hg1.size
  have hp1 := hpr.keep (hg1.block pb hpr.lt fun e => e.2 rfl)
  refine ⟨lb2, rfl, ⟨hp1.cell 0, hp1.cell 1⟩, fun W1 hW1 => ?_⟩
  have hsW := hW1.size
  have hBW := hB1.trans (hW1.mono hB1.size)
  refine (hC W1 hW1).mono ?_
  rintro e w2 ⟨xb2, rfl, hg2, hl, hx⟩
  have hs2 := hg2.size
  have hp2 := (hp1.keep (hW1.block pb hp1.lt)).keep (hg2.block pb (by have := hp1.lt; omega) fun e => e.2 rfl)
  refine ⟨xb2, rfl, hp2.cell 1, hBW.trans (hg2.under hX (by omega)), hl, hx, h8.keep (by omega) fun j hj => ?_⟩
  have hj8 := (h8.2 j hj).2
  rw [hg2.block j (by omega) fun e => (h10 j hj).1 e.1.2, hW1.block j (by omega)]
  exact hg1.block j hj8 fun e => (h10 j hj).1 e.1.2
theorem Lr.get (h : Lr w B rs m lv) {i : Nat} {r : Rw} (hi : i < m) (hr : rs[i]? = some r) : ∃ g cap, lv = .slice (some ⟨g, 0, none⟩) m cap ∧ w.cell? ⟨g, i, none⟩ = some r.1 := by
  rcases h.1.2 with ⟨_, h0⟩ | ⟨g, cap, cur, hv, _⟩
  · omega
  · refine ⟨g, cap, hv, ?_⟩
    have := World.ownsRow.cells h.1 (g := g) (by rw [hv]; rfl) i r.1 (by rw [List.getElem?_map, List.getElem?_take_of_lt hi, hr]; rfl)
    simpa [Addr.add_lit] using this
theorem Lr.form (h : Lr w B rs m lv) : ∃ ao cap, lv = .slice ao m cap := by
  rcases h.1.2 with ⟨e, h0⟩ | ⟨g, cap, cur, hv, _⟩
  · exact ⟨none, 0, by rw [e, h0]⟩
  · exact ⟨_, cap, hv⟩
end Go.Proofs.YtnkjhooeklodcaaGreatDoor
end
