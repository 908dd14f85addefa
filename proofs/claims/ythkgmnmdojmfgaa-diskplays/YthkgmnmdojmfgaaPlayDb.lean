/-
  DiskPlays: does, by contract: Fuse, Crash, Read.
-/
import Derived.Test.YthkgmnmdojmfgaaPlayDa
namespace Go.Proofs.Ythkgmnmdojmfgaa
open Go.RowKit Go.Maps Go.Sort
variable {w w' : World} {F G : Nat → Prop} {sb wb : Nat} {u v : Ud}

theorem wf_lt {n : Int} (h : (Lit.int .i64 n).wf = true) : n < 9223372036854775808 := by simp [Lit.wf] at h; omega
theorem pFuse' (h : Pd w F sb u) (n : Int) (hn : (Lit.int .i64 n).wf = true) : Calls Try.prog 21 #[.pointer (some ⟨sb, 0, none⟩), .int .i64 n] w fun e w' => e = .returned (.tuple #[]) ∧ PRes F sb (u.fuse n) w w' :=
  (pFuse h n hn).mono fun _ _ hh => ⟨hh.1, hh.2.1.more fun _ hk _ => Or.inl hk, hh.2.2⟩
theorem qFuse' (h : Qd w F wb u) (n : Int) : Calls Try.prog 42 #[.pointer (some ⟨wb, 0, none⟩), .int .i64 n] w fun e w' => e = .returned (.tuple #[]) ∧ QRes F wb (u.fuse n) w w' :=
  (qFuse h n).mono fun _ _ hh => ⟨hh.1, hh.2.1.more fun _ hk _ => Or.inl hk, hh.2.2⟩
set_option maxHeartbeats 3200000 in
set_option maxRecDepth 20000 in
theorem does6 (h : T2 w F G sb wb u u) (s : Sp) (hs : s.ok w) :
    Calls Try.prog 17 #[.pointer (some ⟨sb, 0, none⟩), .pointer (some ⟨wb, 0, none⟩), .agg #[.int .i64 6, .int .i64 s.n, encStr s.a, encStr s.t, s.v, .int .u8 s.x]] w fun e w' => e = .returned (.bool true) ∧ DRes F G sb wb w w' := by
  obtain ⟨av, cv, hsv, _⟩ := hs.bs.len
  have hB1 : Below w.heap.size w (w.alloc (.cells #[.int .i64 6, .int .i64 s.n, encStr s.a, encStr s.t, .slice av s.zs.length cv, .int .u8 s.x] 34)) := (Below.refl _ _).alloc (Nat.le_refl _) _
  have hT1 := h.to hB1
  have hw1 : Cw (w.alloc (.cells #[.int .i64 6, .int .i64 s.n, encStr s.a, encStr s.t, .slice av s.zs.length cv, .int .u8 s.x] 34)) w.heap.size [.int .i64 6, .int .i64 s.n, encStr s.a, encStr s.t, .slice av s.zs.length cv, .int .u8 s.x] 34 := Cw.new w _ _
  have hg := h.p.good
  have hnF : ¬ F w.heap.size := fun e => by have := h.fl _ e; omega
  have hnG : ¬ G w.heap.size := fun e => by have := h.gl _ e; omega
  have hal := names_le hs.a
  have htl := names_le hs.t
  rw [hsv]
  have c1 := hw1.cell 1
  have c2 := hw1.cell 2
  have c3 := hw1.cell 3
  have c4 := hw1.cell 4
  have c5 := hw1.cell 5
  simp only [List.getElem?_cons_succ, List.getElem?_cons_zero] at c1 c2 c3 c4 c5
  have CP := fun (W : World) (F' : Nat → Prop) (hW : Pd W F' sb u) => pFuse' hW s.n hs.n
  have CQ := fun (W : World) (G' : Nat → Prop) (hW : Qd W G' wb u) => qFuse' hW s.n
  generalize u.fuse s.n = r at *
  go_enter Try.func17, Try.ntmps17
  go_wp2_with (first
      | (go_at_call 21; refine (hT1.pcall (CP _ _ hT1.p)).mono ?_; rintro e w3 ⟨rfl, F1, hT3, hx3, hg3⟩; have d1 := cell_grows hg3 c1 hnF; have d5 := cell_grows hg3 c5 hnF)
      | (go_at_call 42; refine (hT3.qcall (CQ _ _ hT3.q)).mono ?_; rintro e w4 ⟨rfl, G1, hT4, hx4, hg4⟩))
  have hD : Hid (DRes F G sb wb w w4) := DRes.both hB1 hx3 hg3 hx4 hg4 hT4 (Grows.refl _ _)
  go_ret
  exact ⟨rfl, hD.out⟩
set_option maxHeartbeats 3200000 in
set_option maxRecDepth 20000 in
theorem does7 (h : T2 w F G sb wb u u) (s : Sp) (hs : s.ok w) :
    Calls Try.prog 17 #[.pointer (some ⟨sb, 0, none⟩), .pointer (some ⟨wb, 0, none⟩), .agg #[.int .i64 7, .int .i64 s.n, encStr s.a, encStr s.t, s.v, .int .u8 s.x]] w fun e w' => e = .returned (.bool true) ∧ DRes F G sb wb w w' := by
  obtain ⟨av, cv, hsv, _⟩ := hs.bs.len
  have hB1 : Below w.heap.size w (w.alloc (.cells #[.int .i64 7, .int .i64 s.n, encStr s.a, encStr s.t, .slice av s.zs.length cv, .int .u8 s.x] 34)) := (Below.refl _ _).alloc (Nat.le_refl _) _
  have hT1 := h.to hB1
  have hw1 : Cw (w.alloc (.cells #[.int .i64 7, .int .i64 s.n, encStr s.a, encStr s.t, .slice av s.zs.length cv, .int .u8 s.x] 34)) w.heap.size [.int .i64 7, .int .i64 s.n, encStr s.a, encStr s.t, .slice av s.zs.length cv, .int .u8 s.x] 34 := Cw.new w _ _
  have hg := h.p.good
  have hnF : ¬ F w.heap.size := fun e => by have := h.fl _ e; omega
  have hnG : ¬ G w.heap.size := fun e => by have := h.gl _ e; omega
  have hal := names_le hs.a
  have htl := names_le hs.t
  rw [hsv]
  have c1 := hw1.cell 1
  have c2 := hw1.cell 2
  have c3 := hw1.cell 3
  have c4 := hw1.cell 4
  have c5 := hw1.cell 5
  simp only [List.getElem?_cons_succ, List.getElem?_cons_zero] at c1 c2 c3 c4 c5
  have CP := fun (W : World) (F' : Nat → Prop) (hW : Pd W F' sb u) => pCrash hW s.n s.x (wf_lt hs.n) hs.x
  have CQ := fun (W : World) (G' : Nat → Prop) (hW : Qd W G' wb u) => qCrash hW hg s.n s.x (wf_lt hs.n) hs.x
  generalize u.crash s.n s.x = r at *
  go_enter Try.func17, Try.ntmps17
  go_wp2_with (first
      | (go_at_call 16; refine (hT1.pcall (CP _ _ hT1.p)).mono ?_; rintro e w3 ⟨rfl, F1, hT3, hx3, hg3⟩; have d1 := cell_grows hg3 c1 hnF; have d5 := cell_grows hg3 c5 hnF)
      | (go_at_call 43; refine (hT3.qcall (CQ _ _ hT3.q)).mono ?_; rintro e w4 ⟨rfl, G1, hT4, hx4, hg4⟩))
  have hD : Hid (DRes F G sb wb w w4) := DRes.both hB1 hx3 hg3 hx4 hg4 hT4 (Grows.refl _ _)
  go_ret
  exact ⟨rfl, hD.out⟩
set_option maxHeartbeats 3200000 in
set_option maxRecDepth 20000 in
theorem does9 (h : T2 w F G sb wb u u) (s : Sp) (hs : s.ok w) (hk : s.k ≠ 1 ∧ s.k ≠ 2 ∧ s.k ≠ 3 ∧ s.k ≠ 4 ∧ s.k ≠ 5 ∧ s.k ≠ 6 ∧ s.k ≠ 7) :
    Calls Try.prog 17 #[.pointer (some ⟨sb, 0, none⟩), .pointer (some ⟨wb, 0, none⟩), .agg #[.int .i64 s.k, .int .i64 s.n, encStr s.a, encStr s.t, s.v, .int .u8 s.x]] w fun e w' => e = .returned (.bool true) ∧ DRes F G sb wb w w' := by
  obtain ⟨av, cv, hsv, _⟩ := hs.bs.len
  have hB1 : Below w.heap.size w (w.alloc (.cells #[.int .i64 s.k, .int .i64 s.n, encStr s.a, encStr s.t, .slice av s.zs.length cv, .int .u8 s.x] 34)) := (Below.refl _ _).alloc (Nat.le_refl _) _
  have hT1 := h.to hB1
  have hw1 : Cw (w.alloc (.cells #[.int .i64 s.k, .int .i64 s.n, encStr s.a, encStr s.t, .slice av s.zs.length cv, .int .u8 s.x] 34)) w.heap.size [.int .i64 s.k, .int .i64 s.n, encStr s.a, encStr s.t, .slice av s.zs.length cv, .int .u8 s.x] 34 := Cw.new w _ _
  have hg := h.p.good
  have hnF : ¬ F w.heap.size := fun e => by have := h.fl _ e; omega
  have hnG : ¬ G w.heap.size := fun e => by have := h.gl _ e; omega
  have hal := names_le hs.a
  have htl := names_le hs.t
  rw [hsv]
  have c0 := hw1.cell 0
  simp only [List.getElem?_cons_zero] at c0
  have c1 := hw1.cell 1
  have c2 := hw1.cell 2
  have c3 := hw1.cell 3
  have c4 := hw1.cell 4
  have c5 := hw1.cell 5
  simp only [List.getElem?_cons_succ, List.getElem?_cons_zero] at c1 c2 c3 c4 c5
  obtain ⟨k1, k2, k3, k4, k5, k6, k7⟩ := hk
  have k1 : (s.k == 1) = false := by simpa using k1
  have k2 : (s.k == 2) = false := by simpa using k2
  have k3 : (s.k == 3) = false := by simpa using k3
  have k4 : (s.k == 4) = false := by simpa using k4
  have k5 : (s.k == 5) = false := by simpa using k5
  have k6 : (s.k == 6) = false := by simpa using k6
  have k7 : (s.k == 7) = false := by simpa using k7
  have CP := pRead hT1.p s.a hal
  have hzl : (at0U u.us s.a).1.length ≤ 1073741824 := by
    unfold at0U
    cases hl : lkU u.us s.a with
    | none => simp
    | some g => exact hg.len hl
  have CQ := fun (W : World) (hW : Qd W G wb u) => qRead hW hg s.a
  generalize (at0U u.us s.a).1 = zs at *
  generalize rdE u.us s.a = er at *
  have hee : eqB zs zs = true := by simp [eqB]
  go_enter Try.func17, Try.ntmps17
  go_wp2_with (first
      | (go_at_call 20; refine CP.mono ?_; rintro e w3 ⟨ao3, cap3, rfl, ho3, hB3⟩; have d2 := cell_below hB3 c2 (by simp); have hT3 := hT1.to hB3)
      | (go_at_call 44; refine (CQ _ hT3.q).mono ?_; rintro e w4 ⟨ao4, cap4, rfl, ho4, hB4⟩; have ho3' := ownsRow_below ho3 hB4)
      | (go_at_call 27; refine (same_any _ _ zs zs _ (by exact Ow.bs ho3') ho4.bs).mono ?_; rw [hee]; rintro e w5 ⟨rfl, hs5⟩)
      | (go_at_call 37; refine (spoil_any _ _ zs _ (hs5.ow ho3') (by have := hB4.size; have := hB3.size; have := hs5.size; omega) (by omega)).mono ?_; rintro e w6 ⟨rfl, hg6⟩))
  have hD : Hid (DRes F G sb wb w w6) := by
    refine DRes.none h ?_
    have b3 : Below w.heap.size w w3 := hB1.trans (hB3.mono (by simp))
    have b4 : Below w.heap.size w w4 := b3.trans (hB4.mono b3.size)
    have b5 : Below w.heap.size w w5 := b4.trans (hs5.below _)
    refine (Grows.below0 b5).trans (Grows.grownBy (F := fun k => w.heap.size ≤ k) hg6 fun k hk => ?_) fun k hk => Or.inl hk
    have := (World.ownsRow.lt ho3 k hk).1
    simp at this
    omega
  go_ret
  exact ⟨rfl, hD.out⟩
end Go.Proofs.Ythkgmnmdojmfgaa
