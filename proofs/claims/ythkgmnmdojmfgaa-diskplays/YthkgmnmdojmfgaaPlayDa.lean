/-
  DiskPlays: does, by contract: Sync, Cut, Rename, Remove.
-/
import Derived.Test.YthkgmnmdojmfgaaPlayT
namespace Go.Proofs.Ythkgmnmdojmfgaa
open Go.RowKit Go.Maps Go.Sort
variable {w w' : World} {F G : Nat → Prop} {sb wb : Nat} {u v : Ud}

set_option maxHeartbeats 3200000 in
set_option maxRecDepth 20000 in
theorem does2 (h : T2 w F G sb wb u u) (s : Sp) (hs : s.ok w) :
    Calls Try.prog 17 #[.pointer (some ⟨sb, 0, none⟩), .pointer (some ⟨wb, 0, none⟩), .agg #[.int .i64 2, .int .i64 s.n, encStr s.a, encStr s.t, s.v, .int .u8 s.x]] w fun e w' => e = .returned (.bool true) ∧ DRes F G sb wb w w' := by
  obtain ⟨av, cv, hsv, _⟩ := hs.bs.len
  have hB1 : Below w.heap.size w (w.alloc (.cells #[.int .i64 2, .int .i64 s.n, encStr s.a, encStr s.t, .slice av s.zs.length cv, .int .u8 s.x] 34)) := (Below.refl _ _).alloc (Nat.le_refl _) _
  have hT1 := h.to hB1
  have hw1 : Cw (w.alloc (.cells #[.int .i64 2, .int .i64 s.n, encStr s.a, encStr s.t, .slice av s.zs.length cv, .int .u8 s.x] 34)) w.heap.size [.int .i64 2, .int .i64 s.n, encStr s.a, encStr s.t, .slice av s.zs.length cv, .int .u8 s.x] 34 := Cw.new w _ _
  have hg := h.p.good
  have hnF : ¬ F w.heap.size := fun e => by have := h.fl _ e; omega
  have hnG : ¬ G w.heap.size := fun e => by have := h.gl _ e; omega
  have hal := names_le hs.a
  have htl := names_le hs.t
  rw [hsv]
  have c1 := hw1.cell 1
  have c2 := hw1.cell 2
  have c3 := hw1.cell 3
  have c4 := hw1.cell 4
  have c5 := hw1.cell 5
  simp only [List.getElem?_cons_succ, List.getElem?_cons_zero] at c1 c2 c3 c4 c5
  generalize hr : u.five [s.a] (syU s.a) = r at *
  have CP := fun (W : World) (F' : Nat → Prop) (hW : Pd W F' sb u) => pSync hW s.a hal
  have CQ := fun (W : World) (G' : Nat → Prop) (hW : Qd W G' wb u) => qSync hW hg s.a hs.a
  rw [hr] at CP CQ
  have HN : Hid (¬ F w.heap.size ∧ ¬ G w.heap.size) := ⟨hnF, hnG⟩
  clear hr
  go_enter Try.func17, Try.ntmps17
  go_wp2_with fail
  go_region_held3 (fun x => x.cell? ⟨w.heap.size, 2, none⟩ = some (encStr s.a)) (first | exact ⟨c2⟩ | exact c2 | assumption)
    (first
      | (go_at_call 19; refine (hT1.drew.pcall (CP _ _ hT1.drew.p)).mono ?_; rintro e w3 ⟨rfl, F1, hT3, hx3, hg3⟩; have ht3 := cell_grows hg3 (by exact c2) hnF)
      | (go_at_call 38; refine (hT3.qcall (CQ _ _ hT3.q)).mono ?_; rintro e w4 ⟨rfl, G1, hT4, hx4, hg4⟩; have ht4 := cell_grows hg4 ht3 hnG))
  have hD : Hid (DRes F G sb wb w w4) := DRes.both (w1 := (w.alloc (.cells #[.int .i64 2, .int .i64 s.n, encStr s.a, encStr s.t, .slice av s.zs.length cv, .int .u8 s.x] 34)).drew) ⟨hB1.os, hB1.tape, hB1.output, hB1.size, hB1.block⟩ hx3 hg3 hx4 hg4 hT4 (Grows.refl _ _)
  clear hT4 hT3 hx3 hx4 hg3 hg4 ht3 ht4 CP CQ hT1
  go_wp2_with fail
  go_ret
  exact ⟨rfl, hD.out⟩
set_option maxHeartbeats 3200000 in
set_option maxRecDepth 20000 in
theorem does3 (h : T2 w F G sb wb u u) (s : Sp) (hs : s.ok w) :
    Calls Try.prog 17 #[.pointer (some ⟨sb, 0, none⟩), .pointer (some ⟨wb, 0, none⟩), .agg #[.int .i64 3, .int .i64 s.n, encStr s.a, encStr s.t, s.v, .int .u8 s.x]] w fun e w' => e = .returned (.bool true) ∧ DRes F G sb wb w w' := by
  obtain ⟨av, cv, hsv, _⟩ := hs.bs.len
  have hB1 : Below w.heap.size w (w.alloc (.cells #[.int .i64 3, .int .i64 s.n, encStr s.a, encStr s.t, .slice av s.zs.length cv, .int .u8 s.x] 34)) := (Below.refl _ _).alloc (Nat.le_refl _) _
  have hT1 := h.to hB1
  have hw1 : Cw (w.alloc (.cells #[.int .i64 3, .int .i64 s.n, encStr s.a, encStr s.t, .slice av s.zs.length cv, .int .u8 s.x] 34)) w.heap.size [.int .i64 3, .int .i64 s.n, encStr s.a, encStr s.t, .slice av s.zs.length cv, .int .u8 s.x] 34 := Cw.new w _ _
  have hg := h.p.good
  have hnF : ¬ F w.heap.size := fun e => by have := h.fl _ e; omega
  have hnG : ¬ G w.heap.size := fun e => by have := h.gl _ e; omega
  have hal := names_le hs.a
  have htl := names_le hs.t
  rw [hsv]
  have c1 := hw1.cell 1
  have c2 := hw1.cell 2
  have c3 := hw1.cell 3
  have c4 := hw1.cell 4
  have c5 := hw1.cell 5
  simp only [List.getElem?_cons_succ, List.getElem?_cons_zero] at c1 c2 c3 c4 c5
  generalize hr : u.five [s.a] (cuU s.a s.n) = r at *
  have CP := fun (W : World) (F' : Nat → Prop) (hW : Pd W F' sb u) => pCut hW s.a hal s.n hs.n
  have CQ := fun (W : World) (G' : Nat → Prop) (hW : Qd W G' wb u) => qCut hW hg s.a hs.a s.n
  rw [hr] at CP CQ
  have HN : Hid (¬ F w.heap.size ∧ ¬ G w.heap.size) := ⟨hnF, hnG⟩
  clear hr
  go_enter Try.func17, Try.ntmps17
  go_wp2_with fail
  go_region_held3 (fun x => x.cell? ⟨w.heap.size, 1, none⟩ = some (.int .i64 s.n) ∧ x.cell? ⟨w.heap.size, 2, none⟩ = some (encStr s.a)) (first | exact ⟨c1, c2⟩ | exact c2 | assumption)
    (first
      | (go_at_call 23; refine (hT1.drew.pcall (CP _ _ hT1.drew.p)).mono ?_; rintro e w3 ⟨rfl, F1, hT3, hx3, hg3⟩; have ht3 := And.intro (cell_grows hg3 (by exact c1) hnF) (cell_grows hg3 (by exact c2) hnF))
      | (go_at_call 39; refine (hT3.qcall (CQ _ _ hT3.q)).mono ?_; rintro e w4 ⟨rfl, G1, hT4, hx4, hg4⟩; have ht4 := And.intro (cell_grows hg4 ht3.1 hnG) (cell_grows hg4 ht3.2 hnG)))
  have hD : Hid (DRes F G sb wb w w4) := DRes.both (w1 := (w.alloc (.cells #[.int .i64 3, .int .i64 s.n, encStr s.a, encStr s.t, .slice av s.zs.length cv, .int .u8 s.x] 34)).drew) ⟨hB1.os, hB1.tape, hB1.output, hB1.size, hB1.block⟩ hx3 hg3 hx4 hg4 hT4 (Grows.refl _ _)
  clear hT4 hT3 hx3 hx4 hg3 hg4 ht3 ht4 CP CQ hT1
  go_wp2_with fail
  go_ret
  exact ⟨rfl, hD.out⟩
set_option maxHeartbeats 3200000 in
set_option maxRecDepth 20000 in
theorem does4 (h : T2 w F G sb wb u u) (s : Sp) (hs : s.ok w) :
    Calls Try.prog 17 #[.pointer (some ⟨sb, 0, none⟩), .pointer (some ⟨wb, 0, none⟩), .agg #[.int .i64 4, .int .i64 s.n, encStr s.a, encStr s.t, s.v, .int .u8 s.x]] w fun e w' => e = .returned (.bool true) ∧ DRes F G sb wb w w' := by
  obtain ⟨av, cv, hsv, _⟩ := hs.bs.len
  have hB1 : Below w.heap.size w (w.alloc (.cells #[.int .i64 4, .int .i64 s.n, encStr s.a, encStr s.t, .slice av s.zs.length cv, .int .u8 s.x] 34)) := (Below.refl _ _).alloc (Nat.le_refl _) _
  have hT1 := h.to hB1
  have hw1 : Cw (w.alloc (.cells #[.int .i64 4, .int .i64 s.n, encStr s.a, encStr s.t, .slice av s.zs.length cv, .int .u8 s.x] 34)) w.heap.size [.int .i64 4, .int .i64 s.n, encStr s.a, encStr s.t, .slice av s.zs.length cv, .int .u8 s.x] 34 := Cw.new w _ _
  have hg := h.p.good
  have hnF : ¬ F w.heap.size := fun e => by have := h.fl _ e; omega
  have hnG : ¬ G w.heap.size := fun e => by have := h.gl _ e; omega
  have hal := names_le hs.a
  have htl := names_le hs.t
  rw [hsv]
  have c1 := hw1.cell 1
  have c2 := hw1.cell 2
  have c3 := hw1.cell 3
  have c4 := hw1.cell 4
  have c5 := hw1.cell 5
  simp only [List.getElem?_cons_succ, List.getElem?_cons_zero] at c1 c2 c3 c4 c5
  generalize hr : u.five [s.a, s.t] (rnU s.a s.t) = r at *
  have CP := fun (W : World) (F' : Nat → Prop) (hW : Pd W F' sb u) => pRename hW s.a s.t hal htl
  have CQ := fun (W : World) (G' : Nat → Prop) (hW : Qd W G' wb u) => qRename hW hg s.a s.t hs.a hs.t
  rw [hr] at CP CQ
  have HN : Hid (¬ F w.heap.size ∧ ¬ G w.heap.size) := ⟨hnF, hnG⟩
  clear hr
  go_enter Try.func17, Try.ntmps17
  go_wp2_with fail
  go_region_held3 (fun x => x.cell? ⟨w.heap.size, 2, none⟩ = some (encStr s.a) ∧ x.cell? ⟨w.heap.size, 3, none⟩ = some (encStr s.t)) (first | exact ⟨c2, c3⟩ | exact c2 | assumption)
    (first
      | (go_at_call 24; refine (hT1.drew.pcall (CP _ _ hT1.drew.p)).mono ?_; rintro e w3 ⟨rfl, F1, hT3, hx3, hg3⟩; have ht3 := And.intro (cell_grows hg3 (by exact c2) hnF) (cell_grows hg3 (by exact c3) hnF))
      | (go_at_call 40; refine (hT3.qcall (CQ _ _ hT3.q)).mono ?_; rintro e w4 ⟨rfl, G1, hT4, hx4, hg4⟩; have ht4 := And.intro (cell_grows hg4 ht3.1 hnG) (cell_grows hg4 ht3.2 hnG)))
  have hD : Hid (DRes F G sb wb w w4) := DRes.both (w1 := (w.alloc (.cells #[.int .i64 4, .int .i64 s.n, encStr s.a, encStr s.t, .slice av s.zs.length cv, .int .u8 s.x] 34)).drew) ⟨hB1.os, hB1.tape, hB1.output, hB1.size, hB1.block⟩ hx3 hg3 hx4 hg4 hT4 (Grows.refl _ _)
  clear hT4 hT3 hx3 hx4 hg3 hg4 ht3 ht4 CP CQ hT1
  go_wp2_with fail
  go_ret
  exact ⟨rfl, hD.out⟩
set_option maxHeartbeats 3200000 in
set_option maxRecDepth 20000 in
theorem does5 (h : T2 w F G sb wb u u) (s : Sp) (hs : s.ok w) :
    Calls Try.prog 17 #[.pointer (some ⟨sb, 0, none⟩), .pointer (some ⟨wb, 0, none⟩), .agg #[.int .i64 5, .int .i64 s.n, encStr s.a, encStr s.t, s.v, .int .u8 s.x]] w fun e w' => e = .returned (.bool true) ∧ DRes F G sb wb w w' := by
  obtain ⟨av, cv, hsv, _⟩ := hs.bs.len
  have hB1 : Below w.heap.size w (w.alloc (.cells #[.int .i64 5, .int .i64 s.n, encStr s.a, encStr s.t, .slice av s.zs.length cv, .int .u8 s.x] 34)) := (Below.refl _ _).alloc (Nat.le_refl _) _
  have hT1 := h.to hB1
  have hw1 : Cw (w.alloc (.cells #[.int .i64 5, .int .i64 s.n, encStr s.a, encStr s.t, .slice av s.zs.length cv, .int .u8 s.x] 34)) w.heap.size [.int .i64 5, .int .i64 s.n, encStr s.a, encStr s.t, .slice av s.zs.length cv, .int .u8 s.x] 34 := Cw.new w _ _
  have hg := h.p.good
  have hnF : ¬ F w.heap.size := fun e => by have := h.fl _ e; omega
  have hnG : ¬ G w.heap.size := fun e => by have := h.gl _ e; omega
  have hal := names_le hs.a
  have htl := names_le hs.t
  rw [hsv]
  have c1 := hw1.cell 1
  have c2 := hw1.cell 2
  have c3 := hw1.cell 3
  have c4 := hw1.cell 4
  have c5 := hw1.cell 5
  simp only [List.getElem?_cons_succ, List.getElem?_cons_zero] at c1 c2 c3 c4 c5
  generalize hr : u.five [s.a] (rmU s.a) = r at *
  have CP := fun (W : World) (F' : Nat → Prop) (hW : Pd W F' sb u) => pRemove hW s.a hal
  have CQ := fun (W : World) (G' : Nat → Prop) (hW : Qd W G' wb u) => qRemove hW hg s.a hs.a
  rw [hr] at CP CQ
  have HN : Hid (¬ F w.heap.size ∧ ¬ G w.heap.size) := ⟨hnF, hnG⟩
  clear hr
  go_enter Try.func17, Try.ntmps17
  go_wp2_with fail
  go_region_held3 (fun x => x.cell? ⟨w.heap.size, 2, none⟩ = some (encStr s.a)) (first | exact ⟨c2⟩ | exact c2 | assumption)
    (first
      | (go_at_call 22; refine (hT1.drew.pcall (CP _ _ hT1.drew.p)).mono ?_; rintro e w3 ⟨rfl, F1, hT3, hx3, hg3⟩; have ht3 := cell_grows hg3 (by exact c2) hnF)
      | (go_at_call 41; refine (hT3.qcall (CQ _ _ hT3.q)).mono ?_; rintro e w4 ⟨rfl, G1, hT4, hx4, hg4⟩; have ht4 := cell_grows hg4 ht3 hnG))
  have hD : Hid (DRes F G sb wb w w4) := DRes.both (w1 := (w.alloc (.cells #[.int .i64 5, .int .i64 s.n, encStr s.a, encStr s.t, .slice av s.zs.length cv, .int .u8 s.x] 34)).drew) ⟨hB1.os, hB1.tape, hB1.output, hB1.size, hB1.block⟩ hx3 hg3 hx4 hg4 hT4 (Grows.refl _ _)
  clear hT4 hT3 hx3 hx4 hg3 hg4 ht3 ht4 CP CQ hT1
  go_wp2_with fail
  go_ret
  exact ⟨rfl, hD.out⟩
end Go.Proofs.Ythkgmnmdojmfgaa
