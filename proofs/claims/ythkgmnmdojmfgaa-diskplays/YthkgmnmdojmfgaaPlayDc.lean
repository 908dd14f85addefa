/-
  DiskPlays: does, by contract: Write; and all of it.
-/
import Derived.Test.YthkgmnmdojmfgaaPlayDb
namespace Go.Proofs.Ythkgmnmdojmfgaa
open Go.RowKit Go.Maps Go.Sort
variable {w w' : World} {F G : Nat → Prop} {sb wb : Nat} {u v : Ud}

theorem cell_sm {w w' : World} (hs : Sm w w') {b i : Nat} {c : Value} (hc : w.cell? ⟨b, i, none⟩ = some c) : w'.cell? ⟨b, i, none⟩ = some c := by
  rw [World.cell?_of_block (w := w) (show w'.heap[b]? = w.heap[b]? by rw [hs.heap])]
  exact hc
set_option maxHeartbeats 3200000 in
set_option maxRecDepth 20000 in
theorem does1 (h : T2 w F G sb wb u u) (s : Sp) (hs : s.ok w) (hsf : s.zs ≠ [] → ∀ k, s.v.ownBlock = some k → ¬ F k ∧ ¬ G k) (hz : s.zs.length ≤ 100000) :
    Calls Try.prog 17 #[.pointer (some ⟨sb, 0, none⟩), .pointer (some ⟨wb, 0, none⟩), .agg #[.int .i64 1, .int .i64 s.n, encStr s.a, encStr s.t, s.v, .int .u8 s.x]] w fun e w' => e = .returned (.bool true) ∧ DRes F G sb wb w w' := by
  obtain ⟨av, cv, hsv, _⟩ := hs.bs.len
  have hB1 : Below w.heap.size w (w.alloc (.cells #[.int .i64 1, .int .i64 s.n, encStr s.a, encStr s.t, .slice av s.zs.length cv, .int .u8 s.x] 34)) := (Below.refl _ _).alloc (Nat.le_refl _) _
  have hT1 := h.to hB1
  have hw1 : Cw (w.alloc (.cells #[.int .i64 1, .int .i64 s.n, encStr s.a, encStr s.t, .slice av s.zs.length cv, .int .u8 s.x] 34)) w.heap.size [.int .i64 1, .int .i64 s.n, encStr s.a, encStr s.t, .slice av s.zs.length cv, .int .u8 s.x] 34 := Cw.new w _ _
  have hg := h.p.good
  have hnF : ¬ F w.heap.size := fun e => by have := h.fl _ e; omega
  have hnG : ¬ G w.heap.size := fun e => by have := h.gl _ e; omega
  have hal := names_le hs.a
  have htl := names_le hs.t
  rw [hsv]
  have c1 := hw1.cell 1
  have c2 := hw1.cell 2
  have c3 := hw1.cell 3
  have c4 := hw1.cell 4
  have c5 := hw1.cell 5
  simp only [List.getElem?_cons_succ, List.getElem?_cons_zero] at c1 c2 c3 c4 c5
  have hbs := hs.bs
  rw [hsv] at hbs hsf
  have hbs1 := hbs.below hB1 (Nat.le_refl _)
  have CR := roomy_any _ s.zs _ hbs1 (by omega)
  generalize hr : u.five [s.a] (wrU s.a s.zs u.room) = r at *
  have CP := fun (W : World) (F' : Nat → Prop) (hW : Pd W F' sb u) (ap : Option Addr) (cp : Nat) (hb : Bs W (.slice ap s.zs.length cp) s.zs) => pWrite hW s.a hal ap cp s.zs hb hs.by8
  have CQ := fun (W : World) (G' : Nat → Prop) (hW : Qd W G' wb u) (hb : Bs W (.slice av s.zs.length cv) s.zs) (hap : s.zs ≠ [] → ∀ k, (Value.slice av s.zs.length cv).ownBlock = some k → ¬ G' k) => qWrite hW hg s.a hs.a av cv s.zs hb hs.by8 hap hs.len
  rw [hr] at CP CQ
  have f1 : (0 : Int) ≤ (s.zs.length : Int) := by omega
  clear hr
  go_enter Try.func17, Try.ntmps17
  go_wp2_with (go_at_call 34; refine CR.mono ?_; rintro e w2 ⟨g, cap, rfl, ho2, hB2, hgl, hcap⟩; have f2 : (s.zs.length : Int) ≤ (cap : Int) := by omega)
  have hT2 := hT1.to hB2
  have d2 := cell_below hB2 c2 (by simp)
  have d4 := cell_below hB2 c4 (by simp)
  have hbs2 := hbs1.below hB2 (Nat.le_refl _)
  have hbw2 : Bs w2 (.slice (some ⟨g, 0, none⟩) s.zs.length cap) s.zs := by
    have e1 := ho2.bs.take s.zs.length (by simp)
    simpa using e1
  have hgl2 : w.heap.size + 1 ≤ g := by simpa using hgl
  have hg2 : g < w2.heap.size := (World.ownsRow.lt ho2 g rfl).2
  have hgF : ¬ F g := fun e => by have := h.fl g e; omega
  have hgG : ¬ G g := fun e => by have := h.gl g e; omega
  have hvl : s.zs ≠ [] → ∀ k, (Value.slice av s.zs.length cv).ownBlock = some k → ¬ F k ∧ ¬ G k := hsf
  go_region_held3 (fun x => x.cell? ⟨w.heap.size, 2, none⟩ = some (encStr s.a) ∧ x.cell? ⟨w.heap.size, 4, none⟩ = some (.slice av s.zs.length cv)) (first | exact ⟨d2, d4⟩ | assumption)
    (first
      | (go_at_call 15; refine (hT2.drew.pcall (CP _ _ hT2.drew.p (some ⟨g, 0, none⟩) cap (by exact hbw2))).mono ?_; rintro e w3 ⟨rfl, F1, hT3, hx3, hg3⟩; have ht3 := And.intro (cell_grows hg3 (by exact d2) hnF) (cell_grows hg3 (by exact d4) hnF); have hbs3 : Bs w3 (.slice av s.zs.length cv) s.zs := Bs.grows (by exact hbs2) hg3 (fun hne k hk => (hvl hne k hk).1); have ho3 := Ow.grows (by exact ho2) hg3 (fun k hk => (by have e : k = g := (by simpa [Value.ownBlock] using hk.symm); rw [e]; exact hgF)))
      | (go_at_call 35; refine (hT3.qcall (CQ _ _ hT3.q hbs3 (fun hne k hk => (hvl hne k hk).2))).mono ?_; rintro e w4 ⟨rfl, G1, hT4, hx4, hg4⟩; have ht4 := And.intro (cell_grows hg4 ht3.1 hnG) (cell_grows hg4 ht3.2 hnG); have hbs4 : Bs w4 (.slice av s.zs.length cv) s.zs := Bs.grows hbs3 hg4 (fun hne k hk => (hvl hne k hk).2); have ho4 := Ow.grows ho3 hg4 (fun k hk => (by have e : k = g := (by simpa [Value.ownBlock] using hk.symm); rw [e]; exact hgG)))
      | (go_at_call 36; refine (stands_any _ g cap _ s.zs _ ho4 hbs4 (by omega)).mono ?_; rintro e w5 ⟨rfl, hs5⟩; have ht5 := And.intro (cell_sm hs5 ht4.1) (cell_sm hs5 ht4.2)))
  have ho5 := hs5.ow ho4
  have hT5 := hT4.sm hs5
  have HF1 : Hid (¬ F1 g ∧ ¬ G1 g) := ⟨fun e => by
    rcases hx3 g e with e | e
    · exact hgF e
    · have e' : w2.heap.size ≤ g := e
      omega, fun e => by
    rcases hx4 g e with e | e
    · exact hgG e
    · have := hg3.size
      have e' : w2.heap.size ≤ w3.heap.size := this
      omega⟩
  have C6 := spoil_any _ _ (s.zs ++ [171]) _ ho5 (by have := hs5.size; have := hg4.size; have e' : w2.heap.size ≤ w3.heap.size := hg3.size; have := hB2.size; omega) (by simp; omega)
  have HB2 := hid_into (hB1.trans (hB2.mono (by simp)))
  clear hbs4 hbs3 ho4 ho3 hT3 hT4 ht3 ht4 ht5 CP CQ CR hbw2 d2 d4 ho5
  go_wp2_with (go_at_call 37; refine C6.mono ?_; rintro e w6 ⟨rfl, hg6⟩)
  have hD : Hid (DRes F G sb wb w w6) := by
    have hT6 : T2 w6 F1 G1 sb wb r.2 r.2 := hT5.keep hg6.size fun k hk => hg6.block k (by rcases hk with hk | hk; exact hT5.fl k hk; exact hT5.gl k hk) (fun e => by
      have e1 : k = g := by simpa [Value.ownBlock] using e
      rw [e1] at hk
      rcases hk with hk | hk
      · exact HF1.out.1 hk
      · exact HF1.out.2 hk)
    refine DRes.both (w1 := w2.drew) ⟨HB2.out.os, HB2.out.tape, HB2.out.output, HB2.out.size, HB2.out.block⟩ hx3 hg3 hx4 hg4 hT6 ?_
    refine (Grows.below0 (hs5.below _)).trans (Grows.grownBy (F := fun k => w.heap.size ≤ k) hg6 fun k hk => ?_) fun k hk => Or.inl hk
    have e1 : k = g := by simpa [Value.ownBlock] using hk.symm
    omega
  go_ret
  exact ⟨rfl, hD.out⟩
/-- A step, in both. -/
theorem does_any (h : T2 w F G sb wb u u) (s : Sp) (hs : s.ok w) (hsf : s.zs ≠ [] → ∀ k, s.v.ownBlock = some k → ¬ F k ∧ ¬ G k) (hz : s.zs.length ≤ 100000) :
    Calls Try.prog 17 #[.pointer (some ⟨sb, 0, none⟩), .pointer (some ⟨wb, 0, none⟩), .agg #[.int .i64 s.k, .int .i64 s.n, encStr s.a, encStr s.t, s.v, .int .u8 s.x]] w fun e w' => e = .returned (.bool true) ∧ DRes F G sb wb w w' := by
  by_cases k1 : s.k = 1
  · rw [k1]; exact does1 h s hs hsf hz
  by_cases k2 : s.k = 2
  · rw [k2]; exact does2 h s hs
  by_cases k3 : s.k = 3
  · rw [k3]; exact does3 h s hs
  by_cases k4 : s.k = 4
  · rw [k4]; exact does4 h s hs
  by_cases k5 : s.k = 5
  · rw [k5]; exact does5 h s hs
  by_cases k6 : s.k = 6
  · rw [k6]; exact does6 h s hs
  by_cases k7 : s.k = 7
  · rw [k7]; exact does7 h s hs
  exact does9 h s hs ⟨k1, k2, k3, k4, k5, k6, k7⟩
end Go.Proofs.Ythkgmnmdojmfgaa
