/-
  RollbackPlays, its own walk.
-/
import Derived.Test.YtbfldcieibdapaaGreatRbBoth
import Derived.Test.YtbfldcieibdapaaGreatStepIn
import Derived.Deep.RegionHeld3
namespace Go.Proofs.YtbfldcieibdapaaGreat
open Go.RowKit
/-- Both sessions and a step of the script that lies behind them. -/
structure Bx (w W : World) (lo hi : Nat) (X : Sx) (lo2 hi2 : Nat) (Y : Yx) (G : Gm) (s t : Sa) (xb : Nat) (p f x : Int) : Prop where
  t : Bt w W lo hi X lo2 hi2 Y G s t
  c : Cw W xb [.int .i64 p, .int .i64 f, .int .u16 x] 38
  z : hi2 ≤ xb
section
variable {w W W' : World} {lo hi lo2 hi2 xb : Nat} {X : Sx} {Y : Yx} {G : Gm} {s t u v : Sa} {p f x : Int}
theorem Bx.grow (h : Bx w W lo hi X lo2 hi2 Y G s t xb p f x) (hs : Bt w W' lo hi X lo2 hi2 Y G u v) {F : Nat → Prop} (hg : Grows F W W') (hF : ∀ k, F k → k < hi2) : Bx w W' lo hi X lo2 hi2 Y G u v xb p f x :=
  ⟨hs, h.c.keep (hg.block xb h.c.lt (fun hf => by have := hF xb hf; have := h.z; omega)), h.z⟩
theorem Bx.cells (h : Bx w W lo hi X lo2 hi2 Y G s t xb p f x) : W.cell? ⟨xb, 0, none⟩ = some (.int .i64 p) ∧ W.cell? ⟨xb, 1, none⟩ = some (.int .i64 f) ∧ W.cell? ⟨xb, 2, none⟩ = some (.int .u16 x) := ⟨h.c.cell 0, h.c.cell 1, h.c.cell 2⟩
theorem Bx.sm (h : Bx w W lo hi X lo2 hi2 Y G s t xb p f x) (hb : Sm W W') : Bx w W' lo hi X lo2 hi2 Y G s t xb p f x := ⟨h.t.sm hb, hb.cw h.c, h.z⟩
theorem Bx.f1 (h : Bx w W lo hi X lo2 hi2 Y G s t xb p f x) : ∀ k, In2 lo hi k → k < hi2 := fun k hk => by have := hk.2; have := h.t.ord; have := h.t.lohi; omega
theorem Bx.Local (h : Bx w W lo hi X lo2 hi2 Y G s t xb p f x) (hst : 0 ≤ s.st ∧ s.st < 4611686018427300000) {y : Int} (hx : 0 ≤ y ∧ y < 65536) : Calls Tryz.prog 13 #[.pointer (some ⟨X.sb, 0, none⟩), .int .u16 y] W fun e w' => e = .returned (.tuple #[.int .i64 (locA s G).1, .int .i64 (locA s G).2]) ∧ Bx w w' lo hi X lo2 hi2 Y G (locS s G y) t xb p f x := (h.t.Local hst hx).mono (by rintro e w' ⟨rfl, h1, h2⟩; exact ⟨rfl, h.grow h1 h2 h.f1⟩)
theorem Bx.rLocal (h : Bx w W lo hi X lo2 hi2 Y G s t xb p f x) (hst : 0 ≤ t.st ∧ t.st < 4611686018427300000) {y : Int} (hx : 0 ≤ y ∧ y < 65536) : Calls Tryz.prog 14 #[.pointer (some ⟨Y.sb, 0, none⟩), .int .u16 y] W fun e w' => e = .returned (.tuple #[.int .i64 (locA t G).1, .int .i64 (locA t G).2]) ∧ Bx w w' lo hi X lo2 hi2 Y G s (locS t G y) xb p f x := (h.t.rLocal hst hx).mono (by rintro e w' ⟨rfl, h1, h2⟩; exact ⟨rfl, h.grow h1 h2 (fun k hk => hk.2)⟩)
theorem Bx.Remote (h : Bx w W lo hi X lo2 hi2 Y G s t xb p f x) (hst : 0 ≤ s.st ∧ s.st < 4611686018427300000) (hwr : 0 ≤ s.wr ∧ s.wr < 4611686018427300000) {q y : Int} (hq : -9223372036854775808 ≤ q ∧ q ≤ 9223372036854775807) (hx : 0 ≤ y ∧ y < 65536) : Calls Tryz.prog 15 #[.pointer (some ⟨X.sb, 0, none⟩), .int .i64 q, .int .u16 y] W fun e w' => e = .returned (.int .i64 (remA s G q y)) ∧ Bx w w' lo hi X lo2 hi2 Y G (remS s G q y) t xb p f x := (h.t.Remote hst hwr hq hx).mono (by rintro e w' ⟨rfl, h1, h2⟩; exact ⟨rfl, h.grow h1 h2 h.f1⟩)
theorem Bx.rRemote (h : Bx w W lo hi X lo2 hi2 Y G s t xb p f x) (hst : 0 ≤ t.st ∧ t.st < 4611686018427300000) (hwr : 0 ≤ t.wr ∧ t.wr < 4611686018427300000) {q y : Int} (hq : -9223372036854775808 ≤ q ∧ q ≤ 9223372036854775807) (hx : 0 ≤ y ∧ y < 65536) : Calls Tryz.prog 16 #[.pointer (some ⟨Y.sb, 0, none⟩), .int .i64 q, .int .u16 y] W fun e w' => e = .returned (.int .i64 (remA t G q y)) ∧ Bx w w' lo hi X lo2 hi2 Y G s (remS t G q y) xb p f x := (h.t.rRemote hst hwr hq hx).mono (by rintro e w' ⟨rfl, h1, h2⟩; exact ⟨rfl, h.grow h1 h2 (fun k hk => hk.2)⟩)
end
set_option maxRecDepth 20000 in
set_option maxHeartbeats 4000000 in
theorem plays_bad (cv : Value) (l : List Ii) (cap fuel seed me : Int) (ao : Option Addr) (n c : Nat) (w : World) (hl : Ls w cv l) (hbad : slw l.length fuel = true ∨ chkG l cap fuel ≠ 0 ∨ ¬ (me = 0 ∨ me = 1)) :
    Calls Tryz.prog 3 #[gameV cv cap fuel, .int .u32 seed, .int .i64 me, .slice ao n c] w fun e w' => e = .returned (.bool true) ∧ Below w.heap.size w w' := by
  obtain ⟨ac, cp, rfl, hm⟩ := hl.len
  have C9 := hid_into (slow_any ac l.length cp cap fuel (w.alloc (.cells #[.slice ac l.length cp, .int .i64 cap, .int .i64 fuel] 24)))
  have b0 : Below w.heap.size w (w.alloc (.cells #[.slice ac l.length cp, .int .i64 cap, .int .i64 fuel] 24)) := (Below.refl _ _).alloc (Nat.le_refl _) _
  have hl1 : Ls (w.alloc (.cells #[.slice ac l.length cp, .int .i64 cap, .int .i64 fuel] 24)) (.slice ac l.length cp) l := hl.below b0
  have HK1 : Hid (Cw (w.alloc (.cells #[.slice ac l.length cp, .int .i64 cap, .int .i64 fuel] 24)) w.heap.size [.slice ac l.length cp, .int .i64 cap, .int .i64 fuel] 24) := Cw.new w [.slice ac l.length cp, .int .i64 cap, .int .i64 fuel] 24
  have H24 : Hid ((Tryz.prog.info? 24).map (·.size) = some 3) := size24
  have HB0 := hid_into b0
  have hsz := World.size_alloc w (.cells #[.slice ac l.length cp, .int .i64 cap, .int .i64 fuel] 24)
  have hgrow : Hid (∀ W, Below (w.alloc (.cells #[.slice ac l.length cp, .int .i64 cap, .int .i64 fuel] 24)).heap.size (w.alloc (.cells #[.slice ac l.length cp, .int .i64 cap, .int .i64 fuel] 24)) W → Below w.heap.size w W) := fun W hW => b0.trans (hW.mono (by rw [hsz]; omega))
  cases hs : slw l.length fuel with
  | true =>
    rw [hs] at C9
    clear hl hl1 hm hbad b0 hsz
    unfold gameV
    go_enter Tryz.func3, Tryz.ntmps3
    go_wp2_with (first
      | (refine wpList_load_rw rfl 24 (.tmp 4) rfl w.heap.size [.slice ac l.length cp, .int .i64 cap, .int .i64 fuel] 24 _ rfl ?_ Tryz.underlying24 rfl H24 ?_; exact HK1.out)
      | (go_at_call 9; refine C9.out.mono ?_; rintro e w2 ⟨rfl, B2⟩))
    go_ret
    exact ⟨rfl, hgrow.out _ B2⟩
  | false =>
    rw [hs] at C9
    obtain ⟨er, her, C10, C11⟩ : ∃ er : Int, er ≠ 0 ∧ Hid (∀ W, Below (w.alloc (.cells #[.slice ac l.length cp, .int .i64 cap, .int .i64 fuel] 24)).heap.size (w.alloc (.cells #[.slice ac l.length cp, .int .i64 cap, .int .i64 fuel] 24)) W → Calls Tryz.prog 10 #[.agg #[.slice ac l.length cp, .int .i64 cap, .int .i64 fuel], .int .u32 seed, .int .i64 me] W fun e w' => e = .returned (.tuple #[.pointer none, .int .i64 er]) ∧ Below W.heap.size W w') ∧ Hid (∀ W, Below (w.alloc (.cells #[.slice ac l.length cp, .int .i64 cap, .int .i64 fuel] 24)).heap.size (w.alloc (.cells #[.slice ac l.length cp, .int .i64 cap, .int .i64 fuel] 24)) W → Calls Tryz.prog 11 #[.agg #[.slice ac l.length cp, .int .i64 cap, .int .i64 fuel], .int .u32 seed, .int .i64 me] W fun e w' => e = .returned (.tuple #[.pointer none, .int .i64 er]) ∧ Below W.heap.size W w') := by
      by_cases hc : chkG l cap fuel = 0
      · have hme : ¬ (me = 0 ∨ me = 1) := by
          rcases hbad with h | h | h
          · rw [hs] at h; cases h
          · exact absurd hc h
          · exact h
        exact ⟨1, by decide, fun W hW => New_me W _ l cap fuel seed me (hl1.below hW) hc (fun h => hme (Or.inl h)) (fun h => hme (Or.inr h)), fun W hW => rNew_me W _ l cap fuel seed me (hl1.below hW) hc (by omega)⟩
      · exact ⟨chkG l cap fuel, hc, fun W hW => New_no W _ l cap fuel seed me (hl1.below hW) hc, fun W hW => rNew_no W _ l cap fuel seed me (hl1.below hW) hc⟩
    have her' : (er != 0) = true := by simp [her]
    have CK := hid_into known_any
    clear hl hl1 hm hbad b0 hsz hs her
    unfold gameV
    go_enter Tryz.func3, Tryz.ntmps3
    go_wp2_with (first
      | (refine wpList_load_rw rfl 24 (.tmp 4) rfl w.heap.size [.slice ac l.length cp, .int .i64 cap, .int .i64 fuel] 24 _ rfl ?_ Tryz.underlying24 rfl H24 ?_; exact HK3.out)
      | (refine wpList_load_rw rfl 24 (.tmp 4) rfl w.heap.size [.slice ac l.length cp, .int .i64 cap, .int .i64 fuel] 24 _ rfl ?_ Tryz.underlying24 rfl H24 ?_; exact HK2.out)
      | (refine wpList_load_rw rfl 24 (.tmp 4) rfl w.heap.size [.slice ac l.length cp, .int .i64 cap, .int .i64 fuel] 24 _ rfl ?_ Tryz.underlying24 rfl H24 ?_; exact HK1.out)
      | (go_at_call 9; refine C9.out.mono ?_; rintro e w2 ⟨rfl, B2⟩; have HB2 := hid_into B2; have HK2 := hid_into (HK1.out.below B2 HK1.out.lt); clear B2)
      | (go_at_call 10; refine (C10.out _ HB2.out).mono ?_; rintro e w3 ⟨rfl, B3⟩; have HB3 := hid_into (HB2.out.trans (B3.mono HB2.out.size)); have HK3 := hid_into (HK2.out.below B3 HK2.out.lt); clear B3)
      | (go_at_call 11; refine (C11.out _ HB3.out).mono ?_; rintro e w4 ⟨rfl, B4⟩; have HB4 := hid_into (HB3.out.trans (B4.mono HB3.out.size)); clear B4)
      | (go_at_call 12; refine (CK.out _).mono ?_; rintro e w5 ⟨rfl, B5⟩))
    go_ret
    exact ⟨rfl, hgrow.out _ (HB4.out.trans (B5.mono HB4.out.size))⟩
set_option maxRecDepth 20000 in
set_option maxHeartbeats 8000000 in
theorem plays_walk (cv : Value) (l : List Ii) (cap fuel seed me : Int) (ao : Option Addr) (n c : Nat) (ls : List St.To) (w : World) (hl : Ls w cv l) (hseed : 0 ≤ seed ∧ seed < 4294967296) (r : Ax.Rw w 3 St.To.cells ao n c ls) (hgood : ∀ t ∈ ls, St.To.Good t) :
    Calls Tryz.prog 3 #[gameV cv cap fuel, .int .u32 seed, .int .i64 me, .slice ao n c] w fun e w' => e = .returned (.bool true) ∧ Below w.heap.size w w' := by
  by_cases hs : slw l.length fuel = true
  · exact plays_bad cv l cap fuel seed me ao n c w hl (Or.inl hs)
  by_cases hc : chkG l cap fuel = 0
  case neg => exact plays_bad cv l cap fuel seed me ao n c w hl (Or.inr (Or.inl hc))
  by_cases hme : me = 0 ∨ me = 1
  case neg => exact plays_bad cv l cap fuel seed me ao n c w hl (Or.inr (Or.inr hme))
  obtain ⟨ac, cp, rfl, hm⟩ := hl.len
  have C9 := hid_into (slow_any ac l.length cp cap fuel (w.alloc (.cells #[.slice ac l.length cp, .int .i64 cap, .int .i64 fuel] 24)))
  rw [show slw l.length fuel = false by simpa using hs] at C9
  have b0 : Below w.heap.size w (w.alloc (.cells #[.slice ac l.length cp, .int .i64 cap, .int .i64 fuel] 24)) := (Below.refl _ _).alloc (Nat.le_refl _) _
  have hl1 : Ls (w.alloc (.cells #[.slice ac l.length cp, .int .i64 cap, .int .i64 fuel] 24)) (.slice ac l.length cp) l := hl.below b0
  have HK1 : Hid (Cw (w.alloc (.cells #[.slice ac l.length cp, .int .i64 cap, .int .i64 fuel] 24)) w.heap.size [.slice ac l.length cp, .int .i64 cap, .int .i64 fuel] 24) := Cw.new w [.slice ac l.length cp, .int .i64 cap, .int .i64 fuel] 24
  have H24 : Hid ((Tryz.prog.info? 24).map (·.size) = some 3) := size24
  have hsz := World.size_alloc w (.cells #[.slice ac l.length cp, .int .i64 cap, .int .i64 fuel] 24)
  obtain ⟨w1, hw1⟩ : ∃ w1, w1 = (w.alloc (.cells #[.slice ac l.length cp, .int .i64 cap, .int .i64 fuel] 24)) := ⟨_, rfl⟩
  rw [← hw1] at C9 b0 hl1 HK1 hsz
  have hgrow : Hid (∀ W, Below w1.heap.size w1 W → Below w.heap.size w W) := fun W hW => b0.trans (hW.mono (by rw [hsz]; omega))
  obtain ⟨G, hG⟩ : ∃ G : Gm, G = ⟨l, cap, fuel, seed⟩ := ⟨_, rfl⟩
  have hok : G.Ok := by rw [hG]; exact ⟨hc, hseed⟩
  have e1 : G.l = l := by rw [hG]
  have e2 : G.cap = cap := by rw [hG]
  have e3 : G.fuel = fuel := by rw [hG]
  have e4 : G.seed = seed := by rw [hG]
  have C10 : Hid (∀ W, Below w1.heap.size w1 W → Calls Tryz.prog 10 #[.agg #[.slice ac l.length cp, .int .i64 cap, .int .i64 fuel], .int .u32 seed, .int .i64 me] W fun e w' => ∃ X, e = .returned (.tuple #[.pointer (some ⟨X.sb, 0, none⟩), .int .i64 0]) ∧ Se w' W.heap.size w'.heap.size X G (newS me G.cap) ∧ Below W.heap.size W w') := fun W hW => by
    have := New_any W (.slice ac l.length cp) G me (by rw [e1]; exact hl1.below hW) hok hme
    rw [e2, e3, e4] at this
    rw [e2]
    exact this
  have C11 : Hid (∀ W V X, Below w1.heap.size w1 W → Se V W.heap.size V.heap.size X G (newS me G.cap) → Below W.heap.size W V → Calls Tryz.prog 11 #[.agg #[.slice ac l.length cp, .int .i64 cap, .int .i64 fuel], .int .u32 seed, .int .i64 me] V fun e w' => ∃ Y, e = .returned (.tuple #[.pointer (some ⟨Y.sb, 0, none⟩), .int .i64 0]) ∧ Bt w1 w' W.heap.size V.heap.size X V.heap.size w'.heap.size Y G (newS me G.cap) (newS me G.cap)) := fun W V X hW hS hV => by
    have := rNew_any V (.slice ac l.length cp) G me (by rw [e1]; exact hl1.below (hW.trans (hV.mono hW.size))) hok hme
    rw [e2, e3, e4] at this
    rw [e2] at hS ⊢
    refine this.mono ?_
    rintro e w' ⟨Y, rfl, h1, h2, h3⟩
    refine ⟨Y, rfl, hS.below h3, h1, (hW.trans (hV.mono hW.size)).trans (h3.mono (by have := hW.size; have := hV.size; omega)), hW.size, Nat.le_refl _, fun hn k hk => ?_⟩
    rw [h2] at hk
    exact hl1.lt (by rw [← e1]; exact hn) k hk
  have CK := hid_into known_any
  have HR := hid_into (⟨r, b0, hgood⟩ : Ax.Rw w 3 St.To.cells ao n c ls ∧ Below w.heap.size w w1 ∧ ∀ t ∈ ls, St.To.Good t)
  have hnm : (n : Int) ≤ 9223372036854775807 := by have := r.le; have := r.mx; unfold maxLen at this; omega
  have W0 := hid_into (Wk.new me G.cap)
  have HG := hid_into hok
  generalize newS me G.cap = s0 at *
  clear hl hl1 hm b0 hsz hs hc hme e1 e2 e3 e4 hG hseed r hgood hok
  unfold gameV
  go_enter Tryz.func3, Tryz.ntmps3
  go_upto_region 1 with fail
  rw [← hw1]
  clear hw1
  go_wp2_with (first
    | (refine wpList_load_rw rfl 24 (.tmp 4) rfl w.heap.size [.slice ac l.length cp, .int .i64 cap, .int .i64 fuel] 24 _ rfl ?_ Tryz.underlying24 rfl H24 ?_; exact HK3.out)
    | (refine wpList_load_rw rfl 24 (.tmp 4) rfl w.heap.size [.slice ac l.length cp, .int .i64 cap, .int .i64 fuel] 24 _ rfl ?_ Tryz.underlying24 rfl H24 ?_; exact HK2.out)
    | (refine wpList_load_rw rfl 24 (.tmp 4) rfl w.heap.size [.slice ac l.length cp, .int .i64 cap, .int .i64 fuel] 24 _ rfl ?_ Tryz.underlying24 rfl H24 ?_; exact HK1.out)
    | (go_at_call 9; refine C9.out.mono ?_; rintro e w2 ⟨rfl, B2⟩; have HB2 := hid_into B2; have HK2 := hid_into (HK1.out.below B2 HK1.out.lt); clear B2)
    | (go_at_call 10; refine (C10.out _ HB2.out).mono ?_; rintro e w3 ⟨X, rfl, S3, B3⟩; have HS3 := hid_into S3; have HB3 := hid_into B3; have HK3 := hid_into (HK2.out.below B3 HK2.out.lt); clear B3 S3)
    | (go_at_call 11; refine (C11.out _ _ _ HB2.out HS3.out HB3.out).mono ?_; rintro e w4 ⟨Y, rfl, h4⟩; have HT := hid_into h4; clear h4))
  generalize w2.heap.size = lo at *
  generalize w3.heap.size = hi at *
  generalize hhi2 : w4.heap.size = hi2 at *
  clear hhi2 C10 C11 C9 HB2 HB3 HS3 HK1 HK2 HK3
  go_loopw [13] (fun x wr => ∃ (k : Nat) (s : Sa), k ≤ 120 ∧ x = .int .i64 (k : Int) ∧ Hid (Bt w1 wr lo hi X hi hi2 Y G s s) ∧ Hid (Wk s k)) (fun x _ => 120 - (intOf x).toNat)
  case atStart => exact ⟨0, s0, Nat.zero_le _, rfl, HT, W0⟩
  case round =>
    clear HT W0
    obtain ⟨k, s, hk, rfl, HT, HW⟩ := hrel
    by_cases hlt : k < n ∧ k < 120
    · obtain ⟨hk1, hk3⟩ := hlt
      have hk1' : (k : Int) < (n : Int) := by omega
      have hk3' : (k : Int) < 120 := by omega
      obtain ⟨t, ht⟩ : ∃ t, ls[k]? = some t := ⟨_, List.getElem?_eq_getElem (by rw [HR.out.1.len]; exact hk1)⟩
      obtain ⟨g, off, rfl, ct⟩ := (HR.out.1.below (hgrow.out _ HT.out.b) (Nat.le_refl _)).at' k t ht
      have d0 := ct 0 _ rfl
      have d1 := ct 1 _ rfl
      have d2 := ct 2 _ rfl
      simp only [Nat.add_zero] at d0
      obtain ⟨_, tf, tx⟩ := HR.out.2.2 t (List.mem_of_getElem? ht)
      clear ct ht
      obtain ⟨p, f, x⟩ := t
      simp only at d0 d1 d2 tf tx
      have HTF := hid_into tf
      have HTX := hid_into tx
      clear tf tx
      have HT1 : Hid (Bx w1 (wr.alloc (.cells #[.int .i64 p, .int .i64 f, .int .u16 x] 38)) lo hi X hi hi2 Y G s s wr.heap.size p f x) := ⟨HT.out.next ((Below.refl _ _).alloc (Nat.le_refl _) _), Cw.new wr [.int .i64 p, .int .i64 f, .int .u16 x] 38, HT.out.rx.z⟩
      by_cases hp : p = 1
      · have HW2 := hid_into (HW.out.loc G x)
        have hst := (HW.out.st (by omega)).1
        have C13 := hid_into (HT1.out.Local hst HTX.out)
        have C14 : Hid (∀ W, Bx w1 W lo hi X hi hi2 Y G (locS s G x) s wr.heap.size p f x → Calls Tryz.prog 14 #[.pointer (some ⟨Y.sb, 0, none⟩), .int .u16 x] W fun e w' => e = .returned (.tuple #[.int .i64 (locA s G).1, .int .i64 (locA s G).2]) ∧ Bx w1 w' lo hi X hi hi2 Y G (locS s G x) (locS s G x) wr.heap.size p f x) := fun W hW => hW.rLocal hst HTX.out
        subst hp
        generalize locA s G = A at *
        obtain ⟨A1, A2⟩ := A
        simp only at C13 C14
        generalize locS s G x = s' at *
        clear hst
        go_wp2_with (first
          | (go_at_call 13; refine C13.out.mono ?_; rintro e w5 ⟨rfl, h5⟩; have HT5 := hid_into h5; obtain ⟨t0, t1, t2⟩ := h5.cells; clear h5 HT1 C13)
          | (go_at_call 14; refine (C14.out _ HT5.out).mono ?_; rintro e w6 ⟨rfl, h6⟩; have HT2 := hid_into h6; clear h6 HT5 C14))
        have HE1 : Hid (∀ W : World, (Op.equalIn 10000 48 (.agg (stV (s'.now G)).toArray) (.agg (stV (s'.now G)).toArray)).run Tryz.prog W = .ok true W) := fun W => by have := run_eqS _ _ HT2.out.t.se.nowGs.wf HT2.out.t.se.nowGs.wf W; rw [eqS_same] at this; exact this
        have HE2 : Hid (∀ W : World, (Op.equalIn 10000 48 (.agg (stV (s'.sure G)).toArray) (.agg (stV (s'.sure G)).toArray)).run Tryz.prog W = .ok true W) := fun W => by have := run_eqS _ _ HT2.out.t.se.sureGs.wf HT2.out.t.se.sureGs.wf W; rw [eqS_same] at this; exact this
        have C17 : Hid (∀ W, Bt w1 W lo hi X hi hi2 Y G s' s' → Calls Tryz.prog 17 #[.pointer (some ⟨X.sb, 0, none⟩)] W fun e w' => e = .returned (.tuple #[.int .i64 s'.st, .int .i64 s'.wr]) ∧ Bt w1 w' lo hi X hi hi2 Y G s' s') := fun W h => h.Work
        have C18 : Hid (∀ W, Bt w1 W lo hi X hi hi2 Y G s' s' → Calls Tryz.prog 18 #[.pointer (some ⟨X.sb, 0, none⟩)] W fun e w' => e = .returned (.agg (stV (s'.now G)).toArray) ∧ Bt w1 w' lo hi X hi hi2 Y G s' s') := fun W h => h.Now
        have C19 : Hid (∀ W, Bt w1 W lo hi X hi hi2 Y G s' s' → Calls Tryz.prog 19 #[.pointer (some ⟨Y.sb, 0, none⟩)] W fun e w' => e = .returned (.agg (stV (s'.now G)).toArray) ∧ Bt w1 w' lo hi X hi hi2 Y G s' s') := fun W h => h.rNow
        have C20 : Hid (∀ W, Bt w1 W lo hi X hi hi2 Y G s' s' → Calls Tryz.prog 20 #[.pointer (some ⟨X.sb, 0, none⟩)] W fun e w' => e = .returned (.agg (stV (s'.sure G)).toArray) ∧ Bt w1 w' lo hi X hi hi2 Y G s' s') := fun W h => h.Sure
        have C21 : Hid (∀ W, Bt w1 W lo hi X hi hi2 Y G s' s' → Calls Tryz.prog 21 #[.pointer (some ⟨Y.sb, 0, none⟩)] W fun e w' => e = .returned (.agg (stV (s'.sure G)).toArray) ∧ Bt w1 w' lo hi X hi hi2 Y G s' s' ∧ w'.cell? ⟨Y.sb, 7, none⟩ = some (.int .i64 s'.st) ∧ w'.cell? ⟨Y.sb, 8, none⟩ = some (.int .i64 s'.wr)) := fun W h => h.rSure.mono (by rintro e w' ⟨rfl, h⟩; exact ⟨rfl, h, h.rx.cl.c7, h.rx.cl.c8⟩)
        have C22 : Hid (∀ W, Bt w1 W lo hi X hi hi2 Y G s' s' → Calls Tryz.prog 22 #[.pointer (some ⟨X.sb, 0, none⟩)] W fun e w' => e = .returned (.int .i64 (In.kn s'.h : Int)) ∧ Bt w1 w' lo hi X hi hi2 Y G s' s') := fun W h => h.Needs
        have C23 : Hid (∀ W, Bt w1 W lo hi X hi hi2 Y G s' s' → Calls Tryz.prog 23 #[.pointer (some ⟨Y.sb, 0, none⟩)] W fun e w' => e = .returned (.int .i64 (In.kn s'.h : Int)) ∧ Bt w1 w' lo hi X hi hi2 Y G s' s') := fun W h => h.rNeeds
        generalize stV (s'.now G) = ns at *
        generalize stV (s'.sure G) = ss at *
        generalize s'.st = q1 at *
        generalize s'.wr = q2 at *
        generalize (In.kn s'.h : Int) = q3 at *
        go_wp2_with (first
          | (go_at_call 17; refine (C17.out _ HT2.out.t).mono ?_; rintro e wa ⟨rfl, h⟩; have HTa := hid_into h; clear h HT2)
          | (go_at_call 18; refine (C18.out _ HTa.out).mono ?_; rintro e wb ⟨rfl, h⟩; have HTb := hid_into h; clear h HTa)
          | (go_at_call 19; refine (C19.out _ HTb.out).mono ?_; rintro e wc ⟨rfl, h⟩; have HTc := hid_into h; clear h HTb)
          | (refine wpList_neq28 (by kernel_rfl) (.tmp 108) (.tmp 110) rfl ns ns true HE1 rfl rfl ?_)
          | (go_at_call 20; refine (C20.out _ HTc.out).mono ?_; rintro e wd ⟨rfl, h⟩; have HTd := hid_into h; clear h HTc)
          | (go_at_call 21; refine (C21.out _ HTd.out).mono ?_; rintro e we ⟨rfl, h, z7, z8⟩; have HTe := hid_into h; clear h HTd)
          | (refine wpList_neq28 (by kernel_rfl) (.tmp 114) (.tmp 116) rfl ss ss true HE2 rfl rfl ?_)
          | (go_at_call 22; refine (C22.out _ HTe.out).mono ?_; rintro e wf ⟨rfl, h⟩; have HTf := hid_into h; clear h HTe)
          | (go_at_call 23; refine (C23.out _ HTf.out).mono ?_; rintro e wg ⟨rfl, h⟩; have HTg := hid_into h; clear h HTf))
        go_roundw
        case rel => exact ⟨k + 1, s', by omega, by go_num, HTg, HW2⟩
        case measure => simp [intOf]; omega
      · have HW2 := hid_into (HW.out.rem HG.out HT.out.se.ok f HTX.out)
        have hst := HW.out.st (by omega)
        have hp' : (p == 1) = false := by simp [hp]
        have C15 : Hid (∀ W, Bx w1 W lo hi X hi hi2 Y G s s wr.heap.size p f x → Calls Tryz.prog 15 #[.pointer (some ⟨X.sb, 0, none⟩), .int .i64 f, .int .u16 x] W fun e w' => e = .returned (.int .i64 (remA s G f x)) ∧ Bx w1 w' lo hi X hi hi2 Y G (remS s G f x) s wr.heap.size p f x) := fun W hW => hW.Remote hst.1 hst.2 HTF.out HTX.out
        have C16 : Hid (∀ W, Bx w1 W lo hi X hi hi2 Y G (remS s G f x) s wr.heap.size p f x → Calls Tryz.prog 16 #[.pointer (some ⟨Y.sb, 0, none⟩), .int .i64 f, .int .u16 x] W fun e w' => e = .returned (.int .i64 (remA s G f x)) ∧ Bx w1 w' lo hi X hi hi2 Y G (remS s G f x) (remS s G f x) wr.heap.size p f x) := fun W hW => hW.rRemote hst.1 hst.2 HTF.out HTX.out
        generalize remA s G f x = A at *
        generalize remS s G f x = s' at *
        clear hst
        go_wp2_with fail
        generalize wr.alloc (.cells #[.int .i64 p, .int .i64 f, .int .u16 x] 38) = W1 at *
        generalize hxb : wr.heap.size = xb at *
        clear hxb HT d0 d1 d2
        have t0 := hid_into HT1.out.cells
        go_region_held3 (fun u => u.cell? ⟨xb, 0, none⟩ = some (.int .i64 p) ∧ u.cell? ⟨xb, 1, none⟩ = some (.int .i64 f) ∧ u.cell? ⟨xb, 2, none⟩ = some (.int .u16 x)) (first | exact t0.out | exact t2.out | exact t3.out)
          (first
            | (go_at_call 15; refine (C15.out W1.drew (HT1.out.sm ⟨rfl, rfl, rfl, rfl⟩)).mono ?_; rintro e w5 ⟨rfl, h5⟩; have HT5 := hid_into h5; have t2 := hid_into h5.cells; clear h5)
            | (go_at_call 16; refine (C16.out _ HT5.out).mono ?_; rintro e w6 ⟨rfl, h6⟩; have HT2 := hid_into h6; have t3 := hid_into h6.cells; clear h6))
        clear t0 t2 t3 HT1 HT5 C15 C16
        have HE1 : Hid (∀ W : World, (Op.equalIn 10000 48 (.agg (stV (s'.now G)).toArray) (.agg (stV (s'.now G)).toArray)).run Tryz.prog W = .ok true W) := fun W => by have := run_eqS _ _ HT2.out.t.se.nowGs.wf HT2.out.t.se.nowGs.wf W; rw [eqS_same] at this; exact this
        have HE2 : Hid (∀ W : World, (Op.equalIn 10000 48 (.agg (stV (s'.sure G)).toArray) (.agg (stV (s'.sure G)).toArray)).run Tryz.prog W = .ok true W) := fun W => by have := run_eqS _ _ HT2.out.t.se.sureGs.wf HT2.out.t.se.sureGs.wf W; rw [eqS_same] at this; exact this
        have C17 : Hid (∀ W, Bt w1 W lo hi X hi hi2 Y G s' s' → Calls Tryz.prog 17 #[.pointer (some ⟨X.sb, 0, none⟩)] W fun e w' => e = .returned (.tuple #[.int .i64 s'.st, .int .i64 s'.wr]) ∧ Bt w1 w' lo hi X hi hi2 Y G s' s') := fun W h => h.Work
        have C18 : Hid (∀ W, Bt w1 W lo hi X hi hi2 Y G s' s' → Calls Tryz.prog 18 #[.pointer (some ⟨X.sb, 0, none⟩)] W fun e w' => e = .returned (.agg (stV (s'.now G)).toArray) ∧ Bt w1 w' lo hi X hi hi2 Y G s' s') := fun W h => h.Now
        have C19 : Hid (∀ W, Bt w1 W lo hi X hi hi2 Y G s' s' → Calls Tryz.prog 19 #[.pointer (some ⟨Y.sb, 0, none⟩)] W fun e w' => e = .returned (.agg (stV (s'.now G)).toArray) ∧ Bt w1 w' lo hi X hi hi2 Y G s' s') := fun W h => h.rNow
        have C20 : Hid (∀ W, Bt w1 W lo hi X hi hi2 Y G s' s' → Calls Tryz.prog 20 #[.pointer (some ⟨X.sb, 0, none⟩)] W fun e w' => e = .returned (.agg (stV (s'.sure G)).toArray) ∧ Bt w1 w' lo hi X hi hi2 Y G s' s') := fun W h => h.Sure
        have C21 : Hid (∀ W, Bt w1 W lo hi X hi hi2 Y G s' s' → Calls Tryz.prog 21 #[.pointer (some ⟨Y.sb, 0, none⟩)] W fun e w' => e = .returned (.agg (stV (s'.sure G)).toArray) ∧ Bt w1 w' lo hi X hi hi2 Y G s' s' ∧ w'.cell? ⟨Y.sb, 7, none⟩ = some (.int .i64 s'.st) ∧ w'.cell? ⟨Y.sb, 8, none⟩ = some (.int .i64 s'.wr)) := fun W h => h.rSure.mono (by rintro e w' ⟨rfl, h⟩; exact ⟨rfl, h, h.rx.cl.c7, h.rx.cl.c8⟩)
        have C22 : Hid (∀ W, Bt w1 W lo hi X hi hi2 Y G s' s' → Calls Tryz.prog 22 #[.pointer (some ⟨X.sb, 0, none⟩)] W fun e w' => e = .returned (.int .i64 (In.kn s'.h : Int)) ∧ Bt w1 w' lo hi X hi hi2 Y G s' s') := fun W h => h.Needs
        have C23 : Hid (∀ W, Bt w1 W lo hi X hi hi2 Y G s' s' → Calls Tryz.prog 23 #[.pointer (some ⟨Y.sb, 0, none⟩)] W fun e w' => e = .returned (.int .i64 (In.kn s'.h : Int)) ∧ Bt w1 w' lo hi X hi hi2 Y G s' s') := fun W h => h.rNeeds
        generalize stV (s'.now G) = ns at *
        generalize stV (s'.sure G) = ss at *
        generalize s'.st = q1 at *
        generalize s'.wr = q2 at *
        generalize (In.kn s'.h : Int) = q3 at *
        go_wp2_with (first
          | (go_at_call 17; refine (C17.out _ HT2.out.t).mono ?_; rintro e wa ⟨rfl, h⟩; have HTa := hid_into h; clear h HT2)
          | (go_at_call 18; refine (C18.out _ HTa.out).mono ?_; rintro e wb ⟨rfl, h⟩; have HTb := hid_into h; clear h HTa)
          | (go_at_call 19; refine (C19.out _ HTb.out).mono ?_; rintro e wc ⟨rfl, h⟩; have HTc := hid_into h; clear h HTb)
          | (refine wpList_neq28 (by kernel_rfl) (.tmp 108) (.tmp 110) rfl ns ns true HE1 rfl rfl ?_)
          | (go_at_call 20; refine (C20.out _ HTc.out).mono ?_; rintro e wd ⟨rfl, h⟩; have HTd := hid_into h; clear h HTc)
          | (go_at_call 21; refine (C21.out _ HTd.out).mono ?_; rintro e we ⟨rfl, h, z7, z8⟩; have HTe := hid_into h; clear h HTd)
          | (refine wpList_neq28 (by kernel_rfl) (.tmp 114) (.tmp 116) rfl ss ss true HE2 rfl rfl ?_)
          | (go_at_call 22; refine (C22.out _ HTe.out).mono ?_; rintro e wf ⟨rfl, h⟩; have HTf := hid_into h; clear h HTe)
          | (go_at_call 23; refine (C23.out _ HTf.out).mono ?_; rintro e wg ⟨rfl, h⟩; have HTg := hid_into h; clear h HTf))
        go_roundw
        case rel => exact ⟨k + 1, s', by omega, by go_num, HTg, HW2⟩
        case measure => simp [intOf]; omega
    · by_cases hk1 : (k : Int) < (n : Int)
      · have hk3 : ¬ (k : Int) < 120 := by omega
        clear hlt
        go_wp2_with (go_at_call 12; refine (CK.out _).mono ?_; rintro e w5 ⟨rfl, B5⟩)
        go_ret
        exact ⟨rfl, hgrow.out _ (HT.out.b.trans (B5.mono HT.out.b.size))⟩
      · clear hlt
        go_wp2_with (go_at_call 12; refine (CK.out _).mono ?_; rintro e w5 ⟨rfl, B5⟩)
        go_ret
        exact ⟨rfl, hgrow.out _ (HT.out.b.trans (B5.mono HT.out.b.size))⟩
end Go.Proofs.YtbfldcieibdapaaGreat
