/-
  RollbackTwo, its own walk.
-/
import Derived.Test.YtbfldcieibdapaaGreatRbTwo
import Derived.Test.YtbfldcieibdapaaGreatStepIn
import Derived.Deep.RegionHeld3
import Derived.Deep.DeepCutAuto
import Derived.Deep.CutBlock
namespace Go.Proofs.YtbfldcieibdapaaGreat
open Go.RowKit
set_option maxRecDepth 20000 in
set_option maxHeartbeats 4000000 in
theorem two_bad (cv : Value) (l : List Ii) (cap fuel seed : Int) (aa : Option Addr) (la ca : Nat) (ab : Option Addr) (lb cb : Nat) (ap : Option Addr) (lp cpp : Nat) (w : World) (hl : Ls w cv l) (hbad : slw l.length fuel = true ∨ chkG l cap fuel ≠ 0 ∨ 40 < la ∨ lb ≠ la) :
    Calls Tryz.prog 5 #[gameV cv cap fuel, .int .u32 seed, .slice aa la ca, .slice ab lb cb, .slice ap lp cpp] w fun e w' => e = .returned (.bool true) ∧ Below w.heap.size w w' := by
  obtain ⟨ac, cp, rfl, hm⟩ := hl.len
  have C9 := hid_into (slow_any ac l.length cp cap fuel (w.alloc (.cells #[.slice ac l.length cp, .int .i64 cap, .int .i64 fuel] 24)))
  have b0 : Below w.heap.size w (w.alloc (.cells #[.slice ac l.length cp, .int .i64 cap, .int .i64 fuel] 24)) := (Below.refl _ _).alloc (Nat.le_refl _) _
  have hl1 : Ls (w.alloc (.cells #[.slice ac l.length cp, .int .i64 cap, .int .i64 fuel] 24)) (.slice ac l.length cp) l := hl.below b0
  have HK1 : Hid (Cw (w.alloc (.cells #[.slice ac l.length cp, .int .i64 cap, .int .i64 fuel] 24)) w.heap.size [.slice ac l.length cp, .int .i64 cap, .int .i64 fuel] 24) := Cw.new w [.slice ac l.length cp, .int .i64 cap, .int .i64 fuel] 24
  have H24 : Hid ((Tryz.prog.info? 24).map (·.size) = some 3) := size24
  have hsz := World.size_alloc w (.cells #[.slice ac l.length cp, .int .i64 cap, .int .i64 fuel] 24)
  have CK := hid_into known_any
  have hgrow : Hid (∀ W, Below (w.alloc (.cells #[.slice ac l.length cp, .int .i64 cap, .int .i64 fuel] 24)).heap.size (w.alloc (.cells #[.slice ac l.length cp, .int .i64 cap, .int .i64 fuel] 24)) W → Below w.heap.size w W) := fun W hW => b0.trans (hW.mono (by rw [hsz]; omega))
  have C24 : Hid (∀ W, Below (w.alloc (.cells #[.slice ac l.length cp, .int .i64 cap, .int .i64 fuel] 24)).heap.size (w.alloc (.cells #[.slice ac l.length cp, .int .i64 cap, .int .i64 fuel] 24)) W → Calls Tryz.prog 24 #[.agg #[.slice ac l.length cp, .int .i64 cap, .int .i64 fuel]] W fun e w' => e = .returned (.int .i64 (chkG l cap fuel)) ∧ Below W.heap.size W w') := fun W hW => rChk_any _ l cap fuel W (hl1.below hW)
  cases hs : slw l.length fuel with
  | true =>
    rw [hs] at C9
    clear hbad C24
    clear hl hl1 hm b0 hsz
    unfold gameV
    go_enter Tryz.func5, Tryz.ntmps5
    go_wp2_with (first
      | (refine wpList_load_rwG (by kernel_rfl) 24 (.tmp 5) rfl w.heap.size [.slice ac l.length cp, .int .i64 cap, .int .i64 fuel] 24 _ rfl ?_ Tryz.underlying24 rfl H24 ?_; exact HK1.out)
      | (go_at_call 9; refine C9.out.mono ?_; rintro e w2 ⟨rfl, B2⟩; have HB2 := hid_into B2; have HK2 := hid_into (HK1.out.below B2 HK1.out.lt); clear B2)
      | (go_at_call 12; refine (CK.out _).mono ?_; rintro e w5 ⟨rfl, B5⟩))
    go_ret
    exact ⟨rfl, hgrow.out _ (HB2.out.trans (B5.mono HB2.out.size))⟩
  | false =>
    rw [hs] at C9
    rcases (Classical.em (chkG l cap fuel = 0)).symm with hc | hc
    · generalize chkG l cap fuel = er at *
      have her : (er != 0) = true := by simp [hc]
      clear hbad hc
      clear hl hl1 hm b0 hsz
      unfold gameV
      go_enter Tryz.func5, Tryz.ntmps5
      go_wp2_with (first
        | (refine wpList_load_rwG (by kernel_rfl) 24 (.tmp 5) rfl w.heap.size [.slice ac l.length cp, .int .i64 cap, .int .i64 fuel] 24 _ rfl ?_ Tryz.underlying24 rfl H24 ?_; exact HK2.out)
        | (refine wpList_load_rwG (by kernel_rfl) 24 (.tmp 5) rfl w.heap.size [.slice ac l.length cp, .int .i64 cap, .int .i64 fuel] 24 _ rfl ?_ Tryz.underlying24 rfl H24 ?_; exact HK1.out)
        | (refine wpList_load_rwG (by kernel_rfl) 24 (.tmp 5) rfl w.heap.size [.slice ac l.length cp, .int .i64 cap, .int .i64 fuel] 24 _ rfl ?_ Tryz.underlying24 rfl H24 ?_; exact HK2.out)
        | (go_at_call 9; refine C9.out.mono ?_; rintro e w2 ⟨rfl, B2⟩; have HB2 := hid_into B2; have HK2 := hid_into (HK1.out.below B2 HK1.out.lt); clear B2)
        | (go_at_call 24; refine (C24.out _ HB2.out).mono ?_; rintro e w3 ⟨rfl, B3⟩; have HB3 := hid_into (HB2.out.trans (B3.mono HB2.out.size)); clear B3)
        | (go_at_call 12; refine (CK.out _).mono ?_; rintro e w5 ⟨rfl, B5⟩))
      go_ret
      exact ⟨rfl, hgrow.out _ (HB3.out.trans (B5.mono HB3.out.size))⟩
    · rw [hc] at C24
      by_cases h40 : (40 : Int) < (la : Int)
      · clear hbad hc
        clear hl hl1 hm b0 hsz
        unfold gameV
        go_enter Tryz.func5, Tryz.ntmps5
        go_wp2_with (first
          | (refine wpList_load_rwG (by kernel_rfl) 24 (.tmp 5) rfl w.heap.size [.slice ac l.length cp, .int .i64 cap, .int .i64 fuel] 24 _ rfl ?_ Tryz.underlying24 rfl H24 ?_; exact HK2.out)
          | (refine wpList_load_rwG (by kernel_rfl) 24 (.tmp 5) rfl w.heap.size [.slice ac l.length cp, .int .i64 cap, .int .i64 fuel] 24 _ rfl ?_ Tryz.underlying24 rfl H24 ?_; exact HK1.out)
          | (refine wpList_load_rwG (by kernel_rfl) 24 (.tmp 5) rfl w.heap.size [.slice ac l.length cp, .int .i64 cap, .int .i64 fuel] 24 _ rfl ?_ Tryz.underlying24 rfl H24 ?_; exact HK2.out)
          | (go_at_call 9; refine C9.out.mono ?_; rintro e w2 ⟨rfl, B2⟩; have HB2 := hid_into B2; have HK2 := hid_into (HK1.out.below B2 HK1.out.lt); clear B2)
          | (go_at_call 24; refine (C24.out _ HB2.out).mono ?_; rintro e w3 ⟨rfl, B3⟩; have HB3 := hid_into (HB2.out.trans (B3.mono HB2.out.size)); clear B3)
          | (go_at_call 12; refine (CK.out _).mono ?_; rintro e w5 ⟨rfl, B5⟩))
        go_ret
        exact ⟨rfl, hgrow.out _ (HB3.out.trans (B5.mono HB3.out.size))⟩
      · have hne : ((lb : Int) != (la : Int)) = true := by
          have h1 : lb ≠ la := by
            rcases hbad with h | h | h | h
            · rw [hs] at h; cases h
            · exact absurd hc h
            · omega
            · exact h
          simp; omega
        clear hbad hc
        clear hl hl1 hm b0 hsz
        unfold gameV
        go_enter Tryz.func5, Tryz.ntmps5
        go_wp2_with (first
          | (refine wpList_load_rwG (by kernel_rfl) 24 (.tmp 5) rfl w.heap.size [.slice ac l.length cp, .int .i64 cap, .int .i64 fuel] 24 _ rfl ?_ Tryz.underlying24 rfl H24 ?_; exact HK2.out)
          | (refine wpList_load_rwG (by kernel_rfl) 24 (.tmp 5) rfl w.heap.size [.slice ac l.length cp, .int .i64 cap, .int .i64 fuel] 24 _ rfl ?_ Tryz.underlying24 rfl H24 ?_; exact HK1.out)
          | (refine wpList_load_rwG (by kernel_rfl) 24 (.tmp 5) rfl w.heap.size [.slice ac l.length cp, .int .i64 cap, .int .i64 fuel] 24 _ rfl ?_ Tryz.underlying24 rfl H24 ?_; exact HK2.out)
          | (go_at_call 9; refine C9.out.mono ?_; rintro e w2 ⟨rfl, B2⟩; have HB2 := hid_into B2; have HK2 := hid_into (HK1.out.below B2 HK1.out.lt); clear B2)
          | (go_at_call 24; refine (C24.out _ HB2.out).mono ?_; rintro e w3 ⟨rfl, B3⟩; have HB3 := hid_into (HB2.out.trans (B3.mono HB2.out.size)); clear B3)
          | (go_at_call 12; refine (CK.out _).mono ?_; rintro e w5 ⟨rfl, B5⟩))
        go_ret
        exact ⟨rfl, hgrow.out _ (HB3.out.trans (B5.mono HB3.out.size))⟩
set_option maxRecDepth 20000 in
set_option maxHeartbeats 16000000 in
theorem two_walk (cv : Value) (l : List Ii) (cap fuel seed : Int) (aa : Option Addr) (la ca : Nat) (xa : List Int) (ab : Option Addr) (lb cb : Nat) (xb : List Int) (ap : Option Addr) (lp cpp : Nat) (ps : List Int) (w : World) (hl : Ls w cv l) (hseed : 0 ≤ seed ∧ seed < 4294967296) (ra : Ax.Rw w 1 St.u16c aa la ca xa) (ga : ∀ z ∈ xa, 0 ≤ z ∧ z < 65536) (rb : Ax.Rw w 1 St.u16c ab lb cb xb) (gb : ∀ z ∈ xb, 0 ≤ z ∧ z < 65536) (rp : Ax.Rw w 1 St.i64c ap lp cpp ps) (_gp : ∀ z ∈ ps, -9223372036854775808 ≤ z ∧ z ≤ 9223372036854775807) :
    Calls Tryz.prog 5 #[gameV cv cap fuel, .int .u32 seed, .slice aa la ca, .slice ab lb cb, .slice ap lp cpp] w fun e w' => e = .returned (.bool true) ∧ Below w.heap.size w w' := by
  by_cases hs : slw l.length fuel = true
  · exact two_bad cv l cap fuel seed aa la ca ab lb cb ap lp cpp w hl (Or.inl hs)
  by_cases hc : chkG l cap fuel = 0
  case neg => exact two_bad cv l cap fuel seed aa la ca ab lb cb ap lp cpp w hl (Or.inr (Or.inl hc))
  by_cases h40 : 40 < la
  · exact two_bad cv l cap fuel seed aa la ca ab lb cb ap lp cpp w hl (Or.inr (Or.inr (Or.inl h40)))
  by_cases hlb : lb = la
  case neg => exact two_bad cv l cap fuel seed aa la ca ab lb cb ap lp cpp w hl (Or.inr (Or.inr (Or.inr hlb)))
  have hlb' := hlb.symm
  clear hlb
  subst hlb'
  have hla := ra.len
  have hlb := rb.len
  obtain ⟨ac, cp, rfl, hm⟩ := hl.len
  have C9 := hid_into (slow_any ac l.length cp cap fuel (w.alloc (.cells #[.slice ac l.length cp, .int .i64 cap, .int .i64 fuel] 24)))
  have b0 : Below w.heap.size w (w.alloc (.cells #[.slice ac l.length cp, .int .i64 cap, .int .i64 fuel] 24)) := (Below.refl _ _).alloc (Nat.le_refl _) _
  have hl1 : Ls (w.alloc (.cells #[.slice ac l.length cp, .int .i64 cap, .int .i64 fuel] 24)) (.slice ac l.length cp) l := hl.below b0
  have HK1 : Hid (Cw (w.alloc (.cells #[.slice ac l.length cp, .int .i64 cap, .int .i64 fuel] 24)) w.heap.size [.slice ac l.length cp, .int .i64 cap, .int .i64 fuel] 24) := Cw.new w [.slice ac l.length cp, .int .i64 cap, .int .i64 fuel] 24
  have H24 : Hid ((Tryz.prog.info? 24).map (·.size) = some 3) := size24
  have hsz := World.size_alloc w (.cells #[.slice ac l.length cp, .int .i64 cap, .int .i64 fuel] 24)
  have CK := hid_into known_any
  rw [show slw l.length fuel = false by simpa using hs] at C9
  obtain ⟨w1, hw1⟩ : ∃ w1, w1 = (w.alloc (.cells #[.slice ac l.length cp, .int .i64 cap, .int .i64 fuel] 24)) := ⟨_, rfl⟩
  rw [← hw1] at C9 b0 hl1 HK1 hsz
  have hgrow : Hid (∀ W, Below w1.heap.size w1 W → Below w.heap.size w W) := fun W hW => b0.trans (hW.mono (by rw [hsz]; omega))
  have C24 : Hid (∀ W, Below w1.heap.size w1 W → Calls Tryz.prog 24 #[.agg #[.slice ac l.length cp, .int .i64 cap, .int .i64 fuel]] W fun e w' => e = .returned (.int .i64 0) ∧ Below W.heap.size W w') := fun W hW => by
    have := rChk_any (.slice ac l.length cp) l cap fuel W (hl1.below hW)
    rw [hc] at this
    exact this
  obtain ⟨G, hG⟩ : ∃ G : Gm, G = ⟨l, cap, fuel, seed⟩ := ⟨_, rfl⟩
  have hok : G.Ok := by rw [hG]; exact ⟨hc, hseed⟩
  have e1 : G.l = l := by rw [hG]
  have e2 : G.cap = cap := by rw [hG]
  have e3 : G.fuel = fuel := by rw [hG]
  have e4 : G.seed = seed := by rw [hG]
  have C10 : Hid (∀ me, me = 0 ∨ me = 1 → ∀ W, Below w1.heap.size w1 W → Calls Tryz.prog 10 #[.agg #[.slice ac l.length cp, .int .i64 cap, .int .i64 fuel], .int .u32 seed, .int .i64 me] W fun e w' => ∃ X, e = .returned (.tuple #[.pointer (some ⟨X.sb, 0, none⟩), .int .i64 0]) ∧ Se w' W.heap.size w'.heap.size X G (newS me G.cap) ∧ Below W.heap.size W w') := fun me hme W hW => by
    have := New_any W (.slice ac l.length cp) G me (by rw [e1]; exact hl1.below hW) hok hme
    rw [e2, e3, e4] at this
    rw [e2]
    exact this
  have C10x := hid_into (C10.out 0 (Or.inl rfl))
  have C10y := hid_into (C10.out 1 (Or.inr rfl))
  clear C10
  have HI : Hid (Inp G xa xb) := ⟨hok, ga, gb, by rw [hla, hlb]⟩
  have HT0 : Hid ((newT G.cap).Ok G xa xb) := newT_ok HI.out
  have H40 : Hid (xa.length ≤ 40) := by rw [hla]; refine hid_into ?_; omega
  have C25 : Hid (∀ W v, Below w1.heap.size w1 W → Ps W v (frst (fun k => (gd xa k, gd xb k)) xa.length) → Calls Tryz.prog 25 #[.agg #[.slice ac l.length cp, .int .i64 cap, .int .i64 fuel], .int .u32 seed, v] W fun e w' => e = .returned (.tuple #[.agg (stV (allW G xa xb xa.length)).toArray, .int .i64 0]) ∧ Below W.heap.size W w') := fun W v hW hv => by
    have g := rPlay_any (.slice ac l.length cp) l cap fuel seed v _ W (hl1.below hW) hv (frst_in (f := fun k => (gd xa k, gd xb k)) (fun k => ⟨gd_in ga k, gd_in gb k⟩) _) hseed (by rw [frst_len]; have := H40.out; omega)
    have e : playE l cap fuel seed (frst (fun k => (gd xa k, gd xb k)) xa.length) = (allW G xa xb xa.length, 0) := by
      have h := allW_frst HI.out
      rw [e1, e2, e3, e4] at h
      unfold playE
      rw [if_pos hc, h]
    rw [e] at g
    exact g
  have HWF : Hid (Sp.Wf (allW G xa xb xa.length)) := by
    have g := playE_wf (l := l) (cap := cap) (fuel := fuel) (frst_in (f := fun k => (gd xa k, gd xb k)) (fun k => ⟨gd_in ga k, gd_in gb k⟩) xa.length) hseed
    have h := allW_frst HI.out
    rw [e1, e2, e3, e4] at h
    unfold playE at g
    rw [if_pos hc, h] at g
    exact g
  have HRA := hid_into (fun W (hW : Below w1.heap.size w1 W) => ra.below (hgrow.out W hW) (Nat.le_refl _))
  have HRB := hid_into (fun W (hW : Below w1.heap.size w1 W) => rb.below (hgrow.out W hW) (Nat.le_refl _))
  have HRP := hid_into (fun W (hW : Below w1.heap.size w1 W) => rp.below (hgrow.out W hW) (Nat.le_refl _))
  have hpm : (lp : Int) ≤ 9223372036854775807 := by have := rp.le; have := rp.mx; unfold maxLen at this; omega
  have HPL : Hid (ps.length = lp) := rp.len
  have HAL : Hid (xa.length = la ∧ xb.length = la) := ⟨hla, hlb⟩
  have h40' : (la : Int) ≤ 40 := by omega
  have h40n : ¬ (40 : Int) < (la : Int) := by omega
  have hW0 : Hid (Wk (newS 0 G.cap) 0 ∧ Wk (newS 1 G.cap) 0) := ⟨Wk.new _ _, Wk.new _ _⟩
  have HTX : Hid ((newT G.cap).x = newS 0 G.cap ∧ (newT G.cap).y = newS 1 G.cap ∧ (newT G.cap).i = 0 ∧ (newT G.cap).k = 0 ∧ (newT G.cap).u = 0 ∧ (newT G.cap).v = 0) := ⟨rfl, rfl, rfl, rfl, rfl, rfl⟩
  generalize newS 0 G.cap = s0 at *
  generalize newS 1 G.cap = s1 at *
  generalize newT G.cap = t0 at *
  clear hl hl1 hm b0 hsz hs hc e1 e2 e3 e4 hG hseed ra rb rp ga gb hok h40 hla hlb
  unfold gameV
  go_enter Tryz.func5, Tryz.ntmps5
  go_upto_region 1 with fail
  rw [← hw1]
  clear hw1
  go_wp2_with (first
    | (refine wpList_load_rwG (by kernel_rfl) 24 (.tmp 5) rfl w.heap.size [.slice ac l.length cp, .int .i64 cap, .int .i64 fuel] 24 _ rfl ?_ Tryz.underlying24 rfl H24 ?_; exact HK4.out)
    | (refine wpList_load_rwG (by kernel_rfl) 24 (.tmp 5) rfl w.heap.size [.slice ac l.length cp, .int .i64 cap, .int .i64 fuel] 24 _ rfl ?_ Tryz.underlying24 rfl H24 ?_; exact HK3.out)
    | (refine wpList_load_rwG (by kernel_rfl) 24 (.tmp 5) rfl w.heap.size [.slice ac l.length cp, .int .i64 cap, .int .i64 fuel] 24 _ rfl ?_ Tryz.underlying24 rfl H24 ?_; exact HK2.out)
    | (refine wpList_load_rwG (by kernel_rfl) 24 (.tmp 5) rfl w.heap.size [.slice ac l.length cp, .int .i64 cap, .int .i64 fuel] 24 _ rfl ?_ Tryz.underlying24 rfl H24 ?_; exact HK1.out)
    | (go_at_call 9; refine C9.out.mono ?_; rintro e w2 ⟨rfl, B2⟩; have HB2 := hid_into B2; have HK2 := hid_into (HK1.out.below B2 HK1.out.lt); clear B2)
    | (go_at_call 24; refine (C24.out _ HB2.out).mono ?_; rintro e w3 ⟨rfl, B3⟩; have HB3 := hid_into (HB2.out.trans (B3.mono HB2.out.size)); have HK3 := hid_into (HK2.out.below B3 HK2.out.lt); clear B3)
    | (go_at_call 10; refine (C10x.out _ HB3.out).mono ?_; rintro e w4 ⟨X, rfl, S4, B4⟩; have HS4 := hid_into S4; have HB4 := hid_into (HB3.out.trans (B4.mono HB3.out.size)); have HK4 := hid_into (HK3.out.below B4 HK3.out.lt); clear B4 S4 C10x)
    | (go_at_call 10; refine (C10y.out _ HB4.out).mono ?_; rintro e w5 ⟨Y, rfl, S5, B5⟩; have HS5 := hid_into S5; have HB5 := hid_into B5; clear B5 S5 C10y))
  have HT : Hid (Tm w1 w5 w3.heap.size w4.heap.size X w4.heap.size w5.heap.size Y G xa xb t0 0) := by
    obtain ⟨q1, q2, _⟩ := HTX.out
    refine ⟨?_, HT0.out, by rw [q1]; exact hW0.out.1, by rw [q2]; exact hW0.out.2⟩
    rw [q1, q2]
    exact ⟨HS4.out.below HB5.out, HS5.out, HB4.out.trans (HB5.out.mono HB4.out.size), HB3.out.size, Nat.le_refl _⟩
  have HKB : Hid (∀ W, Below w1.heap.size w1 W → Cw W w.heap.size [.slice ac l.length cp, .int .i64 cap, .int .i64 fuel] 24) := fun W hW => HK1.out.below hW HK1.out.lt
  generalize w3.heap.size = lo at *
  generalize w4.heap.size = hi at *
  generalize hhi2 : w5.heap.size = hi2 at *
  clear hhi2 C9 C24 HB2 HB3 HB4 HB5 HS4 HS5 HK1 HK2 HK3 HK4
  go_loopw [15, 16, 17, 18, 19] (fun vi vk vu vv vn wr => ∃ (M : Nat) (t : Tt), M ≤ 400 ∧ vn = .int .i64 (M : Int) ∧ vi = .int .i64 (t.i : Int) ∧ vk = .int .i64 (t.k : Int) ∧ vu = .int .i64 (t.u : Int) ∧ vv = .int .i64 (t.v : Int) ∧ Hid (t = trun G xa xb ps t0 M) ∧ Hid (Tm w1 wr lo hi X hi hi2 Y G xa xb t M)) (fun _ _ _ _ vn _ => 400 - (intOf vn).toNat)
  case atStart =>
    obtain ⟨_, _, q1, q2, q3, q4⟩ := HTX.out
    exact ⟨0, t0, Nat.zero_le _, rfl, by rw [q1]; rfl, by rw [q2]; rfl, by rw [q3]; rfl, by rw [q4]; rfl, hid_into rfl, HT⟩
  case round =>
    clear HT HTX hW0
    obtain ⟨M, t, hM, rfl, rfl, rfl, rfl, rfl, HE, HT⟩ := hrel
    by_cases hlt : M < 400
    · have hlt' : (M : Int) < 400 := by omega
      have hsm := HT.out.small
      obtain ⟨hs1, hs2, hs3, hs4⟩ := hsm
      go_upto_if 83 with fail
      go_cut [20] (fun pv wx => pv = .int .i64 (tpick ps M) ∧ wr = wx)
      case first =>
        by_cases hp : M < lp
        · have hp' : (M : Int) < (lp : Int) := by omega
          obtain ⟨z, hz⟩ : ∃ z, ps[M]? = some z := ⟨_, List.getElem?_eq_getElem (by rw [HPL.out]; exact hp)⟩
          obtain ⟨g, off, rfl, ct⟩ := (HRP.out _ HT.out.m.b).at' M z hz
          have d0 := ct 0 _ rfl
          simp only [Nat.mul_one, Nat.add_zero] at d0
          have ez : tpick ps M = z := by unfold tpick; rw [if_pos (by rw [HPL.out]; exact hp)]; simp [List.getD, hz]
          have EZ := hid_into ez
          clear ct hz ez
          go_wp2_with fail
          go_meet
          exact ⟨by rw [EZ.out], rfl⟩
        · have hp' : ¬ (M : Int) < (lp : Int) := by omega
          have EZ : Hid (tpick ps M = (M : Int)) := by refine hid_into ?_; unfold tpick; rw [if_neg (by rw [HPL.out]; exact hp)]
          go_wp2_with fail
          go_meet
          exact ⟨by rw [EZ.out], rfl⟩
      case rest =>
      obtain ⟨rfl, rfl⟩ := hcut
      have hr := and3 (tpick ps M)
      have HN1 : Hid (tstep G xa xb (tpick ps M % 4) t = trun G xa xb ps t0 (M + 1)) := by rw [HE.out]; exact hid_into rfl
      generalize hq : tpick ps M % 4 = r at *
      have hr0 : 0 ≤ r ∧ r < 4 := by omega
      clear hq
      generalize tpick ps M = P at *
      go_upto_block 2 with fail
      generalize bits .and .i64 P 3 = r' at *
      have hr' := hr.symm
      clear hr
      subst hr'
      go_cut [15, 16, 17, 18] (fun vi vk vu vv wx => ∃ t2 : Tt, Hid (t2 = tstep G xa xb r t) ∧ vi = .int .i64 (t2.i : Int) ∧ vk = .int .i64 (t2.k : Int) ∧ vu = .int .i64 (t2.u : Int) ∧ vv = .int .i64 (t2.v : Int) ∧ Hid (Tm w1 wx lo hi X hi hi2 Y G xa xb t2 (M + 1)))
      case first =>
        by_cases r0 : r = 0
        · subst r0
          by_cases hg : t.i < la
          · have hg' : (t.i : Int) < (la : Int) := by omega
            obtain ⟨g, off, rfl, ct⟩ := (HRA.out _ HT.out.m.b).at' t.i (gd xa t.i) (by unfold gd; simp [List.getD, List.getElem?_eq_getElem (show t.i < xa.length by rw [HAL.out.1]; omega)])
            have d0 := ct 0 _ rfl
            simp only [Nat.mul_one, Nat.add_zero] at d0
            clear ct
            have CG := hid_into (HT.out.go0 HI.out (by omega) (by rw [HAL.out.1]; exact hg))
            have HF := hid_into (tstep0 (by rw [HAL.out.1]; exact hg) : tstep G xa xb 0 t = _)
            generalize hA : (locA t.x G).2 = A at *
            have hA1 : ∃ A1, A1 = (locA t.x G).1 := ⟨_, rfl⟩
            obtain ⟨A1, hA1⟩ := hA1
            rw [← hA1] at CG
            clear hA1
            clear hA
            by_cases hz : A = 0
            · subst hz
              rw [if_pos rfl] at HF
              generalize tstep G xa xb 0 t = t2 at *
              generalize gd xa t.i = z at *
              go_wp2_with (go_at_call 13; refine CG.out.mono ?_; rintro e w6 ⟨rfl, h6⟩; have H6 := hid_into h6; clear h6 CG)
              go_meet
              exact ⟨t2, hid_into rfl, by rw [HF.out]; go_num, by rw [HF.out], by rw [HF.out], by rw [HF.out], H6⟩
            · have hz' : (A == 0) = false := by simp [hz]
              rw [if_neg hz] at HF
              clear hz
              generalize tstep G xa xb 0 t = t2 at *
              generalize gd xa t.i = z at *
              go_wp2_with (go_at_call 13; refine CG.out.mono ?_; rintro e w6 ⟨rfl, h6⟩; have H6 := hid_into h6; clear h6 CG)
              go_meet
              exact ⟨t2, hid_into rfl, by rw [HF.out], by rw [HF.out], by rw [HF.out], by rw [HF.out], H6⟩
          · have hg' : ¬ (t.i : Int) < (la : Int) := by omega
            go_wp2_with fail
            go_meet
            exact ⟨t, hid_into (tstep0n (by rw [HAL.out.1]; exact hg)).symm, rfl, rfl, rfl, rfl, HT.out.up⟩
        · have r0b : (r == 0) = false := by simp [r0]
          by_cases r1 : r = 1
          · subst r1
            by_cases hg : t.k < la
            · have hg' : (t.k : Int) < (la : Int) := by omega
              obtain ⟨g, off, rfl, ct⟩ := (HRB.out _ HT.out.m.b).at' t.k (gd xb t.k) (by unfold gd; simp [List.getD, List.getElem?_eq_getElem (show t.k < xb.length by rw [HAL.out.2]; omega)])
              have d0 := ct 0 _ rfl
              simp only [Nat.mul_one, Nat.add_zero] at d0
              clear ct
              have CG := hid_into (HT.out.go1 HI.out (by omega) (by rw [HAL.out.2]; exact hg))
              have HF := hid_into (tstep1 (by rw [HAL.out.2]; exact hg) : tstep G xa xb 1 t = _)
              generalize hA : (locA t.y G).2 = A at *
              have hA1 : ∃ A1, A1 = (locA t.y G).1 := ⟨_, rfl⟩
              obtain ⟨A1, hA1⟩ := hA1
              rw [← hA1] at CG
              clear hA1
              clear hA
              by_cases hz : A = 0
              · subst hz
                rw [if_pos rfl] at HF
                generalize tstep G xa xb 1 t = t2 at *
                generalize gd xb t.k = z at *
                go_wp2_with (go_at_call 13; refine CG.out.mono ?_; rintro e w6 ⟨rfl, h6⟩; have H6 := hid_into h6; clear h6 CG)
                go_meet
                exact ⟨t2, hid_into rfl, by rw [HF.out], by rw [HF.out]; go_num, by rw [HF.out], by rw [HF.out], H6⟩
              · have hz' : (A == 0) = false := by simp [hz]
                rw [if_neg hz] at HF
                clear hz
                generalize tstep G xa xb 1 t = t2 at *
                generalize gd xb t.k = z at *
                go_wp2_with (go_at_call 13; refine CG.out.mono ?_; rintro e w6 ⟨rfl, h6⟩; have H6 := hid_into h6; clear h6 CG)
                go_meet
                exact ⟨t2, hid_into rfl, by rw [HF.out], by rw [HF.out], by rw [HF.out], by rw [HF.out], H6⟩
            · have hg' : ¬ (t.k : Int) < (la : Int) := by omega
              go_wp2_with fail
              go_meet
              exact ⟨t, hid_into (tstep1n (by rw [HAL.out.2]; exact hg)).symm, rfl, rfl, rfl, rfl, HT.out.up⟩
          · have r1b : (r == 1) = false := by simp [r1]
            by_cases r2 : r = 2
            · subst r2
              have HUI : Hid (t.u ≤ t.i ∧ t.i ≤ la) := ⟨HT.out.ok.ui, by have := HT.out.ok.iL; rw [HAL.out.1] at this; exact this⟩
              by_cases hg : t.u < t.i
              · have hg' : (t.u : Int) < (t.i : Int) := by omega
                have hgl : t.u < la := by have := HUI.out; omega
                have hgl' : (t.u : Int) < (la : Int) := by omega
                obtain ⟨g, off, rfl, ct⟩ := (HRA.out _ HT.out.m.b).at' t.u (gd xa t.u) (by unfold gd; simp [List.getD, List.getElem?_eq_getElem (show t.u < xa.length by rw [HAL.out.1]; have := HUI.out; omega)])
                have d0 := ct 0 _ rfl
                simp only [Nat.mul_one, Nat.add_zero] at d0
                clear ct
                have CG := hid_into (HT.out.go2 HI.out (by omega) hg)
                have HF := hid_into (tstep2 hg : tstep G xa xb 2 t = _)
                generalize hA : remA t.y G (t.u : Int) (gd xa t.u) = A at *
                clear hA
                by_cases hz : A = 0
                · subst hz
                  rw [if_pos rfl] at HF
                  generalize tstep G xa xb 2 t = t2 at *
                  generalize gd xa t.u = z at *
                  go_wp2_with (go_at_call 15; refine CG.out.mono ?_; rintro e w6 ⟨rfl, h6⟩; have H6 := hid_into h6; clear h6 CG)
                  go_meet
                  exact ⟨t2, hid_into rfl, by rw [HF.out], by rw [HF.out], by rw [HF.out]; go_num, by rw [HF.out], H6⟩
                · have hz' : (A == 0) = false := by simp [hz]
                  rw [if_neg hz] at HF
                  clear hz
                  generalize tstep G xa xb 2 t = t2 at *
                  generalize gd xa t.u = z at *
                  go_wp2_with (go_at_call 15; refine CG.out.mono ?_; rintro e w6 ⟨rfl, h6⟩; have H6 := hid_into h6; clear h6 CG)
                  go_meet
                  exact ⟨t2, hid_into rfl, by rw [HF.out], by rw [HF.out], by rw [HF.out], by rw [HF.out], H6⟩
              · have hg' : ¬ (t.u : Int) < (t.i : Int) := by omega
                go_wp2_with fail
                go_meet
                exact ⟨t, hid_into (tstep2n hg).symm, rfl, rfl, rfl, rfl, HT.out.up⟩
            · have r2b : (r == 2) = false := by simp [r2]
              have HUI : Hid (t.v ≤ t.k ∧ t.k ≤ la) := ⟨HT.out.ok.vk, by have := HT.out.ok.kL; rw [HAL.out.1] at this; exact this⟩
              by_cases hg : t.v < t.k
              · have hg' : (t.v : Int) < (t.k : Int) := by omega
                have hgl : t.v < la := by have := HUI.out; omega
                have hgl' : (t.v : Int) < (la : Int) := by omega
                obtain ⟨g, off, rfl, ct⟩ := (HRB.out _ HT.out.m.b).at' t.v (gd xb t.v) (by unfold gd; simp [List.getD, List.getElem?_eq_getElem (show t.v < xb.length by rw [HAL.out.2]; have := HUI.out; omega)])
                have d0 := ct 0 _ rfl
                simp only [Nat.mul_one, Nat.add_zero] at d0
                clear ct
                have CG := hid_into (HT.out.go3 HI.out (by omega) r0 r1 r2 hg)
                have HF := hid_into (tstep3 r0 r1 r2 hg : tstep G xa xb r t = _)
                generalize hA : remA t.x G (t.v : Int) (gd xb t.v) = A at *
                clear hA
                by_cases hz : A = 0
                · subst hz
                  rw [if_pos rfl] at HF
                  generalize tstep G xa xb r t = t2 at *
                  generalize gd xb t.v = z at *
                  go_wp2_with (go_at_call 15; refine CG.out.mono ?_; rintro e w6 ⟨rfl, h6⟩; have H6 := hid_into h6; clear h6 CG)
                  go_meet
                  exact ⟨t2, hid_into rfl, by rw [HF.out], by rw [HF.out], by rw [HF.out], by rw [HF.out]; go_num, H6⟩
                · have hz' : (A == 0) = false := by simp [hz]
                  rw [if_neg hz] at HF
                  clear hz
                  generalize tstep G xa xb r t = t2 at *
                  generalize gd xb t.v = z at *
                  go_wp2_with (go_at_call 15; refine CG.out.mono ?_; rintro e w6 ⟨rfl, h6⟩; have H6 := hid_into h6; clear h6 CG)
                  go_meet
                  exact ⟨t2, hid_into rfl, by rw [HF.out], by rw [HF.out], by rw [HF.out], by rw [HF.out], H6⟩
              · have hg' : ¬ (t.v : Int) < (t.k : Int) := by omega
                go_wp2_with fail
                go_meet
                exact ⟨t, hid_into (tstep3n r0 r1 r2 hg).symm, rfl, rfl, rfl, rfl, HT.out.up⟩
      case rest =>
      obtain ⟨t2, HE2, rfl, rfl, rfl, rfl, HT2⟩ := hcut
      have HN2 : Hid (t2 = trun G xa xb ps t0 (M + 1)) := by rw [HE2.out]; exact HN1
      clear HE HT HN1 HE2 hs1 hs2 hs3 hs4 hr0
      have gX := HT2.out.m.sx.sureGs
      have gY := HT2.out.m.sy.sureGs
      have CX : Hid (∀ W, Tm w1 W lo hi X hi hi2 Y G xa xb t2 (M + 1) → Calls Tryz.prog 20 #[.pointer (some ⟨X.sb, 0, none⟩)] W fun e w' => e = .returned (.agg (stV (t2.x.sure G)).toArray) ∧ Tm w1 w' lo hi X hi hi2 Y G xa xb t2 (M + 1)) := fun W h => h.m.sx.Sure.mono (by rintro e w' ⟨rfl, h1⟩; exact ⟨rfl, h.next h1⟩)
      have CY : Hid (∀ W, Tm w1 W lo hi X hi hi2 Y G xa xb t2 (M + 1) → Calls Tryz.prog 20 #[.pointer (some ⟨Y.sb, 0, none⟩)] W fun e w' => e = .returned (.agg (stV (t2.y.sure G)).toArray) ∧ Tm w1 w' lo hi X hi hi2 Y G xa xb t2 (M + 1)) := fun W h => h.m.sy.Sure.mono (by rintro e w' ⟨rfl, h1⟩; exact ⟨rfl, h.next h1⟩)
      have FX := (fieldS gX.wf).1
      have FY := (fieldS gY.wf).1
      by_cases hf : (t2.x.sure G).frame = (t2.y.sure G).frame
      · have hs := HT2.out.ok.same HI.out hf
        have HEq : Hid (∀ W : World, (Op.equalIn 10000 48 (.agg (stV (t2.x.sure G)).toArray) (.agg (stV (t2.x.sure G)).toArray)).run Tryz.prog W = .ok true W) := fun W => by have := run_eqS _ _ gX.wf gX.wf W; rw [eqS_same] at this; exact this
        rw [← hs] at CY FY
        generalize stV (t2.x.sure G) = cs at *
        generalize (t2.x.sure G).frame = fr at *
        clear hs hf gX gY
        go_wp2_with (first
          | (go_at_call 20; refine (CX.out _ HT2.out).mono ?_; rintro e w7 ⟨rfl, h7⟩; have H7 := hid_into h7; clear h7 HT2)
          | (go_at_call 20; refine (CY.out _ H7.out).mono ?_; rintro e w8 ⟨rfl, h8⟩; have H8 := hid_into h8; clear h8 H7)
          | (go_at_call 20; refine (CX.out _ H8.out).mono ?_; rintro e w9 ⟨rfl, h9⟩; have H9 := hid_into h9; clear h9 H8)
          | (go_at_call 20; refine (CY.out _ H9.out).mono ?_; rintro e wa ⟨rfl, ha⟩; have Ha := hid_into ha; clear ha H9)
          | (refine wpList_neq28 (by kernel_rfl) (.tmp 169) (.tmp 171) rfl cs cs true HEq rfl rfl ?_))
        go_roundw
        case rel => exact ⟨M + 1, t2, by omega, by go_num, rfl, rfl, rfl, rfl, HN2, Ha⟩
        case measure => simp [intOf]; omega
      · have hf' : ((t2.x.sure G).frame == (t2.y.sure G).frame) = false := by simp [hf]
        generalize stV (t2.x.sure G) = cs at *
        generalize stV (t2.y.sure G) = ds at *
        generalize (t2.x.sure G).frame = fr at *
        generalize (t2.y.sure G).frame = fs at *
        clear gX gY hf
        go_wp2_with (first
          | (go_at_call 20; refine (CX.out _ HT2.out).mono ?_; rintro e w7 ⟨rfl, h7⟩; have H7 := hid_into h7; clear h7 HT2)
          | (go_at_call 20; refine (CY.out _ H7.out).mono ?_; rintro e w8 ⟨rfl, h8⟩; have H8 := hid_into h8; clear h8 H7))
        go_roundw
        case rel => exact ⟨M + 1, t2, by omega, by go_num, rfl, rfl, rfl, rfl, HN2, H8⟩
        case measure => simp [intOf]; omega
    · have HM4 := hid_into (show M = 400 by omega)
      have hge : ¬ (M : Int) < 400 := by omega
      clear hlt hM
      have HR : Hid (lp ≤ 100 → (t.x.sure G) = allW G xa xb xa.length ∧ (t.y.sure G) = allW G xa xb xa.length) := fun hp => by
        have := trun_end HT0.out HI.out (ps := ps) (by rw [HPL.out]; exact hp) H40.out
        have e : t = trun G xa xb ps t0 400 := by rw [HE.out, HM4.out]
        rw [← e] at this
        exact this
      have hx := HAL.out.1
      generalize hLx : xa.length = LL at C25 HR HWF
      rw [hx] at hLx
      subst hLx
      have HBz := hid_into HT.out.m.b
      clear HE
      obtain ⟨U, rfl⟩ : ∃ U : World, U = wr := ⟨_, rfl⟩
      go_wp2_with fail
      go_loopw [25, 26] (fun vl vn wr => ∃ (m : Nat) (av : Option Addr) (cv : Nat), m ≤ la ∧ vn = .int .i64 (m : Int) ∧ vl = .slice av m cv ∧ Hid (Po wr U.heap.size (.slice av m cv) (frst (fun k => (gd xa k, gd xb k)) m) ∧ Below U.heap.size U wr)) (fun _ vn _ => la - (intOf vn).toNat)
      case atStart => exact ⟨0, none, 0, Nat.zero_le _, rfl, rfl, Po.nil _ _, Below.refl _ _⟩
      case round =>
        obtain ⟨m, av, cv, hm, rfl, rfl, HP⟩ := hrel
        have HB := hid_into (HBz.out.trans (HP.out.2.mono HBz.out.size))
        by_cases hml : m < la
        · have hml' : (m : Int) < (la : Int) := by omega
          obtain ⟨ga, oa, rfl, _⟩ := (HRA.out _ HB.out).at' m (gd xa m) (by unfold gd; simp [List.getD, List.getElem?_eq_getElem (show m < xa.length by rw [HAL.out.1]; omega)])
          obtain ⟨gb, ob, rfl, _⟩ := (HRB.out _ HB.out).at' m (gd xb m) (by unfold gd; simp [List.getD, List.getElem?_eq_getElem (show m < xb.length by rw [HAL.out.2]; omega)])
          have CX : Hid (∀ W, Below w1.heap.size w1 W → W.cell? ⟨ga, oa + m, none⟩ = some (.int .u16 (gd xa m)) ∧ W.cell? ⟨gb, ob + m, none⟩ = some (.int .u16 (gd xb m))) := by
            intro W hW
            obtain ⟨ga', oa', ea, ca⟩ := (HRA.out W hW).at' m (gd xa m) (by unfold gd; simp [List.getD, List.getElem?_eq_getElem (show m < xa.length by rw [HAL.out.1]; omega)])
            obtain ⟨gb', ob', eb, cb⟩ := (HRB.out W hW).at' m (gd xb m) (by unfold gd; simp [List.getD, List.getElem?_eq_getElem (show m < xb.length by rw [HAL.out.2]; omega)])
            cases ea
            cases eb
            have da := ca 0 _ rfl
            have db := cb 0 _ rfl
            simp only [Nat.mul_one, Nat.add_zero] at da db
            exact ⟨da, db⟩
          obtain ⟨v', w', hr, h2, h3⟩ := app1 (gd xa m) (gd xb m) HP.out.1 (by rw [frst_len]; omega) HP.out.2.size (wr.alloc (.cells #[.int .u16 (gd xa m), .int .u16 (gd xb m)] 62)).drew rfl ((Below.refl _ _).alloc HP.out.2.size _).drew
          have h2' : Po w' U.heap.size v' (frst (fun k => (gd xa k, gd xb k)) (m + 1)) := by rw [frst_succ]; exact h2
          obtain ⟨av2, cv2, hv2⟩ := h2'.form
          rw [frst_len] at hv2
          subst hv2
          have H2 := hid_into h2'
          have H3 := hid_into (HP.out.2.trans h3)
          have HB3 := hid_into (HBz.out.trans (H3.out.mono HBz.out.size))
          have HB2 : Below w1.heap.size w1 (wr.alloc (.cells #[.int .u16 (gd xa m), .int .u16 (gd xb m)] 62)).drew := (HB.out.alloc HB.out.size _).drew
          have t0 := hid_into (CX.out _ HB.out)
          have t1 := hid_into (CX.out _ HB2)
          have t2 := hid_into (CX.out _ HB3.out)
          have HR1 := hid_into hr
          clear h2 h2' h3 HB2 hr CX
          generalize gd xa m = x at *
          generalize gd xb m = y at *
          go_wp2_with fail
          go_region_held3 (fun u => u.cell? ⟨ga, oa + m, none⟩ = some (.int .u16 x) ∧ u.cell? ⟨gb, ob + m, none⟩ = some (.int .u16 y)) (first | exact t0.out | exact t1.out | exact t2.out)
            (first | (refine step_append_eq rfl 60 (.tmp 180) (.tmp 190) rfl _ _ _ (by rfl) (by rfl) HR1.out ?_))
          go_wp2_with fail
          go_roundw
          case rel => exact ⟨m + 1, av2, cv2, by omega, by go_num, rfl, H2.out, H3.out⟩
          case measure => simp [intOf]; omega
        · obtain rfl : m = la := by omega
          clear hml hm HRA HRB HRP HT0 HI H40 HAL HPL h40' h40n
          have HKq := hid_into (HKB.out _ HB.out)
          have HT9a := hid_into (HT.out.next HP.out.2)
          have wf := HWF.out
          have HN := st_size wf
          have HL := st_len wf
          have HO := st_one wf
          have HEq : Hid (∀ W : World, (Op.equalIn 10000 48 (.agg (stV (allW G xa xb m)).toArray) (.agg (stV (allW G xa xb m)).toArray)).run Tryz.prog W = .ok true W) := fun W => by have := run_eqS _ _ wf wf W; rw [eqS_same] at this; exact this
          have HZ : Hid ((Tryz.prog.info? 48).bind (·.zero) = some (.agg zeroS.toArray)) := Tryz.zero48
          have ZS := zeroS_size
          have HRR : Hid (lp ≤ 100 → stV (t.x.sure G) = stV (allW G xa xb m) ∧ stV (t.y.sure G) = stV (allW G xa xb m)) := fun hp => by rw [(HR.out hp).1, (HR.out hp).2]; exact ⟨rfl, rfl⟩
          clear wf HWF HR
          generalize stV (allW G xa xb m) = cs at *
          go_wp2_with (first
            | (refine wpList_load_rwG (by kernel_rfl) 24 (.tmp 5) rfl w.heap.size [.slice ac l.length cp, .int .i64 cap, .int .i64 fuel] 24 _ rfl ?_ Tryz.underlying24 rfl H24 ?_; exact HKq.out)
            | (go_at_call 25; refine (C25.out _ _ HB.out HP.out.1.ls).mono ?_; rintro e w7 ⟨rfl, B7⟩; have HB7 := hid_into B7; clear B7)
            | (refine wpList_alloc_row rfl 48 rfl zeroS HZ.out ?_; intro W8 hn8 B8 _)
            | (refine wpList_store_rw rfl 48 (.tmp 27) (.tmp 197) rfl w7.heap.size zeroS cs 48 rfl rfl ?_ ZS HL HO.out ?_; exact hn8; intro W9 hn9 O9; have HB9 := hid_into (HB7.out.trans ((B8.trans (O9.below (Nat.le_refl _))).mono HB7.out.size)); have HN9 := hid_into hn9; clear B8 O9 hn8 hn9))
          have HT9 := hid_into (HT9a.out.next HB9.out)
          have CX : Hid (∀ V, Below W9.heap.size W9 V → Calls Tryz.prog 20 #[.pointer (some ⟨X.sb, 0, none⟩)] V fun e w' => e = .returned (.agg (stV (t.x.sure G)).toArray) ∧ Below V.heap.size V w') := fun V hV => (HT9.out.next hV).m.sx.Sure
          have CY : Hid (∀ V, Below W9.heap.size W9 V → Calls Tryz.prog 20 #[.pointer (some ⟨Y.sb, 0, none⟩)] V fun e w' => e = .returned (.agg (stV (t.y.sure G)).toArray) ∧ Below V.heap.size V w') := fun V hV => (HT9.out.next hV).m.sy.Sure
          have HG9 : Hid (∀ V, Below W9.heap.size W9 V → Below w.heap.size w V) := fun V hV => hgrow.out V (HT9.out.m.b.trans (hV.mono HT9.out.m.b.size))
          generalize hwb : w7.heap.size = wb at *
          clear hwb
          have HSk : Hid (∀ V, Below W9.heap.size W9 V → V.rangeAt wb 0 cs) := fun V hV => (HN9.out.below hV HN9.out.lt).range
          clear HT9 HT9a HB9 HN9 HKq HP HB HT HBz HKB hgrow C25
          have S0 := HSk.out W9.drew (Below.refl _ _).drew
          have HB0 : Hid (Below W9.heap.size W9 W9.drew) := (Below.refl _ _).drew
          by_cases hp : lp ≤ 100
          · have hp' : ¬ (100 : Int) < (lp : Int) := by omega
            obtain ⟨q1, q2⟩ := HRR.out hp
            rw [q1] at CX
            rw [q2] at CY
            clear q1 q2 HRR hp
            refine wp_region_held (S := fun V => V.rangeAt wb 0 cs) (by kernel_rfl) ?_
            change wpAnyH _ _ _ _ _ _ _ _ (World.drew _)
            refine wpAnyH_take (i := 0) (v := .slice ap lp cpp) rfl (by kernel_rfl) (by kernel_rfl) (by kernel_rfl) (fun _ _ _ h => h) (Or.inl ⟨by kernel_rfl, by intro V _; go_simp⟩) S0 ?_
            refine wpAnyH_take (i := 1) (v := .int .i64 (lp : Int)) rfl (by kernel_rfl) (by kernel_rfl) (by kernel_rfl) (fun _ _ _ h => h) (Or.inl ⟨by kernel_rfl, by intro V _; go_simp⟩) S0 ?_
            refine wpAnyH_take (i := 2) (v := .bool false) rfl (by kernel_rfl) (by kernel_rfl) (by kernel_rfl) (fun _ _ _ h => h) (Or.inl ⟨by kernel_rfl, by intro V _; go_simp⟩) S0 ?_
            refine wpAnyH_take (i := 3) (v := .bool false) rfl (by kernel_rfl) (by kernel_rfl) (by kernel_rfl) (fun _ _ _ h => h) (Or.inl ⟨by kernel_rfl, by intro V _; go_simp⟩) S0 ?_
            simp only [List.getElem_toArray, List.getElem_cons_zero, List.getElem_cons_succ, Act.put, List.setIfInBounds_toArray, List.set_cons_zero, List.set_cons_succ]
            refine wpAnyH_take (i := 4) (v := .pointer (some ⟨X.sb, 0, none⟩)) rfl (by kernel_rfl) (by kernel_rfl) (by kernel_rfl) (fun _ _ _ h => h) (Or.inl ⟨by kernel_rfl, by intro V _; go_simp⟩) S0 ?_
            refine wpAnyH_take (i := 6) (v := .agg cs.toArray) rfl (by kernel_rfl) (by kernel_rfl) (by kernel_rfl) (fun _ _ _ h => h) (yieldsIf_load_mid (by kernel_rfl) 48 (.tmp 27) rfl wb 0 (by kernel_rfl) cs _ (fun V h => h) Tryz.underlying48 rfl HN.out) S0 ?_
            refine wpAnyH_ready (rs := [5]) (by kernel_rfl) (by simp) ?_
            try simp only [List.getElem_toArray, List.getElem_cons_zero, List.getElem_cons_succ, Act.put, List.setIfInBounds_toArray, List.set_cons_zero, List.set_cons_succ]
            refine AllReadyH.cons rfl (fun KK hK => ?_) AllReadyH.nil
            go_simp
            refine (CX.out _ HB0.out).mono ?_
            rintro e wa ⟨rfl, Bx⟩
            have HB1 := hid_into (HB0.out.trans (Bx.mono HB0.out.size))
            have S1 := HSk.out wa HB1.out
            dsimp only
            refine hK.out _ _ (by exact S1) (fun _ => ?_)
            clear hK KK Bx
            refine wpAnyH_take (i := 7) (v := .bool true) rfl (by kernel_rfl) (by kernel_rfl) (by kernel_rfl) (fun _ _ _ h => h) (yieldsIf_eql28 (by kernel_rfl) (.tmp 204) (.tmp 205) rfl cs cs true HEq (by kernel_rfl) (by kernel_rfl)) S1 ?_
            refine wpAnyH_take (i := 8) (v := .bool true) rfl (by kernel_rfl) (by kernel_rfl) (by kernel_rfl) (fun _ _ _ h => h) (Or.inl ⟨by kernel_rfl, by intro V _; go_simp⟩) S1 ?_
            simp only [List.getElem_toArray, List.getElem_cons_zero, List.getElem_cons_succ, Act.put, List.setIfInBounds_toArray, List.set_cons_zero, List.set_cons_succ]
            refine wpAnyH_take (i := 9) (v := .pointer (some ⟨Y.sb, 0, none⟩)) rfl (by kernel_rfl) (by kernel_rfl) (by kernel_rfl) (fun _ _ _ h => h) (Or.inl ⟨by kernel_rfl, by intro V _; go_simp⟩) S1 ?_
            refine wpAnyH_take (i := 11) (v := .agg cs.toArray) rfl (by kernel_rfl) (by kernel_rfl) (by kernel_rfl) (fun _ _ _ h => h) (yieldsIf_load_mid (by kernel_rfl) 48 (.tmp 27) rfl wb 0 (by kernel_rfl) cs _ (fun V h => h) Tryz.underlying48 rfl HN.out) S1 ?_
            refine wpAnyH_ready (rs := [10]) (by kernel_rfl) (by simp) ?_
            try simp only [List.getElem_toArray, List.getElem_cons_zero, List.getElem_cons_succ, Act.put, List.setIfInBounds_toArray, List.set_cons_zero, List.set_cons_succ]
            refine AllReadyH.cons rfl (fun KK hK => ?_) AllReadyH.nil
            go_simp
            refine (CY.out _ HB1.out).mono ?_
            rintro e wc ⟨rfl, Bx⟩
            have HB2 := hid_into (HB1.out.trans (Bx.mono HB1.out.size))
            have S2 := HSk.out wc HB2.out
            dsimp only
            refine hK.out _ _ (by exact S2) (fun _ => ?_)
            clear hK KK Bx
            refine wpAnyH_take (i := 12) (v := .bool true) rfl (by kernel_rfl) (by kernel_rfl) (by kernel_rfl) (fun _ _ _ h => h) (yieldsIf_eql28 (by kernel_rfl) (.tmp 209) (.tmp 210) rfl cs cs true HEq (by kernel_rfl) (by kernel_rfl)) S2 ?_
            refine wpAnyH_take (i := 13) (v := .bool true) rfl (by kernel_rfl) (by kernel_rfl) (by kernel_rfl) (fun _ _ _ h => h) (Or.inl ⟨by kernel_rfl, by intro V _; go_simp⟩) S2 ?_
            refine wpAnyH_take (i := 14) (v := .bool true) rfl (by kernel_rfl) (by kernel_rfl) (by kernel_rfl) (fun _ _ _ h => h) (Or.inl ⟨by kernel_rfl, by intro V _; go_simp⟩) S2 ?_
            refine wpAnyH_take (i := 15) (v := .bool true) rfl (by kernel_rfl) (by kernel_rfl) (by kernel_rfl) (fun _ _ _ h => h) (Or.inl ⟨by kernel_rfl, by intro V _; go_simp⟩) S2 ?_
            simp only [List.getElem_toArray, List.getElem_cons_zero, List.getElem_cons_succ, Act.put, List.setIfInBounds_toArray, List.set_cons_zero, List.set_cons_succ]
            refine wpAnyH_ready (rs := [16]) (by kernel_rfl) (by simp) ?_
            try simp only [List.getElem_toArray, List.getElem_cons_zero, List.getElem_cons_succ, Act.put, List.setIfInBounds_toArray, List.set_cons_zero, List.set_cons_succ]
            refine AllReadyH.cons rfl (fun KK hK => ?_) AllReadyH.nil
            go_simp
            refine (CK.out _).mono ?_
            rintro e wd ⟨rfl, Bx⟩
            have HB3 := hid_into (HB2.out.trans (Bx.mono HB2.out.size))
            have S3 := HSk.out wd HB3.out
            dsimp only
            refine hK.out _ _ (by exact S3) (fun _ => ?_)
            clear hK KK Bx
            refine wpAnyH_take (i := 17) (v := .bool true) rfl (by kernel_rfl) (by kernel_rfl) (by kernel_rfl) (fun _ _ _ h => h) (Or.inl ⟨by kernel_rfl, by intro V _; go_simp⟩) S3 ?_
            refine wpAnyH_take (i := 18) (v := .bool true) rfl (by kernel_rfl) (by kernel_rfl) (by kernel_rfl) (fun _ _ _ h => h) (Or.inl ⟨by kernel_rfl, by intro V _; go_simp⟩) S3 ?_
            simp only [List.getElem_toArray, List.getElem_cons_zero, List.getElem_cons_succ, Act.put, List.setIfInBounds_toArray, List.set_cons_zero, List.set_cons_succ]
            refine wpAnyH_done (by kernel_rfl) ?_ _
            go_wp2_with fail
            go_ret
            exact ⟨rfl, HG9.out _ HB3.out⟩
          · have hp' : (100 : Int) < (lp : Int) := by omega
            clear HRR hp CX CY
            refine wp_region_held (S := fun V => V.rangeAt wb 0 cs) (by kernel_rfl) ?_
            change wpAnyH _ _ _ _ _ _ _ _ (World.drew _)
            refine wpAnyH_take (i := 0) (v := .slice ap lp cpp) rfl (by kernel_rfl) (by kernel_rfl) (by kernel_rfl) (fun _ _ _ h => h) (Or.inl ⟨by kernel_rfl, by intro V _; go_simp⟩) S0 ?_
            refine wpAnyH_take (i := 1) (v := .int .i64 (lp : Int)) rfl (by kernel_rfl) (by kernel_rfl) (by kernel_rfl) (fun _ _ _ h => h) (Or.inl ⟨by kernel_rfl, by intro V _; go_simp⟩) S0 ?_
            refine wpAnyH_take (i := 2) (v := .bool true) rfl (by kernel_rfl) (by kernel_rfl) (by kernel_rfl) (fun _ _ _ h => h) (Or.inl ⟨by kernel_rfl, by intro V _; go_simp⟩) S0 ?_
            refine wpAnyH_take (i := 3) (v := .bool true) rfl (by kernel_rfl) (by kernel_rfl) (by kernel_rfl) (fun _ _ _ h => h) (Or.inl ⟨by kernel_rfl, by intro V _; go_simp⟩) S0 ?_
            simp only [List.getElem_toArray, List.getElem_cons_zero, List.getElem_cons_succ, Act.put, List.setIfInBounds_toArray, List.set_cons_zero, List.set_cons_succ]
            refine wpAnyH_take (i := 4) (v := undef) rfl (by kernel_rfl) (by kernel_rfl) (by kernel_rfl) (fun _ _ _ h => h) (Or.inr ⟨by kernel_rfl, rfl⟩) S0 ?_
            refine wpAnyH_take (i := 5) (v := undef) rfl (by kernel_rfl) (by kernel_rfl) (by kernel_rfl) (fun _ _ _ h => h) (Or.inr ⟨by kernel_rfl, rfl⟩) S0 ?_
            refine wpAnyH_take (i := 6) (v := undef) rfl (by kernel_rfl) (by kernel_rfl) (by kernel_rfl) (fun _ _ _ h => h) (Or.inr ⟨by kernel_rfl, rfl⟩) S0 ?_
            refine wpAnyH_take (i := 7) (v := undef) rfl (by kernel_rfl) (by kernel_rfl) (by kernel_rfl) (fun _ _ _ h => h) (Or.inr ⟨by kernel_rfl, rfl⟩) S0 ?_
            refine wpAnyH_take (i := 8) (v := undef) rfl (by kernel_rfl) (by kernel_rfl) (by kernel_rfl) (fun _ _ _ h => h) (Or.inr ⟨by kernel_rfl, rfl⟩) S0 ?_
            refine wpAnyH_take (i := 9) (v := undef) rfl (by kernel_rfl) (by kernel_rfl) (by kernel_rfl) (fun _ _ _ h => h) (Or.inr ⟨by kernel_rfl, rfl⟩) S0 ?_
            refine wpAnyH_take (i := 10) (v := undef) rfl (by kernel_rfl) (by kernel_rfl) (by kernel_rfl) (fun _ _ _ h => h) (Or.inr ⟨by kernel_rfl, rfl⟩) S0 ?_
            refine wpAnyH_take (i := 11) (v := undef) rfl (by kernel_rfl) (by kernel_rfl) (by kernel_rfl) (fun _ _ _ h => h) (Or.inr ⟨by kernel_rfl, rfl⟩) S0 ?_
            refine wpAnyH_take (i := 12) (v := undef) rfl (by kernel_rfl) (by kernel_rfl) (by kernel_rfl) (fun _ _ _ h => h) (Or.inr ⟨by kernel_rfl, rfl⟩) S0 ?_
            refine wpAnyH_take (i := 13) (v := undef) rfl (by kernel_rfl) (by kernel_rfl) (by kernel_rfl) (fun _ _ _ h => h) (Or.inr ⟨by kernel_rfl, rfl⟩) S0 ?_
            refine wpAnyH_take (i := 14) (v := .bool true) rfl (by kernel_rfl) (by kernel_rfl) (by kernel_rfl) (fun _ _ _ h => h) (Or.inl ⟨by kernel_rfl, by intro V _; go_simp⟩) S0 ?_
            refine wpAnyH_take (i := 15) (v := .bool true) rfl (by kernel_rfl) (by kernel_rfl) (by kernel_rfl) (fun _ _ _ h => h) (Or.inl ⟨by kernel_rfl, by intro V _; go_simp⟩) S0 ?_
            simp only [List.getElem_toArray, List.getElem_cons_zero, List.getElem_cons_succ, Act.put, List.setIfInBounds_toArray, List.set_cons_zero, List.set_cons_succ]
            refine wpAnyH_ready (rs := [16]) (by kernel_rfl) (by simp) ?_
            refine AllReadyH.cons rfl (fun KK hK => ?_) AllReadyH.nil
            go_simp
            refine (CK.out _).mono ?_
            rintro e wa ⟨rfl, Bx⟩
            have HB1 := hid_into (HB0.out.trans (Bx.mono HB0.out.size))
            have S1 := HSk.out wa HB1.out
            dsimp only
            refine hK.out _ _ (by exact S1) (fun _ => ?_)
            clear hK KK Bx
            refine wpAnyH_take (i := 17) (v := .bool true) rfl (by kernel_rfl) (by kernel_rfl) (by kernel_rfl) (fun _ _ _ h => h) (Or.inl ⟨by kernel_rfl, by intro V _; go_simp⟩) S1 ?_
            refine wpAnyH_take (i := 18) (v := .bool true) rfl (by kernel_rfl) (by kernel_rfl) (by kernel_rfl) (fun _ _ _ h => h) (Or.inl ⟨by kernel_rfl, by intro V _; go_simp⟩) S1 ?_
            simp only [List.getElem_toArray, List.getElem_cons_zero, List.getElem_cons_succ, Act.put, List.setIfInBounds_toArray, List.set_cons_zero, List.set_cons_succ]
            refine wpAnyH_done (by kernel_rfl) ?_ _
            go_wp2_with fail
            go_ret
            exact ⟨rfl, HG9.out _ HB1.out⟩
end Go.Proofs.YtbfldcieibdapaaGreat
