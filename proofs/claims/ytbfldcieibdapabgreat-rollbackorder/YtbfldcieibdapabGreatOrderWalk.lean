/-
  RollbackOrder, its own walk.
-/
import Derived.Test.YtbfldcieibdapabGreatOrdP
import Derived.Test.YtbfldcieibdapabGreatM34
import Derived.Deep.RegionHeld3
import Derived.Deep.DeepCutAuto
import Derived.Deep.CutBlock
namespace Go.Proofs.YtbfldcieibdapabGreat
open Go.RowKit
set_option maxRecDepth 20000 in
set_option maxHeartbeats 4000000 in
theorem order_bad (cv : Value) (l : List Ii) (cap fuel seed : Int) (am : Option Addr) (lm cm : Nat) (ah : Option Addr) (lh ch : Nat) (ap : Option Addr) (lp cpp : Nat) (w : World) (hl : Ls w cv l) (hbad : slw l.length fuel = true ∨ chkG l cap fuel ≠ 0 ∨ 8 < lm ∨ 12 < lh ∨ cap < (lm : Int) ∨ cap < (lh : Int)) :
    Calls Tryz.prog 3 #[gameV cv cap fuel, .int .u32 seed, .slice am lm cm, .slice ah lh ch, .slice ap lp cpp] w fun e w' => e = .returned (.bool true) ∧ Below w.heap.size w w' := by
  obtain ⟨ac, cp, rfl, hm⟩ := hl.len
  have C9 := hid_into (slow_any ac l.length cp cap fuel (w.alloc (.cells #[.slice ac l.length cp, .int .i64 cap, .int .i64 fuel] 24)))
  have b0 : Below w.heap.size w (w.alloc (.cells #[.slice ac l.length cp, .int .i64 cap, .int .i64 fuel] 24)) := (Below.refl _ _).alloc (Nat.le_refl _) _
  have hl1 : Ls (w.alloc (.cells #[.slice ac l.length cp, .int .i64 cap, .int .i64 fuel] 24)) (.slice ac l.length cp) l := hl.below b0
  have HK1 : Hid (Cw (w.alloc (.cells #[.slice ac l.length cp, .int .i64 cap, .int .i64 fuel] 24)) w.heap.size [.slice ac l.length cp, .int .i64 cap, .int .i64 fuel] 24) := Cw.new w [.slice ac l.length cp, .int .i64 cap, .int .i64 fuel] 24
  have H24 : Hid ((Tryz.prog.info? 24).map (·.size) = some 3) := size24
  have hsz := World.size_alloc w (.cells #[.slice ac l.length cp, .int .i64 cap, .int .i64 fuel] 24)
  have CK := hid_into known_any
  have hgrow : Hid (∀ W, Below (w.alloc (.cells #[.slice ac l.length cp, .int .i64 cap, .int .i64 fuel] 24)).heap.size (w.alloc (.cells #[.slice ac l.length cp, .int .i64 cap, .int .i64 fuel] 24)) W → Below w.heap.size w W) := fun W hW => b0.trans (hW.mono (by rw [hsz]; omega))
  have C24 : Hid (∀ W, Below (w.alloc (.cells #[.slice ac l.length cp, .int .i64 cap, .int .i64 fuel] 24)).heap.size (w.alloc (.cells #[.slice ac l.length cp, .int .i64 cap, .int .i64 fuel] 24)) W → Calls Tryz.prog 6 #[.agg #[.slice ac l.length cp, .int .i64 cap, .int .i64 fuel]] W fun e w' => e = .returned (.int .i64 (chkG l cap fuel)) ∧ Below W.heap.size W w') := fun W hW => rChk_any _ l cap fuel W (hl1.below hW)
  cases hs : slw l.length fuel with
  | true =>
    rw [hs] at C9
    clear hbad C24
    clear hl hl1 hm b0 hsz
    unfold gameV
    go_enter Tryz.func3, Tryz.ntmps3
    go_wp2_with (first
      | (refine wpList_load_rwG (by kernel_rfl) 24 (.tmp 5) rfl w.heap.size [.slice ac l.length cp, .int .i64 cap, .int .i64 fuel] 24 _ rfl ?_ Tryz.underlying24 rfl H24 ?_; exact HK1.out)
      | (go_at_call 5; refine C9.out.mono ?_; rintro e w2 ⟨rfl, B2⟩; have HB2 := hid_into B2; have HK2 := hid_into (HK1.out.below B2 HK1.out.lt); clear B2)
      | (go_at_call 7; refine (CK.out _).mono ?_; rintro e w5 ⟨rfl, B5⟩))
    go_ret
    exact ⟨rfl, hgrow.out _ (HB2.out.trans (B5.mono HB2.out.size))⟩
  | false =>
    rw [hs] at C9
    rcases (Classical.em (chkG l cap fuel = 0)).symm with hc | hc
    · generalize chkG l cap fuel = er at *
      have her : (er != 0) = true := by simp [hc]
      clear hbad hc
      clear hl hl1 hm b0 hsz
      unfold gameV
      go_enter Tryz.func3, Tryz.ntmps3
      go_wp2_with (first
        | (refine wpList_load_rwG (by kernel_rfl) 24 (.tmp 5) rfl w.heap.size [.slice ac l.length cp, .int .i64 cap, .int .i64 fuel] 24 _ rfl ?_ Tryz.underlying24 rfl H24 ?_; exact HK2.out)
        | (refine wpList_load_rwG (by kernel_rfl) 24 (.tmp 5) rfl w.heap.size [.slice ac l.length cp, .int .i64 cap, .int .i64 fuel] 24 _ rfl ?_ Tryz.underlying24 rfl H24 ?_; exact HK1.out)
        | (go_at_call 5; refine C9.out.mono ?_; rintro e w2 ⟨rfl, B2⟩; have HB2 := hid_into B2; have HK2 := hid_into (HK1.out.below B2 HK1.out.lt); clear B2)
        | (go_at_call 6; refine (C24.out _ HB2.out).mono ?_; rintro e w3 ⟨rfl, B3⟩; have HB3 := hid_into (HB2.out.trans (B3.mono HB2.out.size)); have c1 := ((HK2.out.below B3 HK2.out.lt).cell 1).trans rfl; clear B3)
        | (go_at_call 7; refine (CK.out _).mono ?_; rintro e w5 ⟨rfl, B5⟩))
      go_ret
      exact ⟨rfl, hgrow.out _ (HB3.out.trans (B5.mono HB3.out.size))⟩
    · rw [hc] at C24
      by_cases hw1 : (8 : Int) < (lm : Int)
      · clear hbad hc
        clear hl hl1 hm b0 hsz
        unfold gameV
        go_enter Tryz.func3, Tryz.ntmps3
        go_wp2_with (first
          | (refine wpList_load_rwG (by kernel_rfl) 24 (.tmp 5) rfl w.heap.size [.slice ac l.length cp, .int .i64 cap, .int .i64 fuel] 24 _ rfl ?_ Tryz.underlying24 rfl H24 ?_; exact HK2.out)
          | (refine wpList_load_rwG (by kernel_rfl) 24 (.tmp 5) rfl w.heap.size [.slice ac l.length cp, .int .i64 cap, .int .i64 fuel] 24 _ rfl ?_ Tryz.underlying24 rfl H24 ?_; exact HK1.out)
          | (go_at_call 5; refine C9.out.mono ?_; rintro e w2 ⟨rfl, B2⟩; have HB2 := hid_into B2; have HK2 := hid_into (HK1.out.below B2 HK1.out.lt); clear B2)
          | (go_at_call 6; refine (C24.out _ HB2.out).mono ?_; rintro e w3 ⟨rfl, B3⟩; have HB3 := hid_into (HB2.out.trans (B3.mono HB2.out.size)); have c1 := ((HK2.out.below B3 HK2.out.lt).cell 1).trans rfl; clear B3)
          | (go_at_call 7; refine (CK.out _).mono ?_; rintro e w5 ⟨rfl, B5⟩))
        go_ret
        exact ⟨rfl, hgrow.out _ (HB3.out.trans (B5.mono HB3.out.size))⟩
      · have hw1' : ¬ (8 : Int) < (lm : Int) := hw1
        by_cases hw2 : (12 : Int) < (lh : Int)
        · clear hbad hc
          clear hl hl1 hm b0 hsz
          unfold gameV
          go_enter Tryz.func3, Tryz.ntmps3
          go_wp2_with (first
            | (refine wpList_load_rwG (by kernel_rfl) 24 (.tmp 5) rfl w.heap.size [.slice ac l.length cp, .int .i64 cap, .int .i64 fuel] 24 _ rfl ?_ Tryz.underlying24 rfl H24 ?_; exact HK2.out)
            | (refine wpList_load_rwG (by kernel_rfl) 24 (.tmp 5) rfl w.heap.size [.slice ac l.length cp, .int .i64 cap, .int .i64 fuel] 24 _ rfl ?_ Tryz.underlying24 rfl H24 ?_; exact HK1.out)
            | (go_at_call 5; refine C9.out.mono ?_; rintro e w2 ⟨rfl, B2⟩; have HB2 := hid_into B2; have HK2 := hid_into (HK1.out.below B2 HK1.out.lt); clear B2)
            | (go_at_call 6; refine (C24.out _ HB2.out).mono ?_; rintro e w3 ⟨rfl, B3⟩; have HB3 := hid_into (HB2.out.trans (B3.mono HB2.out.size)); have c1 := ((HK2.out.below B3 HK2.out.lt).cell 1).trans rfl; clear B3)
            | (go_at_call 7; refine (CK.out _).mono ?_; rintro e w5 ⟨rfl, B5⟩))
          go_ret
          exact ⟨rfl, hgrow.out _ (HB3.out.trans (B5.mono HB3.out.size))⟩
        · have hw2' : ¬ (12 : Int) < (lh : Int) := hw2
          by_cases hw3 : cap < (lm : Int)
          · clear hbad hc
            clear hl hl1 hm b0 hsz
            unfold gameV
            go_enter Tryz.func3, Tryz.ntmps3
            go_wp2_with (first
              | (refine wpList_load_rwG (by kernel_rfl) 24 (.tmp 5) rfl w.heap.size [.slice ac l.length cp, .int .i64 cap, .int .i64 fuel] 24 _ rfl ?_ Tryz.underlying24 rfl H24 ?_; exact HK2.out)
              | (refine wpList_load_rwG (by kernel_rfl) 24 (.tmp 5) rfl w.heap.size [.slice ac l.length cp, .int .i64 cap, .int .i64 fuel] 24 _ rfl ?_ Tryz.underlying24 rfl H24 ?_; exact HK1.out)
              | (go_at_call 5; refine C9.out.mono ?_; rintro e w2 ⟨rfl, B2⟩; have HB2 := hid_into B2; have HK2 := hid_into (HK1.out.below B2 HK1.out.lt); clear B2)
              | (go_at_call 6; refine (C24.out _ HB2.out).mono ?_; rintro e w3 ⟨rfl, B3⟩; have HB3 := hid_into (HB2.out.trans (B3.mono HB2.out.size)); have c1 := ((HK2.out.below B3 HK2.out.lt).cell 1).trans rfl; clear B3)
              | (go_at_call 7; refine (CK.out _).mono ?_; rintro e w5 ⟨rfl, B5⟩))
            go_ret
            exact ⟨rfl, hgrow.out _ (HB3.out.trans (B5.mono HB3.out.size))⟩
          · have hw3' : ¬ cap < (lm : Int) := hw3
            by_cases hw4 : cap < (lh : Int)
            · clear hbad hc
              clear hl hl1 hm b0 hsz
              unfold gameV
              go_enter Tryz.func3, Tryz.ntmps3
              go_wp2_with (first
                | (refine wpList_load_rwG (by kernel_rfl) 24 (.tmp 5) rfl w.heap.size [.slice ac l.length cp, .int .i64 cap, .int .i64 fuel] 24 _ rfl ?_ Tryz.underlying24 rfl H24 ?_; exact HK2.out)
                | (refine wpList_load_rwG (by kernel_rfl) 24 (.tmp 5) rfl w.heap.size [.slice ac l.length cp, .int .i64 cap, .int .i64 fuel] 24 _ rfl ?_ Tryz.underlying24 rfl H24 ?_; exact HK1.out)
                | (go_at_call 5; refine C9.out.mono ?_; rintro e w2 ⟨rfl, B2⟩; have HB2 := hid_into B2; have HK2 := hid_into (HK1.out.below B2 HK1.out.lt); clear B2)
                | (go_at_call 6; refine (C24.out _ HB2.out).mono ?_; rintro e w3 ⟨rfl, B3⟩; have HB3 := hid_into (HB2.out.trans (B3.mono HB2.out.size)); have c1 := ((HK2.out.below B3 HK2.out.lt).cell 1).trans rfl; clear B3)
                | (go_at_call 7; refine (CK.out _).mono ?_; rintro e w5 ⟨rfl, B5⟩))
              go_ret
              exact ⟨rfl, hgrow.out _ (HB3.out.trans (B5.mono HB3.out.size))⟩
            · exfalso
              rcases hbad with h | h | h | h | h | h
              · rw [hs] at h; cases h
              · exact absurd hc h
              · omega
              · omega
              · omega
              · omega
set_option maxRecDepth 20000 in
set_option maxHeartbeats 16000000 in
theorem order_walk (cv : Value) (l : List Ii) (cap fuel seed : Int) (am : Option Addr) (lm cm : Nat) (xm : List Int) (ah : Option Addr) (lh ch : Nat) (xh : List Int) (ap : Option Addr) (lp cpp : Nat) (ps : List Int) (w : World) (hl : Ls w cv l) (hseed : 0 ≤ seed ∧ seed < 4294967296) (rm : Ax.Rw w 1 St.u16c am lm cm xm) (gm : ∀ z ∈ xm, 0 ≤ z ∧ z < 65536) (rh : Ax.Rw w 1 St.u16c ah lh ch xh) (gh : ∀ z ∈ xh, 0 ≤ z ∧ z < 65536) (rp : Ax.Rw w 1 St.i64c ap lp cpp ps) (_gp : ∀ z ∈ ps, -9223372036854775808 ≤ z ∧ z ≤ 9223372036854775807) :
    Calls Tryz.prog 3 #[gameV cv cap fuel, .int .u32 seed, .slice am lm cm, .slice ah lh ch, .slice ap lp cpp] w fun e w' => e = .returned (.bool true) ∧ Below w.heap.size w w' := by
  by_cases hs : slw l.length fuel = true
  · exact order_bad cv l cap fuel seed am lm cm ah lh ch ap lp cpp w hl (Or.inl hs)
  by_cases hc : chkG l cap fuel = 0
  case neg => exact order_bad cv l cap fuel seed am lm cm ah lh ch ap lp cpp w hl (Or.inr (Or.inl hc))
  by_cases h8 : 8 < lm
  · exact order_bad cv l cap fuel seed am lm cm ah lh ch ap lp cpp w hl (Or.inr (Or.inr (Or.inl h8)))
  by_cases h12 : 12 < lh
  · exact order_bad cv l cap fuel seed am lm cm ah lh ch ap lp cpp w hl (Or.inr (Or.inr (Or.inr (Or.inl h12))))
  by_cases hcm : cap < (lm : Int)
  · exact order_bad cv l cap fuel seed am lm cm ah lh ch ap lp cpp w hl (Or.inr (Or.inr (Or.inr (Or.inr (Or.inl hcm)))))
  by_cases hch : cap < (lh : Int)
  · exact order_bad cv l cap fuel seed am lm cm ah lh ch ap lp cpp w hl (Or.inr (Or.inr (Or.inr (Or.inr (Or.inr hch)))))
  have hlm := rm.len
  have hlh := rh.len
  obtain ⟨ac, cp, rfl, hm⟩ := hl.len
  have C9 := hid_into (slow_any ac l.length cp cap fuel (w.alloc (.cells #[.slice ac l.length cp, .int .i64 cap, .int .i64 fuel] 24)))
  have b0 : Below w.heap.size w (w.alloc (.cells #[.slice ac l.length cp, .int .i64 cap, .int .i64 fuel] 24)) := (Below.refl _ _).alloc (Nat.le_refl _) _
  have hl1 : Ls (w.alloc (.cells #[.slice ac l.length cp, .int .i64 cap, .int .i64 fuel] 24)) (.slice ac l.length cp) l := hl.below b0
  have HK1 : Hid (Cw (w.alloc (.cells #[.slice ac l.length cp, .int .i64 cap, .int .i64 fuel] 24)) w.heap.size [.slice ac l.length cp, .int .i64 cap, .int .i64 fuel] 24) := Cw.new w [.slice ac l.length cp, .int .i64 cap, .int .i64 fuel] 24
  have H24 : Hid ((Tryz.prog.info? 24).map (·.size) = some 3) := size24
  have hsz := World.size_alloc w (.cells #[.slice ac l.length cp, .int .i64 cap, .int .i64 fuel] 24)
  have CK := hid_into known_any
  rw [show slw l.length fuel = false by simpa using hs] at C9
  obtain ⟨w1, hw1⟩ : ∃ w1, w1 = (w.alloc (.cells #[.slice ac l.length cp, .int .i64 cap, .int .i64 fuel] 24)) := ⟨_, rfl⟩
  rw [← hw1] at C9 b0 hl1 HK1 hsz
  have hgrow : Hid (∀ W, Below w1.heap.size w1 W → Below w.heap.size w W) := fun W hW => b0.trans (hW.mono (by rw [hsz]; omega))
  have C24 : Hid (∀ W, Below w1.heap.size w1 W → Calls Tryz.prog 6 #[.agg #[.slice ac l.length cp, .int .i64 cap, .int .i64 fuel]] W fun e w' => e = .returned (.int .i64 0) ∧ Below W.heap.size W w') := fun W hW => by
    have := rChk_any (.slice ac l.length cp) l cap fuel W (hl1.below hW)
    rw [hc] at this
    exact this
  obtain ⟨G, hG⟩ : ∃ G : Gm, G = ⟨l, cap, fuel, seed⟩ := ⟨_, rfl⟩
  have hok : G.Ok := by rw [hG]; exact ⟨hc, hseed⟩
  have e1 : G.l = l := by rw [hG]
  have e2 : G.cap = cap := by rw [hG]
  have e3 : G.fuel = fuel := by rw [hG]
  have e4 : G.seed = seed := by rw [hG]
  have C10 : Hid (∀ W, Below w1.heap.size w1 W → Calls Tryz.prog 8 #[.agg #[.slice ac l.length cp, .int .i64 cap, .int .i64 fuel], .int .u32 seed, .int .i64 0] W fun e w' => ∃ X, e = .returned (.tuple #[.pointer (some ⟨X.sb, 0, none⟩), .int .i64 0]) ∧ Se w' W.heap.size w'.heap.size X G (newS 0 G.cap) ∧ Below W.heap.size W w') := fun W hW => by
    have := New_any W (.slice ac l.length cp) G 0 (by rw [e1]; exact hl1.below hW) hok (Or.inl rfl)
    rw [e2, e3, e4] at this
    rw [e2]
    exact this
  have HPF : Hid (Pf G (newS 0 G.cap) (gd xm) (gd xh) 0 0 ∧ (newS 0 G.cap).me = 0 ∧ Wk (newS 0 G.cap) 0) := ⟨newS_pf hok (Or.inl rfl) _ _, rfl, Wk.new _ _⟩
  have HOK := hid_into hok
  have C25 : Hid (∀ W v, Below w1.heap.size w1 W → Ps W v (frst (fun k => (gd xm k, gd xh k)) (min lm lh)) → Calls Tryz.prog 11 #[.agg #[.slice ac l.length cp, .int .i64 cap, .int .i64 fuel], .int .u32 seed, v] W fun e w' => e = .returned (.tuple #[.agg (stV (endG G.l G.cap G.fuel (startS G.seed) (frst (fun k => (gd xm k, gd xh k)) (min lm lh)))).toArray, .int .i64 0]) ∧ Below W.heap.size W w') := fun W v hW hv => by
    have g := rPlay_any (.slice ac l.length cp) l cap fuel seed v _ W (hl1.below hW) hv (frst_in (f := (fun k => (gd xm k, gd xh k))) (fun k => ⟨gd_in gm k, gd_in gh k⟩) _) hseed (by rw [frst_len]; omega)
    have e : playE l cap fuel seed (frst (fun k => (gd xm k, gd xh k)) (min lm lh)) = (endG G.l G.cap G.fuel (startS G.seed) (frst (fun k => (gd xm k, gd xh k)) (min lm lh)), 0) := by
      unfold playE
      rw [if_pos hc, e1, e2, e3, e4]
    rw [e] at g
    exact g
  have HRM := hid_into (fun W (hW : Below w1.heap.size w1 W) => rm.below (hgrow.out W hW) (Nat.le_refl _))
  have HRH := hid_into (fun W (hW : Below w1.heap.size w1 W) => rh.below (hgrow.out W hW) (Nat.le_refl _))
  have HRP := hid_into (fun W (hW : Below w1.heap.size w1 W) => rp.below (hgrow.out W hW) (Nat.le_refl _))
  have hpm : (lp : Int) ≤ 9223372036854775807 := by have := rp.le; have := rp.mx; unfold maxLen at this; omega
  have HPL : Hid (ps.length = lp) := rp.len
  have HAL : Hid (xm.length = lm ∧ xh.length = lh) := ⟨hlm, hlh⟩
  have HGM := hid_into gm
  have HGH := hid_into gh
  have HCM : Hid ((lm : Int) ≤ G.cap ∧ (lh : Int) ≤ G.cap) := by rw [e2]; exact ⟨by omega, by omega⟩
  have h8n : ¬ (8 : Int) < (lm : Int) := by omega
  have h12n : ¬ (12 : Int) < (lh : Int) := by omega
  have h8' : (lm : Int) ≤ 8 := by omega
  have h12' : (lh : Int) ≤ 12 := by omega
  generalize newS 0 G.cap = s0 at *
  clear hl hl1 hm b0 hsz hs hc e1 e2 e3 e4 hG hseed rm rh rp gm gh hok h8 h12 hlm hlh
  unfold gameV
  go_enter Tryz.func3, Tryz.ntmps3
  go_upto_region 1 with fail
  rw [← hw1]
  clear hw1
  go_wp2_with (first
    | (refine wpList_load_rwG (by kernel_rfl) 24 (.tmp 5) rfl w.heap.size [.slice ac l.length cp, .int .i64 cap, .int .i64 fuel] 24 _ rfl ?_ Tryz.underlying24 rfl H24 ?_; exact HK4.out)
    | (refine wpList_load_rwG (by kernel_rfl) 24 (.tmp 5) rfl w.heap.size [.slice ac l.length cp, .int .i64 cap, .int .i64 fuel] 24 _ rfl ?_ Tryz.underlying24 rfl H24 ?_; exact HK3.out)
    | (refine wpList_load_rwG (by kernel_rfl) 24 (.tmp 5) rfl w.heap.size [.slice ac l.length cp, .int .i64 cap, .int .i64 fuel] 24 _ rfl ?_ Tryz.underlying24 rfl H24 ?_; exact HK2.out)
    | (refine wpList_load_rwG (by kernel_rfl) 24 (.tmp 5) rfl w.heap.size [.slice ac l.length cp, .int .i64 cap, .int .i64 fuel] 24 _ rfl ?_ Tryz.underlying24 rfl H24 ?_; exact HK1.out)
    | (go_at_call 5; refine C9.out.mono ?_; rintro e w2 ⟨rfl, B2⟩; have HB2 := hid_into B2; have HK2 := hid_into (HK1.out.below B2 HK1.out.lt); clear B2)
    | (go_at_call 6; refine (C24.out _ HB2.out).mono ?_; rintro e w3 ⟨rfl, B3⟩; have HB3 := hid_into (HB2.out.trans (B3.mono HB2.out.size)); have HK3 := hid_into (HK2.out.below B3 HK2.out.lt); have c1 := (HK3.out.cell 1).trans rfl; clear B3)
    | (go_at_call 8; refine (C10.out _ HB3.out).mono ?_; rintro e w4 ⟨X, rfl, S4, B4⟩; have HS4 := hid_into S4; have HB4 := hid_into (HB3.out.trans (B4.mono HB3.out.size)); have HK4 := hid_into (HK3.out.below B4 HK3.out.lt); clear B4 S4)
    | (go_at_call 8; have HS4' := HS4; refine (C10.out _ HB4.out).mono ?_; rintro e w5 ⟨Y, rfl, S5, B5⟩; have HS5 := hid_into S5; have HB5 := hid_into B5; clear B5 S5 C10))
  have HT : Hid (Bp w1 w5 w3.heap.size w4.heap.size X w4.heap.size w5.heap.size Y G s0 s0) := ⟨HS4.out.below HB5.out, HS5.out, HB4.out.trans (HB5.out.mono HB4.out.size), HB3.out.size, Nat.le_refl _⟩
  have HKB : Hid (∀ W, Below w1.heap.size w1 W → Cw W w.heap.size [.slice ac l.length cp, .int .i64 cap, .int .i64 fuel] 24) := fun W hW => HK1.out.below hW HK1.out.lt
  generalize w3.heap.size = lo at *
  generalize w4.heap.size = hi at *
  generalize hhi2 : w5.heap.size = hi2 at *
  clear hhi2 C9 C24 HB2 HB3 HB4 HB5 HS4 HS5 HK1 HK2 HK3 HK4 c1
  have HP0 := hid_into HPF.out.1
  have HME := hid_into HPF.out.2.1
  have HW0 := hid_into HPF.out.2.2
  clear HPF
  go_loopw [15] (fun vi wr => ∃ (k : Nat) (s : Sa), k ≤ lm ∧ vi = .int .i64 (k : Int) ∧ Hid (Bp w1 wr lo hi X hi hi2 Y G s s) ∧ Hid (Pf G s (gd xm) (gd xh) k 0) ∧ Hid (s.me = 0) ∧ Hid (Wk s k)) (fun vi _ => lm - (intOf vi).toNat)
  case atStart => exact ⟨0, s0, Nat.zero_le _, rfl, HT, HP0, HME, HW0⟩
  case round =>
    clear HT HP0 HME HW0
    obtain ⟨k, s, hk, rfl, HT, HP, HME, HW⟩ := hrel
    by_cases hlt : k < lm
    · have hlt' : (k : Int) < (lm : Int) := by omega
      obtain ⟨g, off, rfl, _⟩ := (HRM.out _ HT.out.b).at' k (gd xm k) (by unfold gd; simp [List.getD, List.getElem?_eq_getElem (show k < xm.length by rw [HAL.out.1]; omega)])
      have CX : Hid (∀ W, Below w1.heap.size w1 W → W.cell? ⟨g, off + k, none⟩ = some (.int .u16 (gd xm k))) := by
        intro W hW
        obtain ⟨g2, o2, e2, c2⟩ := (HRM.out W hW).at' k (gd xm k) (by unfold gd; simp [List.getD, List.getElem?_eq_getElem (show k < xm.length by rw [HAL.out.1]; omega)])
        cases e2
        have d := c2 0 _ rfl
        simp only [Nat.mul_one, Nat.add_zero] at d
        exact d
      have d0 := CX.out _ HT.out.b
      have hx := gd_in HGM.out k
      have CGA : Hid (Calls Tryz.prog 9 #[.pointer (some ⟨X.sb, 0, none⟩), .int .u16 (gd xm k)] wr fun e w' => e = .returned (.tuple #[.int .i64 (locA s G).1, .int .i64 (locA s G).2]) ∧ Bp w1 w' lo hi X hi hi2 Y G (locS s G (gd xm k)) s) := (HT.out.sx.Local (HW.out.st (by omega)).1 hx).mono (by rintro e w' ⟨rfl, h1, h2⟩; exact ⟨rfl, HT.out.growX h1 h2⟩)
      have CGB : Hid (∀ W u, Bp w1 W lo hi X hi hi2 Y G u s → Calls Tryz.prog 9 #[.pointer (some ⟨Y.sb, 0, none⟩), .int .u16 (gd xm k)] W fun e w' => e = .returned (.tuple #[.int .i64 (locA s G).1, .int .i64 (locA s G).2]) ∧ Bp w1 w' lo hi X hi hi2 Y G u (locS s G (gd xm k))) := fun W u h => (h.sy.Local (HW.out.st (by omega)).1 hx).mono (by rintro e w' ⟨rfl, h1, h2⟩; exact ⟨rfl, h.growY h1 h2⟩)
      have HP2 := hid_into (HP.out.loc HOK.out hx)
      have HW2 := hid_into (HW.out.loc G (gd xm k))
      have HM2 : Hid ((locS s G (gd xm k)).me = 0) := by rw [(locS_me s G _).1]; exact HME.out
      obtain ⟨A1, hA1⟩ : ∃ A1, A1 = (locA s G).1 := ⟨_, rfl⟩
      obtain ⟨A2, hA2⟩ : ∃ A2, A2 = (locA s G).2 := ⟨_, rfl⟩
      rw [← hA1, ← hA2] at CGA
      rw [← hA2] at HP2
      simp only [← hA1, ← hA2] at CGB
      clear hA1 hA2 hx
      generalize locS s G (gd xm k) = s2 at *
      generalize gd xm k = x at *
      by_cases hz : A2 = 0
      · subst hz
        rw [if_pos rfl] at HP2
        go_wp2_with (first
          | (go_at_call 9; refine CGA.out.mono ?_; rintro e w6 ⟨rfl, h6⟩; have H6 := hid_into h6; have d1 := CX.out _ h6.b; clear h6 CGA)
          | (go_at_call 9; refine (CGB.out _ _ H6.out).mono ?_; rintro e w7 ⟨rfl, h7⟩; have H7 := hid_into h7; clear h7 CGB))
        go_roundw
        case rel => exact ⟨k + 1, s2, by omega, by go_num, H7, HP2, HM2, HW2⟩
        case measure => simp [intOf]; omega
      · have hz' : (A2 != 0) = true := by simp [hz]
        clear hz
        go_wp2_with (first
          | (go_at_call 9; refine CGA.out.mono ?_; rintro e w6 ⟨rfl, h6⟩; have H6 := hid_into h6; have d1 := CX.out _ h6.b; clear h6 CGA)
          | (go_at_call 9; refine (CGB.out _ _ H6.out).mono ?_; rintro e w7 ⟨rfl, h7⟩; have H7 := hid_into h7; clear h7 CGB)
          | (go_at_call 7; refine (CK.out _).mono ?_; rintro e w8 ⟨rfl, B8⟩))
        go_ret
        exact ⟨rfl, hgrow.out _ (H7.out.b.trans (B8.mono H7.out.b.size))⟩
    · have hge : ¬ (k : Int) < (lm : Int) := by omega
      have HKL := hid_into (show k = lm by omega)
      clear hlt hk
      obtain ⟨U, rfl⟩ : ∃ U : World, U = wr := ⟨_, rfl⟩
      go_wp2_with fail
      go_loopw [20, 21] (fun vl vn wr => ∃ (n : Nat) (av : Option Addr) (cv : Nat), n ≤ lh ∧ vn = .int .i64 (n : Int) ∧ vl = .slice av n cv ∧ Hid (Ro1 wr U.heap.size (.slice av n cv) (ints n) ∧ Below U.heap.size U wr)) (fun _ vn _ => lh - (intOf vn).toNat)
      case atStart => exact ⟨0, none, 0, Nat.zero_le _, rfl, rfl, Ax.Ro.nil _ _, Below.refl _ _⟩
      case round =>
      obtain ⟨n, av, cv, hn, rfl, rfl, HR0⟩ := hrel
      by_cases hlt : n < lh
      · have hlt' : (n : Int) < (lh : Int) := by omega
        obtain ⟨v', w', hr, h2, h3⟩ := left1 (n : Int) HR0.out.1 (by rw [ints_len]; omega) HR0.out.2.size
        rw [← ints_succ] at h2
        obtain ⟨av2, cv2, hv2, _, _⟩ := h2.form
        rw [ints_len] at hv2
        subst hv2
        have HR1 := hid_into hr
        have H2 := hid_into h2
        have H3 := hid_into (HR0.out.2.trans h3)
        clear hr h2 h3
        go_wp2_with (refine wpList_append_eq (w' := w') rfl 27 (.tmp 124) (.tmp 126) rfl _ _ (.slice av2 (n + 1) cv2) (by rfl) (by rfl) ?_ ?_; exact HR1.out)
        go_roundw
        case rel => exact ⟨n + 1, av2, cv2, by omega, by go_num, rfl, H2.out, H3.out⟩
        case measure => simp [intOf]; omega
      have hge2 : ¬ (n : Int) < (lh : Int) := by omega
      have HNL := hid_into (show n = lh by omega)
      clear hlt hn
      obtain ⟨V, rfl⟩ : ∃ V : World, V = wr := ⟨_, rfl⟩
      have HO0 : Hid (Om w1 V lo hi X hi hi2 Y G s s (ints n) (.slice av n cv) (k + 2 * 0)) := ⟨HT.out.next HR0.out.2, HR0.out.1.base HT.out.sy.z, HW.out, HW.out⟩
      have HPA0 := hid_into HP.out
      have HPB0 : Hid (s.P = k ∧ Kv s (gd xm) (gd xh) ∧ s.me = 0 ∧ s.me = 0) := ⟨HP.out.P, HP.out.kv, HME.out, HME.out⟩
      have HLF0 : Hid (Lf s xh (ints n) 0) := by
        have e : n = xh.length := by rw [HAL.out.2]; exact HNL.out
        rw [e]
        exact Lf.start (fun j => HP.out.free j (Nat.zero_le _))
      have HLN0 : Hid ((ints n).length = n) := ints_len n
      have hk8 : (k : Int) ≤ 8 := by have := HKL.out; omega
      generalize ints n = L0 at *
      clear HR0 HT HP HME HW
      go_wp2_with fail
      go_loopw [20, 22] (fun vl vi wr => ∃ (i : Nat) (a b : Sa) (L : List Int) (n : Nat) (av : Option Addr) (cv : Nat), i ≤ lh ∧ vi = .int .i64 (i : Int) ∧ vl = .slice av n cv ∧ Hid (L.length = n) ∧ Hid (Om w1 wr lo hi X hi hi2 Y G a b L (.slice av n cv) (k + 2 * i)) ∧ Hid (Pf G a (gd xm) (gd xh) k i) ∧ Hid (b.P = k ∧ Kv b (gd xm) (gd xh) ∧ a.me = 0 ∧ b.me = 0) ∧ Hid (Lf b xh L i)) (fun _ vi _ => lh - (intOf vi).toNat)
      case atStart => exact ⟨0, s, s, L0, n, av, cv, Nat.zero_le _, rfl, rfl, HLN0, HO0, HPA0, HPB0, HLF0⟩
      case round =>
      clear HO0 HPA0 HPB0 HLF0 HLN0
      obtain ⟨i, a, b, L, n, av, cv, hi1, rfl, rfl, HLN, HO, HPA, HPB, HLF⟩ := hrel
      by_cases hlt : i < lh
      · have hlt' : (i : Int) < (lh : Int) := by omega
        have hnl : n + i = lh := by have := HLF.out.ln; rw [HLN.out, HAL.out.2] at this; exact this
        have hn0 : 0 < n := by omega
        have hn0' : (0 : Int) < (n : Int) := by omega
        have hn1 : ¬ (n : Int) = 0 := by omega
        have hn2 : ¬ n = 0 := by omega
        have hn12 : (n : Int) ≤ 12 := by omega
        clear hnl
        obtain ⟨gi, oi, rfl, _⟩ := (HRH.out _ HO.out.m.b).at' i (gd xh i) (by unfold gd; simp [List.getD, List.getElem?_eq_getElem (show i < xh.length by rw [HAL.out.2]; omega)])
        have CXi : Hid (∀ W, Below w1.heap.size w1 W → W.cell? ⟨gi, oi + i, none⟩ = some (.int .u16 (gd xh i))) := by
            intro W hW
            obtain ⟨g2, o2, e2, c2⟩ := (HRH.out W hW).at' i (gd xh i) (by unfold gd; simp [List.getD, List.getElem?_eq_getElem (show i < xh.length by rw [HAL.out.2]; omega)])
            cases e2
            have d := c2 0 _ rfl
            simp only [Nat.mul_one, Nat.add_zero] at d
            exact d
        have d0 := CXi.out _ HO.out.m.b
        have CA := hid_into (HO.out.remA (by omega) (i := i) (by omega) (gd_in HGH.out i))
        have HX := hid_into (rem_or HPA.out.ok HOK.out (i := i) (by have := HCM.out.2; omega) (by omega) (HPA.out.free i (Nat.le_refl _)) (gd xh i))
        have HA2 := hid_into (HPA.out.rem (gd_in HGH.out i))
        have HAM : Hid ((remS a G (i : Int) (gd xh i)).me = 0) := by rw [(remS_me a G _ _).1]; exact HPB.out.2.2.1
        generalize remA a G (i : Int) (gd xh i) = X0 at *
        generalize remS a G (i : Int) (gd xh i) = a2 at *
        generalize gd xh i = xi at *
        clear HPA
        go_upto_if 147 with (go_at_call 10; refine CA.out.mono ?_; rintro e w6 ⟨rfl, h6⟩; have H6 := hid_into h6; clear h6 CA)
        go_cut [24] (fun kv wx => ∃ K : Nat, K < n ∧ kv = .int .i64 (K : Int) ∧ w6 = wx)
        case first =>
          as_aux_lemma =>
            by_cases hp : i < lp
            · have hp' : (i : Int) < (lp : Int) := by omega
              obtain ⟨z, hz⟩ : ∃ z, ps[i]? = some z := ⟨_, List.getElem?_eq_getElem (by rw [HPL.out]; exact hp)⟩
              obtain ⟨g, off, rfl, ct⟩ := (HRP.out _ H6.out.m.b).at' i z hz
              have d1 := ct 0 _ rfl
              simp only [Nat.mul_one, Nat.add_zero] at d1
              clear ct hz
              obtain ⟨Q, hQ⟩ : ∃ Q : Nat, bits .and .i64 z 1023 = (Q : Int) := ⟨_, bits_and z 1023 (by decide)⟩
              obtain ⟨K, hKe, hK⟩ : ∃ K : Nat, K = Q % n ∧ K < n := ⟨_, rfl, Nat.mod_lt _ hn0⟩
              have hT : (Q : Int).tmod (n : Int) = (K : Int) := by rw [hKe]; rfl
              clear hKe
              go_wp2_with fail
              go_meet
              exact ⟨K, hK, rfl, rfl⟩
            · have hp' : ¬ (i : Int) < (lp : Int) := by omega
              go_wp2_with fail
              go_meet
              exact ⟨n - 1, by omega, by rw [show ((n - 1 : Nat) : Int) = (n : Int) - 1 by omega], rfl⟩
        case rest =>
        obtain ⟨K, hK, rfl, rfl⟩ := hcut
        obtain ⟨A, t, C, hL, hA⟩ := cut_at (L := L) (K := K) (by rw [HLN.out]; exact hK)
        have hLK : L[K]? = some t := by rw [hL, ← hA]; simp
        obtain ⟨j, rfl, hjl⟩ := HLF.out.lin t (List.mem_of_getElem? hLK)
        obtain ⟨g, rfl, hcv1, hcv2⟩ := H6.out.form (by rintro rfl; simp at hLK)
        rw [HLN.out] at hcv1
        unfold maxLen at hcv2
        have HLK := hid_into hLK
        have HLL := hid_into hL
        have HAA := hid_into hA
        clear hLK hL hA
        have hjl' : j < lh := by rw [← HAL.out.2]; exact hjl
        have hjl2 : (j : Int) < (lh : Int) := by omega
        have hK2 : (K : Int) < (n : Int) := by omega
        have CXj : Hid (∀ W, Below w1.heap.size w1 W → W.cell? ⟨gi, oi + j, none⟩ = some (.int .u16 (gd xh j))) := by
          intro W hW
          obtain ⟨g2, o2, e2, c2⟩ := (HRH.out W hW).at' j (gd xh j) (by unfold gd; simp [List.getD, List.getElem?_eq_getElem (show j < xh.length by rw [HAL.out.2]; omega)])
          cases e2
          have d := c2 0 _ rfl
          simp only [Nat.mul_one, Nat.add_zero] at d
          exact d
        have CB := hid_into ((H6.out.sm (W' := w6.drew) ⟨rfl, rfl, rfl, rfl⟩).remB (by omega) (i := j) (by omega) (gd_in HGH.out j))
        have HY := hid_into (rem_or HO.out.m.sy.ok HOK.out (i := j) (by have := HCM.out.2; omega) (by omega) (HLF.out.free (by rw [HLL.out]; simp)) (gd xh j))
        have HLF' := HLF.out
        rw [HLL.out] at HLF'
        have HL2 := hid_into (fun (h : remA b G (j : Int) (gd xh j) = 0) => HLF'.step HO.out.m.sy.ok h)
        have HB2 : Hid ((remS b G (j : Int) (gd xh j)).P = k ∧ Kv (remS b G (j : Int) (gd xh j)) (gd xm) (gd xh) ∧ a2.me = 0 ∧ (remS b G (j : Int) (gd xh j)).me = 0) := ⟨by rw [(remS_me b G _ _).2]; exact HPB.out.1, HPB.out.2.1.rem HO.out.m.sy.ok j, HAM.out, by rw [(remS_me b G _ _).1]; exact HPB.out.2.2.2⟩
        have t0 := hid_into (And.intro (H6.out.at HLK.out) (CXj.out _ H6.out.m.b))
        generalize remA b G (j : Int) (gd xh j) = Y0 at *
        generalize remS b G (j : Int) (gd xh j) = b2 at *
        generalize gd xh j = xj at *
        clear HLF' HLF HPB HAM d0 CXi HO
        go_wp2_with fail
        go_region_held3 (fun u => u.cell? ⟨g, K, none⟩ = some (.int .i64 (j : Int)) ∧ u.cell? ⟨gi, oi + j, none⟩ = some (.int .u16 xj)) (first | exact t0.out | exact t1.out)
          (first | (go_at_call 10; refine CB.out.mono ?_; rintro e w7 ⟨rfl, h7⟩; have H7 := hid_into h7; have t1 := hid_into (And.intro (h7.at HLK.out) (CXj.out _ h7.m.b)); clear h7 CB))
        go_upto_region 29 with fail
        clear t0 t1 H6
        obtain ⟨W9, hW9⟩ : ∃ W9 : World, W9 = w7 := ⟨_, rfl⟩
        subst hW9
        go_cut [20] (fun vl wx => ∃ (av3 : Option Addr) (cv3 : Nat), vl = .slice av3 (A ++ C).length cv3 ∧ Hid (Om w1 wx lo hi X hi hi2 Y G a2 b2 (A ++ C) (.slice av3 (A ++ C).length cv3) (k + 2 * i + 1 + 1)))
        case first =>
          as_aux_lemma =>
              have hKA : A.length = K := HAA.out
              have hNN : n = A.length + 1 + C.length := by have := HLN.out; rw [HLL.out] at this; simp only [List.length_append, List.length_cons] at this; omega
              have RT := H7.out.lf
              rw [HLL.out, show (n : Nat) = (A ++ (j : Int) :: C).length by simp only [List.length_append, List.length_cons]; omega] at RT
              obtain ⟨K1, hK1⟩ : ∃ K1, K1 = K + 1 := ⟨_, rfl⟩
              have hKA1 : A.length + 1 = K1 := by omega
              have hwK : IntKind.i64.wrap ((K : Int) + 1) = (K1 : Int) := by rw [IntKind.wrap_i64]; omega
              have hb1 : (0 : Int) ≤ (K1 : Int) := by omega
              have hb2 : (K1 : Int) ≤ (n : Int) := by omega
              have hb3 : (n : Int) ≤ (cv : Int) := by omega
              have hb4 : (0 : Int) ≤ (K : Int) := by omega
              have hb5 : (K : Int) ≤ (cv : Int) := by omega
              have hb6 : K ≤ cv := by omega
              have hb7 : K1 ≤ n := by omega
              by_cases hcp : cv = K1
              · obtain ⟨v1, w1', v2, w2', r1, r2, ho, hb⟩ := releft (W9 := W9) RT rfl (by rw [← HLL.out, HLN.out]; omega) 0 (Or.inr (List.eq_nil_of_length_eq_zero (by omega)))
                rw [hKA1] at r2
                rw [hKA] at r1
                have hCl : C.length = n - K1 := by omega
                rw [hCl] at r2
                have hnc : n = cv := by omega
                subst hcp
                subst hnc
                simp only [Nat.sub_self] at r2
                have X1 := hid_into r1
                have X2 := hid_into r2
                have HF := hid_into (H7.out.left hb ho)
                obtain ⟨av3, cv3, hv3, _, _⟩ := ho.form
                subst hv3
                clear r1 r2 ho hb RT hK1 hCl hNN hKA1
                go_region_held3 (fun _ => True) (trivial)
                  (first
                    | (refine step_append_eq rfl 27 (.tmp 169) (.tmp 172) rfl _ _ _ (by rfl) (by rfl) X1.out ?_)
                    | (refine step_append_eq rfl 27 (.tmp 173) (.tmp 177) rfl _ _ _ (by rfl) (by rfl) X2.out ?_))
                go_wp2_with fail
                go_meet
                exact ⟨av3, cv3, by rw [List.length_append, hKA], HF⟩
              · obtain ⟨v1, w1', v2, w2', r1, r2, ho, hb⟩ := releft (W9 := W9) RT rfl (by rw [← HLL.out, HLN.out]; omega) K1 (Or.inl hKA1.symm)
                rw [hKA1] at r2
                rw [hKA] at r1
                have hCl : C.length = n - K1 := by omega
                rw [hCl] at r2
                have X1 := hid_into r1
                have X2 := hid_into r2
                have HF := hid_into (H7.out.left hb ho)
                obtain ⟨av3, cv3, hv3, _, _⟩ := ho.form
                subst hv3
                clear r1 r2 ho hb RT hK1 hCl hNN hKA1
                go_region_held3 (fun _ => True) (trivial)
                  (first
                    | (refine step_append_eq rfl 27 (.tmp 169) (.tmp 172) rfl _ _ _ (by rfl) (by rfl) X1.out ?_)
                    | (refine step_append_eq rfl 27 (.tmp 173) (.tmp 177) rfl _ _ _ (by rfl) (by rfl) X2.out ?_))
                go_wp2_with fail
                go_meet
                exact ⟨av3, cv3, by rw [List.length_append, hKA], HF⟩

        case rest =>
        obtain ⟨av3, cv3, rfl, HO3⟩ := hcut
        rename World => W8
        clear H7
        rcases HX.out with h0 | h0
        · subst h0
          rw [if_pos rfl] at HA2
          rcases HY.out with h1 | h1
          · subst h1
            have HL3 := hid_into (HL2.out rfl)
            clear HL2 HX HY
            go_wp2_with fail
            go_roundw
            case rel => exact ⟨i + 1, a2, b2, A ++ C, (A ++ C).length, av3, cv3, by omega, by go_num, rfl, hid_into rfl, HO3, HA2, HB2, HL3⟩
            case measure => simp [intOf]; omega
          · subst h1
            clear HL2 HX HY HA2
            go_wp2_with (go_at_call 7; refine (CK.out _).mono ?_; rintro e w8 ⟨rfl, B8⟩)
            go_ret
            exact ⟨rfl, hgrow.out _ (HO3.out.m.b.trans (B8.mono HO3.out.m.b.size))⟩
        · subst h0
          clear HL2 HX HA2
          rcases HY.out with h1 | h1
          · subst h1
            clear HY
            go_wp2_with (go_at_call 7; refine (CK.out _).mono ?_; rintro e w8 ⟨rfl, B8⟩)
            go_ret
            exact ⟨rfl, hgrow.out _ (HO3.out.m.b.trans (B8.mono HO3.out.m.b.size))⟩
          · subst h1
            clear HY
            go_wp2_with (go_at_call 7; refine (CK.out _).mono ?_; rintro e w8 ⟨rfl, B8⟩)
            go_ret
            exact ⟨rfl, hgrow.out _ (HO3.out.m.b.trans (B8.mono HO3.out.m.b.size))⟩
      · have hge3 : ¬ (i : Int) < (lh : Int) := by omega
        have HIL := hid_into (show i = lh by omega)
        clear hlt hi1
        have HONE := as_one HPA.out.ok HO.out.m.sy.ok HPA.out.kv HPB.out.2.1 (by rw [HPB.out.2.2.1, HPB.out.2.2.2]) (by rw [HPA.out.P, HPB.out.1]) (fun j => by
          have h := HLF.out
          rw [show i = xh.length by rw [HAL.out.2]; exact HIL.out] at h
          rw [HPA.out.mark j, h.all j, HAL.out.2, HIL.out])
        have HSU : a.sure G = endG G.l G.cap G.fuel (startS G.seed) (frst (fun k => (gd xm k, gd xh k)) (min lm lh)) := by
          rw [HPA.out.kv.sure, HPA.out.B, HPB.out.2.2.1, HKL.out, HIL.out]
          rfl
        obtain ⟨ns, hns⟩ : ∃ ns, ns = a.now G := ⟨_, rfl⟩
        obtain ⟨q, hq⟩ : ∃ q : Nat, q = In.kn a.h := ⟨_, rfl⟩
        have nwf : ns.Wf := by rw [hns]; exact HO.out.m.sx.nowGs.wf
        have swf := HO.out.m.sx.sureGs.wf
        rw [HSU] at swf
        have CNA : Hid (∀ W, Below wr.heap.size wr W → Calls Tryz.prog 12 #[.pointer (some ⟨X.sb, 0, none⟩)] W fun e w' => e = .returned (.agg (stV ns).toArray) ∧ Below W.heap.size W w') := fun W hW => by rw [hns]; exact (HO.out.next hW).m.sx.Now
        have CNB : Hid (∀ W, Below wr.heap.size wr W → Calls Tryz.prog 12 #[.pointer (some ⟨Y.sb, 0, none⟩)] W fun e w' => e = .returned (.agg (stV ns).toArray) ∧ Below W.heap.size W w') := fun W hW => by rw [hns, HONE.1]; exact (HO.out.next hW).m.sy.Now
        have CSA : Hid (∀ W, Below wr.heap.size wr W → Calls Tryz.prog 13 #[.pointer (some ⟨X.sb, 0, none⟩)] W fun e w' => e = .returned (.agg (stV (endG G.l G.cap G.fuel (startS G.seed) (frst (fun k => (gd xm k, gd xh k)) (min lm lh)))).toArray) ∧ Below W.heap.size W w') := fun W hW => by rw [← HSU]; exact (HO.out.next hW).m.sx.Sure
        have CSB : Hid (∀ W, Below wr.heap.size wr W → Calls Tryz.prog 13 #[.pointer (some ⟨Y.sb, 0, none⟩)] W fun e w' => e = .returned (.agg (stV (endG G.l G.cap G.fuel (startS G.seed) (frst (fun k => (gd xm k, gd xh k)) (min lm lh)))).toArray) ∧ Below W.heap.size W w') := fun W hW => by rw [← HSU, HONE.2.1]; exact (HO.out.next hW).m.sy.Sure
        have CDA : Hid (∀ W, Below wr.heap.size wr W → Calls Tryz.prog 14 #[.pointer (some ⟨X.sb, 0, none⟩)] W fun e w' => e = .returned (.int .i64 (q : Int)) ∧ Below W.heap.size W w') := fun W hW => by rw [hq]; exact (HO.out.next hW).m.sx.Needs.mono (by rintro e w' ⟨rfl, h⟩; exact ⟨rfl, h.below _⟩)
        have CDB : Hid (∀ W, Below wr.heap.size wr W → Calls Tryz.prog 14 #[.pointer (some ⟨Y.sb, 0, none⟩)] W fun e w' => e = .returned (.int .i64 (q : Int)) ∧ Below W.heap.size W w') := fun W hW => by rw [hq, HONE.2.2]; exact (HO.out.next hW).m.sy.Needs.mono (by rintro e w' ⟨rfl, h⟩; exact ⟨rfl, h.below _⟩)
        have HEN : Hid (∀ W : World, (Op.equalIn 10000 44 (.agg (stV ns).toArray) (.agg (stV ns).toArray)).run Tryz.prog W = .ok true W) := fun W => by have := run_eqS _ _ nwf nwf W; rw [eqS_same] at this; exact this
        have HEq : Hid (∀ W : World, (Op.equalIn 10000 44 (.agg (stV (endG G.l G.cap G.fuel (startS G.seed) (frst (fun k => (gd xm k, gd xh k)) (min lm lh)))).toArray) (.agg (stV (endG G.l G.cap G.fuel (startS G.seed) (frst (fun k => (gd xm k, gd xh k)) (min lm lh)))).toArray)).run Tryz.prog W = .ok true W) := fun W => by have := run_eqS _ _ swf swf W; rw [eqS_same] at this; exact this
        have HN := st_size swf
        have HL := st_len swf
        have HOn := st_one swf
        have HZ : Hid ((Tryz.prog.info? 44).bind (·.zero) = some (.agg zeroS.toArray)) := Tryz.zero44
        have ZS := zeroS_size
        have HBO := hid_into HO.out.m.b
        generalize stV (endG G.l G.cap G.fuel (startS G.seed) (frst (fun k => (gd xm k, gd xh k)) (min lm lh))) = cs at *
        generalize stV ns = nc at *
        generalize hM : min lm lh = m0 at C25
        have HM := hid_into hM
        clear hM HSU HONE hns hq nwf swf HO HPA HPB HLF
        obtain ⟨V2, rfl⟩ : ∃ V2 : World, V2 = wr := ⟨_, rfl⟩
        go_upto_block 6 with fail
        go_cut [26] (fun va wx => ∃ (av : Option Addr) (cv : Nat), va = .slice av m0 cv ∧ Hid (Po wx V2.heap.size (.slice av m0 cv) (frst (fun k => (gd xm k, gd xh k)) m0) ∧ Below V2.heap.size V2 wx))
        case first =>
          as_aux_lemma =>
            go_wp2_with fail
            go_loopw [26, 27] (fun va vn wr => ∃ (m : Nat) (av : Option Addr) (cv : Nat), m ≤ m0 ∧ vn = .int .i64 (m : Int) ∧ va = .slice av m cv ∧ Hid (Po wr V2.heap.size (.slice av m cv) (frst (fun k => (gd xm k, gd xh k)) m) ∧ Below V2.heap.size V2 wr)) (fun _ vn _ => m0 - (intOf vn).toNat)
            case atStart => exact ⟨0, none, 0, Nat.zero_le _, rfl, rfl, Po.nil _ _, Below.refl _ _⟩
            case round =>
              obtain ⟨m, av, cv, hm, rfl, rfl, HP⟩ := hrel
              have HB := hid_into (HBO.out.trans (HP.out.2.mono HBO.out.size))
              by_cases hm1 : m < lm
              · have hm1' : (m : Int) < (lm : Int) := by omega
                by_cases hm2 : m < lh
                · have hm2' : (m : Int) < (lh : Int) := by omega
                  obtain ⟨ga, oa, rfl, _⟩ := (HRM.out _ HB.out).at' m (gd xm m) (by unfold gd; simp [List.getD, List.getElem?_eq_getElem (show m < xm.length by rw [HAL.out.1]; omega)])
                  obtain ⟨gb, ob, rfl, _⟩ := (HRH.out _ HB.out).at' m (gd xh m) (by unfold gd; simp [List.getD, List.getElem?_eq_getElem (show m < xh.length by rw [HAL.out.2]; omega)])
                  have CX : Hid (∀ W, Below w1.heap.size w1 W → W.cell? ⟨ga, oa + m, none⟩ = some (.int .u16 (gd xm m)) ∧ W.cell? ⟨gb, ob + m, none⟩ = some (.int .u16 (gd xh m))) := by
                    intro W hW
                    obtain ⟨ga', oa', ea, ca⟩ := (HRM.out W hW).at' m (gd xm m) (by unfold gd; simp [List.getD, List.getElem?_eq_getElem (show m < xm.length by rw [HAL.out.1]; omega)])
                    obtain ⟨gb', ob', eb, cb⟩ := (HRH.out W hW).at' m (gd xh m) (by unfold gd; simp [List.getD, List.getElem?_eq_getElem (show m < xh.length by rw [HAL.out.2]; omega)])
                    cases ea
                    cases eb
                    have da := ca 0 _ rfl
                    have db := cb 0 _ rfl
                    simp only [Nat.mul_one, Nat.add_zero] at da db
                    exact ⟨da, db⟩
                  obtain ⟨v', w', hr, h2, h3⟩ := app1 (gd xm m) (gd xh m) HP.out.1 (by rw [frst_len]; omega) HP.out.2.size (wr.alloc (.cells #[.int .u16 (gd xm m), .int .u16 (gd xh m)] 41)).drew rfl ((Below.refl _ _).alloc HP.out.2.size _).drew
                  have h2' : Po w' V2.heap.size v' (frst (fun k => (gd xm k, gd xh k)) (m + 1)) := by rw [frst_succ]; exact h2
                  obtain ⟨av2, cv2, hv2⟩ := h2'.form
                  rw [frst_len] at hv2
                  subst hv2
                  have H2 := hid_into h2'
                  have H3 := hid_into (HP.out.2.trans h3)
                  have HB3 := hid_into (HBO.out.trans (H3.out.mono HBO.out.size))
                  have HB2 : Below w1.heap.size w1 (wr.alloc (.cells #[.int .u16 (gd xm m), .int .u16 (gd xh m)] 41)).drew := (HB.out.alloc HB.out.size _).drew
                  have t0 := hid_into (CX.out _ HB.out)
                  have t1 := hid_into (CX.out _ HB2)
                  have t2 := hid_into (CX.out _ HB3.out)
                  have HR1 := hid_into hr
                  have HMM : Hid (m + 1 ≤ m0) := by have := HM.out; refine hid_into ?_; omega
                  clear h2 h2' h3 HB2 hr CX
                  generalize gd xm m = x at *
                  generalize gd xh m = y at *
                  go_wp2_with fail
                  go_region_held3 (fun u => u.cell? ⟨ga, oa + m, none⟩ = some (.int .u16 x) ∧ u.cell? ⟨gb, ob + m, none⟩ = some (.int .u16 y)) (first | exact t0.out | exact t1.out | exact t2.out)
                    (first | (refine step_append_eq rfl 39 (.tmp 206) (.tmp 216) rfl _ _ _ (by rfl) (by rfl) HR1.out ?_))
                  go_wp2_with fail
                  go_roundw
                  case rel => exact ⟨m + 1, av2, cv2, HMM, by go_num, rfl, H2.out, H3.out⟩
                  case measure => have := HMM.out; simp [intOf]; omega
                · have hm2' : ¬ (m : Int) < (lh : Int) := by omega
                  have HME2 := hid_into (show m = m0 by have := HM.out; omega)
                  go_wp2_with fail
                  go_meet
                  exact ⟨av, cv, by rw [HME2.out], by rw [← HME2.out]; exact HP⟩
              · have hm1' : ¬ (m : Int) < (lm : Int) := by omega
                have HME2 := hid_into (show m = m0 by have := HM.out; omega)
                go_wp2_with fail
                go_meet
                exact ⟨av, cv, by rw [HME2.out], by rw [← HME2.out]; exact HP⟩
        case rest =>
        obtain ⟨av, cv, rfl, HP⟩ := hcut
        rename World => W9
        have HB9 := hid_into (HBO.out.trans (HP.out.2.mono HBO.out.size))
        have HKq := hid_into (HKB.out _ HB9.out)
        have CQ := hid_into (C25.out W9 _ HB9.out HP.out.1.ls)
        have HP2 := hid_into HP.out.2
        clear HP C25
        go_wp2_with (first
          | (refine wpList_load_rwG (by kernel_rfl) 24 (.tmp 5) rfl w.heap.size [.slice ac l.length cp, .int .i64 cap, .int .i64 fuel] 24 _ rfl ?_ Tryz.underlying24 rfl H24 ?_; exact HKq.out)
          | (go_at_call 11; refine CQ.out.mono ?_; rintro e w7 ⟨rfl, B7⟩; have HB7 := hid_into (HP2.out.trans (B7.mono HP2.out.size)); clear B7)
          | (refine wpList_alloc_row rfl 44 rfl zeroS HZ.out ?_; intro Wa hna Ba _)
          | (refine wpList_store_rw rfl 44 (.tmp 28) (.tmp 223) rfl w7.heap.size zeroS cs 44 rfl rfl ?_ ZS HL HOn.out ?_; exact hna; intro Wb hnb Ob; have HBb := hid_into (HB7.out.trans ((Ba.trans (Ob.below (Nat.le_refl _))).mono HB7.out.size)); have HNb := hid_into hnb; clear Ba Ob hna hnb))
        generalize w7.heap.size = wb at *
        have HSk : Hid (∀ V, Below Wb.heap.size Wb V → V.rangeAt wb 0 cs) := fun V hV => (HNb.out.below hV HNb.out.lt).range
        have HTR : Hid (∀ V, Below Wb.heap.size Wb V → Below V2.heap.size V2 V) := fun V hV => HBb.out.trans (hV.mono HBb.out.size)
        have HG9 : Hid (∀ V, Below Wb.heap.size Wb V → Below w.heap.size w V) := fun V hV => hgrow.out V (HBO.out.trans ((HTR.out V hV).mono HBO.out.size))
        have DNA := hid_into (fun V (hV : Below Wb.heap.size Wb V) => CNA.out V (HTR.out V hV))
        have DNB := hid_into (fun V (hV : Below Wb.heap.size Wb V) => CNB.out V (HTR.out V hV))
        have DSA := hid_into (fun V (hV : Below Wb.heap.size Wb V) => CSA.out V (HTR.out V hV))
        have DSB := hid_into (fun V (hV : Below Wb.heap.size Wb V) => CSB.out V (HTR.out V hV))
        have DDA := hid_into (fun V (hV : Below Wb.heap.size Wb V) => CDA.out V (HTR.out V hV))
        have DDB := hid_into (fun V (hV : Below Wb.heap.size Wb V) => CDB.out V (HTR.out V hV))
        have S0 := HSk.out Wb.drew (Below.refl _ _).drew
        have HB0 : Hid (Below Wb.heap.size Wb Wb.drew) := (Below.refl _ _).drew
        clear CNA CNB CSA CSB CDA CDB HBb HNb HB7 HTR HP2 HB9 HKq HKB hgrow HRM HRH HRP
        refine wp_region_held (S := fun V => V.rangeAt wb 0 cs) (by kernel_rfl) ?_
        change wpAnyH _ _ _ _ _ _ _ _ (World.drew _)
        refine wpAnyH_take (i := 0) (v := .pointer (some ⟨X.sb, 0, none⟩)) rfl (by kernel_rfl) (by kernel_rfl) (by kernel_rfl) (fun _ _ _ h => h) (Or.inl ⟨by kernel_rfl, by intro V _; go_simp⟩) S0 ?_
        refine wpAnyH_take (i := 2) (v := .pointer (some ⟨Y.sb, 0, none⟩)) rfl (by kernel_rfl) (by kernel_rfl) (by kernel_rfl) (fun _ _ _ h => h) (Or.inl ⟨by kernel_rfl, by intro V _; go_simp⟩) S0 ?_
        refine wpAnyH_ready (rs := [1]) (by kernel_rfl) (by simp) ?_
        try simp only [List.getElem_toArray, List.getElem_cons_zero, List.getElem_cons_succ, Act.put, List.setIfInBounds_toArray, List.set_cons_zero, List.set_cons_succ]
        refine AllReadyH.cons rfl (fun KK hK => ?_) AllReadyH.nil
        go_simp
        refine (DNA.out _ HB0.out).mono ?_
        rintro e u1x ⟨rfl, Bx⟩
        have HB1 := hid_into (HB0.out.trans (Bx.mono HB0.out.size))
        have S1 := HSk.out u1x HB1.out
        dsimp only
        refine hK.out _ _ (by exact S1) (fun _ => ?_)
        clear hK KK Bx
        refine wpAnyH_ready (rs := [3]) (by kernel_rfl) (by simp) ?_
        try simp only [List.getElem_toArray, List.getElem_cons_zero, List.getElem_cons_succ, Act.put, List.setIfInBounds_toArray, List.set_cons_zero, List.set_cons_succ]
        refine AllReadyH.cons rfl (fun KK hK => ?_) AllReadyH.nil
        go_simp
        refine (DNB.out _ HB1.out).mono ?_
        rintro e u2x ⟨rfl, Bx⟩
        have HB2 := hid_into (HB1.out.trans (Bx.mono HB1.out.size))
        have S2 := HSk.out u2x HB2.out
        dsimp only
        refine hK.out _ _ (by exact S2) (fun _ => ?_)
        clear hK KK Bx
        refine wpAnyH_take (i := 4) (v := .bool true) rfl (by kernel_rfl) (by kernel_rfl) (by kernel_rfl) (fun _ _ _ h => h) (yieldsIf_eql28 (by kernel_rfl) (.tmp 226) (.tmp 228) rfl nc nc true HEN (by kernel_rfl) (by kernel_rfl)) S2 ?_
        refine wpAnyH_take (i := 5) (v := .bool true) rfl (by kernel_rfl) (by kernel_rfl) (by kernel_rfl) (fun _ _ _ h => h) (Or.inl ⟨by kernel_rfl, by intro V _; go_simp⟩) S2 ?_
        simp only [List.getElem_toArray, List.getElem_cons_zero, List.getElem_cons_succ, Act.put, List.setIfInBounds_toArray, List.set_cons_zero, List.set_cons_succ]
        refine wpAnyH_take (i := 6) (v := .pointer (some ⟨X.sb, 0, none⟩)) rfl (by kernel_rfl) (by kernel_rfl) (by kernel_rfl) (fun _ _ _ h => h) (Or.inl ⟨by kernel_rfl, by intro V _; go_simp⟩) S2 ?_
        refine wpAnyH_take (i := 8) (v := .pointer (some ⟨Y.sb, 0, none⟩)) rfl (by kernel_rfl) (by kernel_rfl) (by kernel_rfl) (fun _ _ _ h => h) (Or.inl ⟨by kernel_rfl, by intro V _; go_simp⟩) S2 ?_
        refine wpAnyH_ready (rs := [7]) (by kernel_rfl) (by simp) ?_
        try simp only [List.getElem_toArray, List.getElem_cons_zero, List.getElem_cons_succ, Act.put, List.setIfInBounds_toArray, List.set_cons_zero, List.set_cons_succ]
        refine AllReadyH.cons rfl (fun KK hK => ?_) AllReadyH.nil
        go_simp
        refine (DSA.out _ HB2.out).mono ?_
        rintro e u3x ⟨rfl, Bx⟩
        have HB3 := hid_into (HB2.out.trans (Bx.mono HB2.out.size))
        have S3 := HSk.out u3x HB3.out
        dsimp only
        refine hK.out _ _ (by exact S3) (fun _ => ?_)
        clear hK KK Bx
        refine wpAnyH_ready (rs := [9]) (by kernel_rfl) (by simp) ?_
        try simp only [List.getElem_toArray, List.getElem_cons_zero, List.getElem_cons_succ, Act.put, List.setIfInBounds_toArray, List.set_cons_zero, List.set_cons_succ]
        refine AllReadyH.cons rfl (fun KK hK => ?_) AllReadyH.nil
        go_simp
        refine (DSB.out _ HB3.out).mono ?_
        rintro e u4x ⟨rfl, Bx⟩
        have HB4 := hid_into (HB3.out.trans (Bx.mono HB3.out.size))
        have S4 := HSk.out u4x HB4.out
        dsimp only
        refine hK.out _ _ (by exact S4) (fun _ => ?_)
        clear hK KK Bx
        refine wpAnyH_take (i := 10) (v := .bool true) rfl (by kernel_rfl) (by kernel_rfl) (by kernel_rfl) (fun _ _ _ h => h) (yieldsIf_eql28 (by kernel_rfl) (.tmp 232) (.tmp 234) rfl cs cs true HEq (by kernel_rfl) (by kernel_rfl)) S4 ?_
        refine wpAnyH_take (i := 11) (v := .bool true) rfl (by kernel_rfl) (by kernel_rfl) (by kernel_rfl) (fun _ _ _ h => h) (Or.inl ⟨by kernel_rfl, by intro V _; go_simp⟩) S4 ?_
        refine wpAnyH_take (i := 12) (v := .bool true) rfl (by kernel_rfl) (by kernel_rfl) (by kernel_rfl) (fun _ _ _ h => h) (Or.inl ⟨by kernel_rfl, by intro V _; go_simp⟩) S4 ?_
        simp only [List.getElem_toArray, List.getElem_cons_zero, List.getElem_cons_succ, Act.put, List.setIfInBounds_toArray, List.set_cons_zero, List.set_cons_succ]
        refine wpAnyH_take (i := 13) (v := .pointer (some ⟨X.sb, 0, none⟩)) rfl (by kernel_rfl) (by kernel_rfl) (by kernel_rfl) (fun _ _ _ h => h) (Or.inl ⟨by kernel_rfl, by intro V _; go_simp⟩) S4 ?_
        refine wpAnyH_take (i := 15) (v := .agg cs.toArray) rfl (by kernel_rfl) (by kernel_rfl) (by kernel_rfl) (fun _ _ _ h => h) (yieldsIf_load_mid (by kernel_rfl) 44 (.tmp 28) rfl wb 0 (by kernel_rfl) cs _ (fun V h => h) Tryz.underlying44 rfl HN.out) S4 ?_
        refine wpAnyH_ready (rs := [14]) (by kernel_rfl) (by simp) ?_
        try simp only [List.getElem_toArray, List.getElem_cons_zero, List.getElem_cons_succ, Act.put, List.setIfInBounds_toArray, List.set_cons_zero, List.set_cons_succ]
        refine AllReadyH.cons rfl (fun KK hK => ?_) AllReadyH.nil
        go_simp
        refine (DSA.out _ HB4.out).mono ?_
        rintro e u5x ⟨rfl, Bx⟩
        have HB5 := hid_into (HB4.out.trans (Bx.mono HB4.out.size))
        have S5 := HSk.out u5x HB5.out
        dsimp only
        refine hK.out _ _ (by exact S5) (fun _ => ?_)
        clear hK KK Bx
        refine wpAnyH_take (i := 16) (v := .bool true) rfl (by kernel_rfl) (by kernel_rfl) (by kernel_rfl) (fun _ _ _ h => h) (yieldsIf_eql28 (by kernel_rfl) (.tmp 239) (.tmp 240) rfl cs cs true HEq (by kernel_rfl) (by kernel_rfl)) S5 ?_
        refine wpAnyH_take (i := 17) (v := .bool true) rfl (by kernel_rfl) (by kernel_rfl) (by kernel_rfl) (fun _ _ _ h => h) (Or.inl ⟨by kernel_rfl, by intro V _; go_simp⟩) S5 ?_
        refine wpAnyH_take (i := 18) (v := .bool true) rfl (by kernel_rfl) (by kernel_rfl) (by kernel_rfl) (fun _ _ _ h => h) (Or.inl ⟨by kernel_rfl, by intro V _; go_simp⟩) S5 ?_
        simp only [List.getElem_toArray, List.getElem_cons_zero, List.getElem_cons_succ, Act.put, List.setIfInBounds_toArray, List.set_cons_zero, List.set_cons_succ]
        refine wpAnyH_take (i := 19) (v := .pointer (some ⟨X.sb, 0, none⟩)) rfl (by kernel_rfl) (by kernel_rfl) (by kernel_rfl) (fun _ _ _ h => h) (Or.inl ⟨by kernel_rfl, by intro V _; go_simp⟩) S5 ?_
        refine wpAnyH_take (i := 21) (v := .pointer (some ⟨Y.sb, 0, none⟩)) rfl (by kernel_rfl) (by kernel_rfl) (by kernel_rfl) (fun _ _ _ h => h) (Or.inl ⟨by kernel_rfl, by intro V _; go_simp⟩) S5 ?_
        refine wpAnyH_ready (rs := [20]) (by kernel_rfl) (by simp) ?_
        try simp only [List.getElem_toArray, List.getElem_cons_zero, List.getElem_cons_succ, Act.put, List.setIfInBounds_toArray, List.set_cons_zero, List.set_cons_succ]
        refine AllReadyH.cons rfl (fun KK hK => ?_) AllReadyH.nil
        go_simp
        refine (DDA.out _ HB5.out).mono ?_
        rintro e u6x ⟨rfl, Bx⟩
        have HB6 := hid_into (HB5.out.trans (Bx.mono HB5.out.size))
        have S6 := HSk.out u6x HB6.out
        dsimp only
        refine hK.out _ _ (by exact S6) (fun _ => ?_)
        clear hK KK Bx
        refine wpAnyH_ready (rs := [22]) (by kernel_rfl) (by simp) ?_
        try simp only [List.getElem_toArray, List.getElem_cons_zero, List.getElem_cons_succ, Act.put, List.setIfInBounds_toArray, List.set_cons_zero, List.set_cons_succ]
        refine AllReadyH.cons rfl (fun KK hK => ?_) AllReadyH.nil
        go_simp
        refine (DDB.out _ HB6.out).mono ?_
        rintro e u7x ⟨rfl, Bx⟩
        have HB7 := hid_into (HB6.out.trans (Bx.mono HB6.out.size))
        have S7 := HSk.out u7x HB7.out
        dsimp only
        refine hK.out _ _ (by exact S7) (fun _ => ?_)
        clear hK KK Bx
        refine wpAnyH_take (i := 23) (v := .bool true) rfl (by kernel_rfl) (by kernel_rfl) (by kernel_rfl) (fun _ _ _ h => h) (Or.inl ⟨by kernel_rfl, by intro V _; go_simp⟩) S7 ?_
        refine wpAnyH_take (i := 24) (v := .bool true) rfl (by kernel_rfl) (by kernel_rfl) (by kernel_rfl) (fun _ _ _ h => h) (Or.inl ⟨by kernel_rfl, by intro V _; go_simp⟩) S7 ?_
        refine wpAnyH_take (i := 25) (v := .bool true) rfl (by kernel_rfl) (by kernel_rfl) (by kernel_rfl) (fun _ _ _ h => h) (Or.inl ⟨by kernel_rfl, by intro V _; go_simp⟩) S7 ?_
        simp only [List.getElem_toArray, List.getElem_cons_zero, List.getElem_cons_succ, Act.put, List.setIfInBounds_toArray, List.set_cons_zero, List.set_cons_succ]
        refine wpAnyH_ready (rs := [26]) (by kernel_rfl) (by simp) ?_
        try simp only [List.getElem_toArray, List.getElem_cons_zero, List.getElem_cons_succ, Act.put, List.setIfInBounds_toArray, List.set_cons_zero, List.set_cons_succ]
        refine AllReadyH.cons rfl (fun KK hK => ?_) AllReadyH.nil
        go_simp
        refine (CK.out _).mono ?_
        rintro e u8x ⟨rfl, Bx⟩
        have HB9x := hid_into (HB7.out.trans (Bx.mono HB7.out.size))
        have S8 := HSk.out u8x HB9x.out
        dsimp only
        refine hK.out _ _ (by exact S8) (fun _ => ?_)
        clear hK KK Bx
        refine wpAnyH_take (i := 27) (v := .bool true) rfl (by kernel_rfl) (by kernel_rfl) (by kernel_rfl) (fun _ _ _ h => h) (Or.inl ⟨by kernel_rfl, by intro V _; go_simp⟩) S8 ?_
        refine wpAnyH_take (i := 28) (v := .bool true) rfl (by kernel_rfl) (by kernel_rfl) (by kernel_rfl) (fun _ _ _ h => h) (Or.inl ⟨by kernel_rfl, by intro V _; go_simp⟩) S8 ?_
        simp only [List.getElem_toArray, List.getElem_cons_zero, List.getElem_cons_succ, Act.put, List.setIfInBounds_toArray, List.set_cons_zero, List.set_cons_succ]
        refine wpAnyH_done (by kernel_rfl) ?_ _
        go_wp2_with fail
        go_ret
        exact ⟨rfl, HG9.out _ HB9x.out⟩
end Go.Proofs.YtbfldcieibdapabGreat
