/-
  RollbackSure, its own walk.
-/
import Derived.Test.YtbfldcieibdapaaGreatRbSure2
import Derived.Deep.RegionHeld3
import Derived.Deep.DeepCutAuto
import Derived.Deep.CutBlock
namespace Go.Proofs.YtbfldcieibdapaaGreat
open Go.RowKit
def ints (n : Nat) : List Int := (List.range n).map fun (i : Nat) => (i : Int)
theorem ints_len (n : Nat) : (ints n).length = n := by simp [ints]
theorem ints_succ (n : Nat) : ints (n + 1) = ints n ++ [(n : Int)] := by simp [ints, List.range_succ]
theorem ints_mem {n : Nat} {z : Int} (h : z ∈ ints n) : ∃ i : Nat, z = (i : Int) ∧ i < n := by
  obtain ⟨i, h1, rfl⟩ := List.mem_map.1 h
  exact ⟨i, rfl, List.mem_range.1 h1⟩
set_option maxRecDepth 20000 in
set_option maxHeartbeats 4000000 in
theorem sure_bad (cv : Value) (l : List Ii) (cap fuel seed me : Int) (am : Option Addr) (lm cm : Nat) (ah : Option Addr) (lh ch : Nat) (ap : Option Addr) (lp cpp : Nat) (w : World) (hl : Ls w cv l) (hbad : slw l.length fuel = true ∨ chkG l cap fuel ≠ 0 ∨ 60 < lm ∨ 60 < lh) :
    Calls Tryz.prog 4 #[gameV cv cap fuel, .int .u32 seed, .int .i64 me, .slice am lm cm, .slice ah lh ch, .slice ap lp cpp] w fun e w' => e = .returned (.bool true) ∧ Below w.heap.size w w' := by
  obtain ⟨ac, cp, rfl, hm⟩ := hl.len
  have C9 := hid_into (slow_any ac l.length cp cap fuel (w.alloc (.cells #[.slice ac l.length cp, .int .i64 cap, .int .i64 fuel] 24)))
  have b0 : Below w.heap.size w (w.alloc (.cells #[.slice ac l.length cp, .int .i64 cap, .int .i64 fuel] 24)) := (Below.refl _ _).alloc (Nat.le_refl _) _
  have hl1 : Ls (w.alloc (.cells #[.slice ac l.length cp, .int .i64 cap, .int .i64 fuel] 24)) (.slice ac l.length cp) l := hl.below b0
  have HK1 : Hid (Cw (w.alloc (.cells #[.slice ac l.length cp, .int .i64 cap, .int .i64 fuel] 24)) w.heap.size [.slice ac l.length cp, .int .i64 cap, .int .i64 fuel] 24) := Cw.new w [.slice ac l.length cp, .int .i64 cap, .int .i64 fuel] 24
  have H24 : Hid ((Tryz.prog.info? 24).map (·.size) = some 3) := size24
  have hsz := World.size_alloc w (.cells #[.slice ac l.length cp, .int .i64 cap, .int .i64 fuel] 24)
  have CK := hid_into known_any
  have hgrow : Hid (∀ W, Below (w.alloc (.cells #[.slice ac l.length cp, .int .i64 cap, .int .i64 fuel] 24)).heap.size (w.alloc (.cells #[.slice ac l.length cp, .int .i64 cap, .int .i64 fuel] 24)) W → Below w.heap.size w W) := fun W hW => b0.trans (hW.mono (by rw [hsz]; omega))
  have C24 : Hid (∀ W, Below (w.alloc (.cells #[.slice ac l.length cp, .int .i64 cap, .int .i64 fuel] 24)).heap.size (w.alloc (.cells #[.slice ac l.length cp, .int .i64 cap, .int .i64 fuel] 24)) W → Calls Tryz.prog 24 #[.agg #[.slice ac l.length cp, .int .i64 cap, .int .i64 fuel]] W fun e w' => e = .returned (.int .i64 (chkG l cap fuel)) ∧ Below W.heap.size W w') := fun W hW => rChk_any _ l cap fuel W (hl1.below hW)
  cases hs : slw l.length fuel with
  | true =>
    rw [hs] at C9
    clear hbad C24
    clear hl hl1 hm b0 hsz
    unfold gameV
    go_enter Tryz.func4, Tryz.ntmps4
    go_wp2_with (first
      | (refine wpList_load_rwG (by kernel_rfl) 24 (.tmp 6) rfl w.heap.size [.slice ac l.length cp, .int .i64 cap, .int .i64 fuel] 24 _ rfl ?_ Tryz.underlying24 rfl H24 ?_; exact HK1.out)
      | (go_at_call 9; refine C9.out.mono ?_; rintro e w2 ⟨rfl, B2⟩; have HB2 := hid_into B2; have HK2 := hid_into (HK1.out.below B2 HK1.out.lt); clear B2)
      | (go_at_call 12; refine (CK.out _).mono ?_; rintro e w5 ⟨rfl, B5⟩))
    go_ret
    exact ⟨rfl, hgrow.out _ (HB2.out.trans (B5.mono HB2.out.size))⟩
  | false =>
    rw [hs] at C9
    rcases (Classical.em (chkG l cap fuel = 0)).symm with hc | hc
    · generalize chkG l cap fuel = er at *
      have her : (er != 0) = true := by simp [hc]
      clear hbad hc
      clear hl hl1 hm b0 hsz
      unfold gameV
      go_enter Tryz.func4, Tryz.ntmps4
      go_wp2_with (first
        | (refine wpList_load_rwG (by kernel_rfl) 24 (.tmp 6) rfl w.heap.size [.slice ac l.length cp, .int .i64 cap, .int .i64 fuel] 24 _ rfl ?_ Tryz.underlying24 rfl H24 ?_; exact HK2.out)
        | (refine wpList_load_rwG (by kernel_rfl) 24 (.tmp 6) rfl w.heap.size [.slice ac l.length cp, .int .i64 cap, .int .i64 fuel] 24 _ rfl ?_ Tryz.underlying24 rfl H24 ?_; exact HK1.out)
        | (go_at_call 9; refine C9.out.mono ?_; rintro e w2 ⟨rfl, B2⟩; have HB2 := hid_into B2; have HK2 := hid_into (HK1.out.below B2 HK1.out.lt); clear B2)
        | (go_at_call 24; refine (C24.out _ HB2.out).mono ?_; rintro e w3 ⟨rfl, B3⟩; have HB3 := hid_into (HB2.out.trans (B3.mono HB2.out.size)); clear B3)
        | (go_at_call 12; refine (CK.out _).mono ?_; rintro e w5 ⟨rfl, B5⟩))
      go_ret
      exact ⟨rfl, hgrow.out _ (HB3.out.trans (B5.mono HB3.out.size))⟩
    · rw [hc] at C24
      by_cases h60 : (60 : Int) < (lm : Int)
      · clear hbad hc
        clear hl hl1 hm b0 hsz
        unfold gameV
        go_enter Tryz.func4, Tryz.ntmps4
        go_wp2_with (first
          | (refine wpList_load_rwG (by kernel_rfl) 24 (.tmp 6) rfl w.heap.size [.slice ac l.length cp, .int .i64 cap, .int .i64 fuel] 24 _ rfl ?_ Tryz.underlying24 rfl H24 ?_; exact HK2.out)
          | (refine wpList_load_rwG (by kernel_rfl) 24 (.tmp 6) rfl w.heap.size [.slice ac l.length cp, .int .i64 cap, .int .i64 fuel] 24 _ rfl ?_ Tryz.underlying24 rfl H24 ?_; exact HK1.out)
          | (go_at_call 9; refine C9.out.mono ?_; rintro e w2 ⟨rfl, B2⟩; have HB2 := hid_into B2; have HK2 := hid_into (HK1.out.below B2 HK1.out.lt); clear B2)
          | (go_at_call 24; refine (C24.out _ HB2.out).mono ?_; rintro e w3 ⟨rfl, B3⟩; have HB3 := hid_into (HB2.out.trans (B3.mono HB2.out.size)); clear B3)
          | (go_at_call 12; refine (CK.out _).mono ?_; rintro e w5 ⟨rfl, B5⟩))
        go_ret
        exact ⟨rfl, hgrow.out _ (HB3.out.trans (B5.mono HB3.out.size))⟩
      · have h60' : (60 : Int) < (lh : Int) := by
          rcases hbad with h | h | h | h
          · rw [hs] at h; cases h
          · exact absurd hc h
          · omega
          · omega
        clear hbad hc
        clear hl hl1 hm b0 hsz
        unfold gameV
        go_enter Tryz.func4, Tryz.ntmps4
        go_wp2_with (first
          | (refine wpList_load_rwG (by kernel_rfl) 24 (.tmp 6) rfl w.heap.size [.slice ac l.length cp, .int .i64 cap, .int .i64 fuel] 24 _ rfl ?_ Tryz.underlying24 rfl H24 ?_; exact HK2.out)
          | (refine wpList_load_rwG (by kernel_rfl) 24 (.tmp 6) rfl w.heap.size [.slice ac l.length cp, .int .i64 cap, .int .i64 fuel] 24 _ rfl ?_ Tryz.underlying24 rfl H24 ?_; exact HK1.out)
          | (go_at_call 9; refine C9.out.mono ?_; rintro e w2 ⟨rfl, B2⟩; have HB2 := hid_into B2; have HK2 := hid_into (HK1.out.below B2 HK1.out.lt); clear B2)
          | (go_at_call 24; refine (C24.out _ HB2.out).mono ?_; rintro e w3 ⟨rfl, B3⟩; have HB3 := hid_into (HB2.out.trans (B3.mono HB2.out.size)); clear B3)
          | (go_at_call 12; refine (CK.out _).mono ?_; rintro e w5 ⟨rfl, B5⟩))
        go_ret
        exact ⟨rfl, hgrow.out _ (HB3.out.trans (B5.mono HB3.out.size))⟩
set_option maxRecDepth 20000 in
set_option maxHeartbeats 16000000 in
theorem sure_walk (cv : Value) (l : List Ii) (cap fuel seed me : Int) (am : Option Addr) (lm cm : Nat) (xm : List Int) (ah : Option Addr) (lh ch : Nat) (xh : List Int) (ap : Option Addr) (lp cpp : Nat) (ps : List Int) (w : World) (hl : Ls w cv l) (hseed : 0 ≤ seed ∧ seed < 4294967296) (rm : Ax.Rw w 1 St.u16c am lm cm xm) (gm : ∀ z ∈ xm, 0 ≤ z ∧ z < 65536) (rh : Ax.Rw w 1 St.u16c ah lh ch xh) (gh : ∀ z ∈ xh, 0 ≤ z ∧ z < 65536) (rp : Ax.Rw w 1 St.i64c ap lp cpp ps) (_gp : ∀ z ∈ ps, -9223372036854775808 ≤ z ∧ z ≤ 9223372036854775807) :
    Calls Tryz.prog 4 #[gameV cv cap fuel, .int .u32 seed, .int .i64 me, .slice am lm cm, .slice ah lh ch, .slice ap lp cpp] w fun e w' => e = .returned (.bool true) ∧ Below w.heap.size w w' := by
  by_cases hs : slw l.length fuel = true
  · exact sure_bad cv l cap fuel seed me am lm cm ah lh ch ap lp cpp w hl (Or.inl hs)
  by_cases hc : chkG l cap fuel = 0
  case neg => exact sure_bad cv l cap fuel seed me am lm cm ah lh ch ap lp cpp w hl (Or.inr (Or.inl hc))
  by_cases h60 : 60 < lm
  · exact sure_bad cv l cap fuel seed me am lm cm ah lh ch ap lp cpp w hl (Or.inr (Or.inr (Or.inl h60)))
  by_cases h61 : 60 < lh
  · exact sure_bad cv l cap fuel seed me am lm cm ah lh ch ap lp cpp w hl (Or.inr (Or.inr (Or.inr h61)))
  have hlm := rm.len
  have hlh := rh.len
  obtain ⟨ac, cp, rfl, hm⟩ := hl.len
  have C9 := hid_into (slow_any ac l.length cp cap fuel (w.alloc (.cells #[.slice ac l.length cp, .int .i64 cap, .int .i64 fuel] 24)))
  have b0 : Below w.heap.size w (w.alloc (.cells #[.slice ac l.length cp, .int .i64 cap, .int .i64 fuel] 24)) := (Below.refl _ _).alloc (Nat.le_refl _) _
  have hl1 : Ls (w.alloc (.cells #[.slice ac l.length cp, .int .i64 cap, .int .i64 fuel] 24)) (.slice ac l.length cp) l := hl.below b0
  have HK1 : Hid (Cw (w.alloc (.cells #[.slice ac l.length cp, .int .i64 cap, .int .i64 fuel] 24)) w.heap.size [.slice ac l.length cp, .int .i64 cap, .int .i64 fuel] 24) := Cw.new w [.slice ac l.length cp, .int .i64 cap, .int .i64 fuel] 24
  have H24 : Hid ((Tryz.prog.info? 24).map (·.size) = some 3) := size24
  have hsz := World.size_alloc w (.cells #[.slice ac l.length cp, .int .i64 cap, .int .i64 fuel] 24)
  have CK := hid_into known_any
  rw [show slw l.length fuel = false by simpa using hs] at C9
  obtain ⟨w1, hw1⟩ : ∃ w1, w1 = (w.alloc (.cells #[.slice ac l.length cp, .int .i64 cap, .int .i64 fuel] 24)) := ⟨_, rfl⟩
  rw [← hw1] at C9 b0 hl1 HK1 hsz
  have hgrow : Hid (∀ W, Below w1.heap.size w1 W → Below w.heap.size w W) := fun W hW => b0.trans (hW.mono (by rw [hsz]; omega))
  have C24 : Hid (∀ W, Below w1.heap.size w1 W → Calls Tryz.prog 24 #[.agg #[.slice ac l.length cp, .int .i64 cap, .int .i64 fuel]] W fun e w' => e = .returned (.int .i64 0) ∧ Below W.heap.size W w') := fun W hW => by
    have := rChk_any (.slice ac l.length cp) l cap fuel W (hl1.below hW)
    rw [hc] at this
    exact this
  obtain ⟨G, hG⟩ : ∃ G : Gm, G = ⟨l, cap, fuel, seed⟩ := ⟨_, rfl⟩
  have hok : G.Ok := by rw [hG]; exact ⟨hc, hseed⟩
  have e1 : G.l = l := by rw [hG]
  have e2 : G.cap = cap := by rw [hG]
  have e3 : G.fuel = fuel := by rw [hG]
  have e4 : G.seed = seed := by rw [hG]
  obtain ⟨q, hq⟩ : ∃ q, bits .and .i64 me 1 = q := ⟨_, rfl⟩
  have hq2 : q = 0 ∨ q = 1 := by rw [← hq, and1]; omega
  have HQ2 := hid_into hq2
  have C10 : Hid (∀ W, Below w1.heap.size w1 W → Calls Tryz.prog 10 #[.agg #[.slice ac l.length cp, .int .i64 cap, .int .i64 fuel], .int .u32 seed, .int .i64 q] W fun e w' => ∃ X, e = .returned (.tuple #[.pointer (some ⟨X.sb, 0, none⟩), .int .i64 0]) ∧ Se w' W.heap.size w'.heap.size X G (newS q G.cap) ∧ Below W.heap.size W w') := fun W hW => by
    have := New_any W (.slice ac l.length cp) G q (by rw [e1]; exact hl1.below hW) hok hq2
    rw [e2, e3, e4] at this
    rw [e2]
    exact this
  have HPF : Hid (Pf G (newS q G.cap) (gd xm) (gd xh) 0 0 ∧ (newS q G.cap).me = q ∧ Wk (newS q G.cap) 0 ∧ ∀ j, (In.at0 (newS q G.cap).h j).2 = (List.replicate lh false).getD j false) := by
    refine hid_into ⟨newS_pf hok hq2 _ _, rfl, Wk.new _ _, fun j => ?_⟩
    have h1 : (In.at0 (In.zeros G.cap.toNat) j).2 = false := by rw [In.zeros_at]
    refine Eq.trans h1 ?_
    simp only [List.getD, List.getElem?_replicate]
    split <;> rfl
  have HIF : Hid (∀ n, InP (frst (fun k => prM q (gd xm k) (gd xh k)) n)) := fun n => frst_in (f := (fun k => prM q (gd xm k) (gd xh k))) (fun k => by unfold prM; split <;> exact ⟨gd_in (by assumption) k, gd_in (by assumption) k⟩) n
  have C25 : Hid (∀ W v n, n ≤ 1000 → Below w1.heap.size w1 W → Ps W v (frst (fun k => prM q (gd xm k) (gd xh k)) n) → Calls Tryz.prog 25 #[.agg #[.slice ac l.length cp, .int .i64 cap, .int .i64 fuel], .int .u32 seed, v] W fun e w' => e = .returned (.tuple #[.agg (stV (endG G.l G.cap G.fuel (startS G.seed) (frst (fun k => prM q (gd xm k) (gd xh k)) n))).toArray, .int .i64 0]) ∧ Below W.heap.size W w') := fun W v n hn hW hv => by
    have g := rPlay_any (.slice ac l.length cp) l cap fuel seed v _ W (hl1.below hW) hv (HIF.out n) hseed (by rw [frst_len]; omega)
    have e : playE l cap fuel seed (frst (fun k => prM q (gd xm k) (gd xh k)) n) = (endG G.l G.cap G.fuel (startS G.seed) (frst (fun k => prM q (gd xm k) (gd xh k)) n), 0) := by
      unfold playE
      rw [if_pos hc, e1, e2, e3, e4]
    rw [e] at g
    exact g
  have HRM := hid_into (fun W (hW : Below w1.heap.size w1 W) => rm.below (hgrow.out W hW) (Nat.le_refl _))
  have HRH := hid_into (fun W (hW : Below w1.heap.size w1 W) => rh.below (hgrow.out W hW) (Nat.le_refl _))
  have HRP := hid_into (fun W (hW : Below w1.heap.size w1 W) => rp.below (hgrow.out W hW) (Nat.le_refl _))
  have hpm : (lp : Int) ≤ 9223372036854775807 := by have := rp.le; have := rp.mx; unfold maxLen at this; omega
  have HPL : Hid (ps.length = lp) := rp.len
  have HAL : Hid (xm.length = lm ∧ xh.length = lh) := ⟨hlm, hlh⟩
  have HGM := hid_into gm
  have HGH := hid_into gh
  have HCAP := hid_into e2
  have hcp : 1 ≤ cap ∧ cap ≤ 600 := ⟨(chkG_cap hc).2.1, (chkG_cap hc).2.2.1⟩
  obtain ⟨hcp1, hcp2⟩ := hcp
  have h60n : ¬ (60 : Int) < (lm : Int) := by omega
  have h61n : ¬ (60 : Int) < (lh : Int) := by omega
  have h60' : (lm : Int) ≤ 60 := by omega
  have h61' : (lh : Int) ≤ 60 := by omega
  generalize newS q G.cap = s0 at *
  clear hl hl1 hm b0 hsz hs hc e1 e2 e3 e4 hG hseed rm rh rp gm gh hok h60 h61 hlm hlh hq2 HIF
  unfold gameV
  go_enter Tryz.func4, Tryz.ntmps4
  go_upto_region 1 with fail
  rw [← hw1]
  clear hw1
  go_upto_block 0 with (first
    | (refine wpList_load_rwG (by kernel_rfl) 24 (.tmp 6) rfl w.heap.size [.slice ac l.length cp, .int .i64 cap, .int .i64 fuel] 24 _ rfl ?_ Tryz.underlying24 rfl H24 ?_; exact HK3.out)
    | (refine wpList_load_rwG (by kernel_rfl) 24 (.tmp 6) rfl w.heap.size [.slice ac l.length cp, .int .i64 cap, .int .i64 fuel] 24 _ rfl ?_ Tryz.underlying24 rfl H24 ?_; exact HK2.out)
    | (refine wpList_load_rwG (by kernel_rfl) 24 (.tmp 6) rfl w.heap.size [.slice ac l.length cp, .int .i64 cap, .int .i64 fuel] 24 _ rfl ?_ Tryz.underlying24 rfl H24 ?_; exact HK1.out)
    | (go_at_call 9; refine C9.out.mono ?_; rintro e w2 ⟨rfl, B2⟩; have HB2 := hid_into B2; have HK2 := hid_into (HK1.out.below B2 HK1.out.lt); clear B2)
    | (go_at_call 24; refine (C24.out _ HB2.out).mono ?_; rintro e w3 ⟨rfl, B3⟩; have HB3 := hid_into (HB2.out.trans (B3.mono HB2.out.size)); have HK3 := hid_into (HK2.out.below B3 HK2.out.lt); clear B3)
    | (go_at_call 10; refine (C10.out _ HB3.out).mono ?_; rintro e w4 ⟨X, rfl, S4, B4⟩; have HS4 := hid_into S4; have HB4 := hid_into (HB3.out.trans (B4.mono HB3.out.size)); have HLO := hid_into HB3.out.size; clear B4 S4 C10))
  have HKB : Hid (∀ W, Below w1.heap.size w1 W → Cw W w.heap.size [.slice ac l.length cp, .int .i64 cap, .int .i64 fuel] 24) := fun W hW => HK1.out.below hW HK1.out.lt
  generalize w3.heap.size = lo at *
  generalize hhi : w4.heap.size = hi at HS4
  have HHI := hid_into hhi
  clear hhi C9 C24 HB2 HB3 HK1 HK2 HK3
  go_cut [16] (fun vl wx => ∃ (n : Nat) (av : Option Addr) (cv : Nat), n ≤ lh ∧ vl = .slice av n cv ∧ Hid (Ro1 wx w4.heap.size (.slice av n cv) (ints n) ∧ Below w4.heap.size w4 wx))
  case first =>
    go_wp2_with fail
    go_loopw [16, 17] (fun vl vn wr => ∃ (k : Nat) (av : Option Addr) (cv : Nat), k ≤ lh ∧ vn = .int .i64 (k : Int) ∧ vl = .slice av k cv ∧ Hid (Ro1 wr w4.heap.size (.slice av k cv) (ints k) ∧ Below w4.heap.size w4 wr)) (fun _ vn _ => lh - (intOf vn).toNat)
    case atStart => exact ⟨0, none, 0, Nat.zero_le _, rfl, rfl, Ax.Ro.nil _ _, Below.refl _ _⟩
    case round =>
      obtain ⟨k, av, cv, hk, rfl, rfl, HP⟩ := hrel
      have HB := hid_into (HB4.out.trans (HP.out.2.mono HB4.out.size))
      have c1 := ((HKB.out _ HB.out).cell 1).trans rfl
      by_cases hlt : k < lh
      · have hlt' : (k : Int) < (lh : Int) := by omega
        by_cases hlc : (k : Int) < cap
        · obtain ⟨v', w', hr, h2, h3⟩ := left1 (k : Int) HP.out.1 (by rw [ints_len]; omega) HP.out.2.size
          rw [← ints_succ] at h2
          obtain ⟨av2, cv2, hv2, _, _⟩ := h2.form
          rw [ints_len] at hv2
          subst hv2
          have HR1 := hid_into hr
          have H2 := hid_into h2
          have H3 := hid_into (HP.out.2.trans h3)
          clear hr h2 h3
          go_wp2_with (refine wpList_append_eq (w' := w') rfl 56 (.tmp 74) (.tmp 76) rfl _ _ (.slice av2 (k + 1) cv2) (by rfl) (by rfl) ?_ ?_; exact HR1.out)
          go_roundw
          case rel => exact ⟨k + 1, av2, cv2, by omega, by go_num, rfl, H2.out, H3.out⟩
          case measure => simp [intOf]; omega
        · go_wp2_with fail
          go_meet
          exact ⟨k, av, cv, hk, rfl, HP⟩
      · have hlt' : ¬ (k : Int) < (lh : Int) := by omega
        go_wp2_with fail
        go_meet
        exact ⟨k, av, cv, hk, rfl, HP⟩
  case rest =>
  obtain ⟨n0, av0, cv0, hn0, rfl, HP0⟩ := hcut
  rename World => W5
  go_wp2_with (refine wpList_make_t rfl (.tmp 79) (.tmp 79) rfl lh rfl rfl (by omega) ?_; intro W6 hc6 B6 HS6; have HC6 := hid_into hc6; have HB6 := hid_into B6; clear hc6 B6)
  have HSW : Hid (Sw w1 W6 lo hi X W5.heap.size G xm xh s0 0 (List.replicate lh false) (ints n0) (.slice av0 n0 cv0) 0) := by
    have b5 := HP0.out.2
    have b6 := HB4.out
    have h1 := HHI.out
    refine ⟨(HS4.out.below b5).below HB6.out, (b6.trans (b5.mono b6.size)).trans (HB6.out.mono (by have := b6.size; have := b5.size; omega)), HLO.out, HC6.out, by rw [← h1]; exact b5.size, ?_, fun k hk => (by have := HP0.out.1.lt k hk; omega), HPF.out.1.kv, HPF.out.1.P, by rw [List.length_replicate]; exact HAL.out.2.symm, HPF.out.2.2.1, fun z hz => ?_, by rw [ints_len]; omega, Nat.zero_le _⟩
    · have := HP0.out.1.keep (w' := W6) (fun k _ _ hk => HB6.out.block k hk)
      rw [h1] at this
      exact this
    · obtain ⟨i, h2, h3⟩ := ints_mem hz
      exact ⟨i, h2, by rw [HAL.out.2]; omega⟩
  generalize W5.heap.size = tb at *
  have HLN : Hid ((ints n0).length = n0) := ints_len n0
  have HM0 := hid_into HPF.out.2.2.2
  have HME := hid_into HPF.out.2.1
  have HN0 : Hid (n0 ≤ 60) := by refine hid_into ?_; omega
  generalize List.replicate lh false = Tl0 at *
  generalize ints n0 = L0 at *
  clear HP0 HB4 HS4 HHI HC6 HB6 HS6 HPF HLO hn0
  go_loopw [15, 16, 19] (fun vd vl vi wr => ∃ (k D : Nat) (s : Sa) (Tl : List Bool) (L : List Int) (n : Nat) (av : Option Addr) (cv : Nat), k ≤ 300 ∧ vi = .int .i64 (k : Int) ∧ vd = .int .i64 (D : Int) ∧ vl = .slice av n cv ∧ Hid (L.length = n) ∧ Hid (Sw w1 wr lo hi X tb G xm xh s D Tl L (.slice av n cv) (2 * k)) ∧ Hid (∀ j, (In.at0 s.h j).2 = Tl.getD j false) ∧ Hid (s.me = q)) (fun _ _ vi _ => 300 - (intOf vi).toNat)
  case atStart => exact ⟨0, 0, s0, Tl0, L0, n0, av0, cv0, Nat.zero_le _, rfl, rfl, rfl, HLN, HSW, HM0, HME⟩
  case round =>
    clear HSW HM0 HME HLN HN0
    obtain ⟨k, D, s, Tl, L, n, av, cv, hk, rfl, rfl, rfl, HLN, HS, HM, HE⟩ := hrel
    by_cases hlt : k < 300
    · have hlt' : (k : Int) < 300 := by omega
      have hD : D ≤ lm := by have := HS.out.dl; rw [HAL.out.1] at this; exact this
      have hn : n ≤ 100 := by have := HS.out.ll; rw [HLN.out] at this; exact this
      go_upto_if 88 with fail
      go_cut [20] (fun pv wx => ∃ z : Int, pv = .int .i64 z ∧ wr = wx)
      case first =>
        as_aux_lemma =>
          by_cases hp : k < lp
          · have hp' : (k : Int) < (lp : Int) := by omega
            obtain ⟨z, hz⟩ : ∃ z, ps[k]? = some z := ⟨_, List.getElem?_eq_getElem (by rw [HPL.out]; exact hp)⟩
            obtain ⟨g, off, rfl, ct⟩ := (HRP.out _ HS.out.b).at' k z hz
            have d0 := ct 0 _ rfl
            simp only [Nat.mul_one, Nat.add_zero] at d0
            clear ct hz
            go_wp2_with fail
            go_meet
            exact ⟨z, rfl, rfl⟩
          · have hp' : ¬ (k : Int) < (lp : Int) := by omega
            go_wp2_with fail
            go_meet
            exact ⟨0, rfl, rfl⟩
      case rest =>
      obtain ⟨z, rfl, rfl⟩ := hcut
      obtain ⟨b1, hb1⟩ : ∃ b1, b1 = decide (bits .and .i64 z 1 = 0 ∧ D < lm) := ⟨_, rfl⟩
      have HB1 := hid_into hb1
      clear hb1
      go_upto_region 19 with fail
      go_cut [101] (fun tb wx => tb = .bool b1 ∧ wr = wx)
      case first =>
        as_aux_lemma =>
          by_cases h1 : bits .and .i64 z 1 = 0
          · have h1' : (bits .and .i64 z 1 == 0) = true := by simp [h1]
            by_cases h2 : D < lm
            · have h2' : (D : Int) < (lm : Int) := by omega
              have e : b1 = true := by rw [HB1.out]; exact decide_eq_true ⟨h1, h2⟩
              clear h1
              go_wp2_with fail
              go_meet
              exact ⟨by rw [e], rfl⟩
            · have h2' : ¬ (D : Int) < (lm : Int) := by omega
              have e : b1 = false := by rw [HB1.out]; exact decide_eq_false (fun h => h2 h.2)
              clear h1
              go_wp2_with fail
              go_meet
              exact ⟨by rw [e], rfl⟩
          · have h1' : (bits .and .i64 z 1 == 0) = false := by simp [h1]
            have e : b1 = false := by rw [HB1.out]; exact decide_eq_false (fun h => h1 h.1)
            clear h1
            go_wp2_with fail
            go_meet
            exact ⟨by rw [e], rfl⟩
      case rest =>
      obtain ⟨rfl, rfl⟩ := hcut
      go_upto_if 101 with fail
      go_cut [15] (fun vd wx => ∃ (D2 : Nat) (s2 : Sa), vd = .int .i64 (D2 : Int) ∧ Hid (Sw w1 wx lo hi X tb G xm xh s2 D2 Tl L (.slice av n cv) (2 * k + 1)) ∧ Hid (∀ j, (In.at0 s2.h j).2 = Tl.getD j false) ∧ Hid (s2.me = q))
      case first =>
        as_aux_lemma =>
          by_cases hb : b1 = true
          · subst hb
            have hD2 : D < lm := (of_decide_eq_true HB1.out.symm).2
            have hD2' : (D : Int) < (lm : Int) := by omega
            obtain ⟨g, off, rfl, ct⟩ := (HRM.out _ HS.out.b).at' D (gd xm D) (by unfold gd; simp [List.getD, List.getElem?_eq_getElem (show D < xm.length by rw [HAL.out.1]; omega)])
            have d0 := ct 0 _ rfl
            simp only [Nat.mul_one, Nat.add_zero] at d0
            clear ct
            have CG := hid_into (HS.out.Local HGM.out (by omega) (by rw [HAL.out.1]; exact hD2))
            have HF := hid_into HS.out.first
            have HM2 : Hid (∀ j, (In.at0 (locS s G (gd xm D)).h j).2 = Tl.getD j false) := fun j => by rw [(locS_me s G _).2]; exact HM.out j
            have HE2 : Hid ((locS s G (gd xm D)).me = q) := by rw [(locS_me s G _).1]; exact HE.out
            obtain ⟨A1, hA1⟩ : ∃ A1, A1 = (locA s G).1 := ⟨_, rfl⟩
            obtain ⟨A2, hA2⟩ : ∃ A2, A2 = (locA s G).2 := ⟨_, rfl⟩
            rw [← hA1, ← hA2] at CG HF
            clear hA1 hA2
            generalize locS s G (gd xm D) = s2 at *
            generalize gd xm D = x at *
            by_cases hz : A2 = 0
            · subst hz
              obtain rfl : A1 = (D : Int) := HF.out rfl
              rw [if_pos rfl] at CG
              clear HF
              go_wp2_with (go_at_call 13; refine CG.out.mono ?_; rintro e w6 ⟨rfl, h6⟩; have H6 := hid_into h6; clear h6 CG)
              go_meet
              exact ⟨D + 1, s2, by go_num, H6, HM2, HE2⟩
            · have hz' : (A2 == 0) = false := by simp [hz]
              rw [if_neg hz] at CG
              clear HF hz
              go_wp2_with (go_at_call 13; refine CG.out.mono ?_; rintro e w6 ⟨rfl, h6⟩; have H6 := hid_into h6; clear h6 CG)
              go_meet
              exact ⟨D, s2, rfl, H6, HM2, HE2⟩
          · obtain rfl : b1 = false := by simpa using hb
            clear hb
            go_wp2_with fail
            go_meet
            exact ⟨D, s, rfl, hid_into (HS.out.wup (by omega)), HM, HE⟩
      case rest =>
      obtain ⟨D2, s2, rfl, HS2, HM2, HE2⟩ := hcut
      clear HS HM HE hD HB1
      rename World => W7
      have hD : D2 ≤ lm := by have := HS2.out.dl; rw [HAL.out.1] at this; exact this
      clear hlt
      obtain ⟨b2, hb2⟩ : ∃ b2, b2 = decide (bits .and .i64 z 2 = 0 ∧ 0 < n) := ⟨_, rfl⟩
      have HB2 := hid_into hb2
      clear hb2
      go_upto_region 25 with fail
      go_cut [125] (fun tb wx => tb = .bool b2 ∧ W7 = wx)
      case first =>
        as_aux_lemma =>
          by_cases h1 : bits .and .i64 z 2 = 0
          · have h1' : (bits .and .i64 z 2 == 0) = true := by simp [h1]
            by_cases h2 : 0 < n
            · have h2' : (0 : Int) < (n : Int) := by omega
              have e : b2 = true := by rw [HB2.out]; exact decide_eq_true ⟨h1, h2⟩
              clear h1
              go_wp2_with fail
              go_meet
              exact ⟨by rw [e], rfl⟩
            · have h2' : ¬ (0 : Int) < (n : Int) := by omega
              have e : b2 = false := by rw [HB2.out]; exact decide_eq_false (fun h => h2 h.2)
              clear h1
              go_wp2_with fail
              go_meet
              exact ⟨by rw [e], rfl⟩
          · have h1' : (bits .and .i64 z 2 == 0) = false := by simp [h1]
            have e : b2 = false := by rw [HB2.out]; exact decide_eq_false (fun h => h1 h.1)
            clear h1
            go_wp2_with fail
            go_meet
            exact ⟨by rw [e], rfl⟩
      case rest =>
      obtain ⟨rfl, rfl⟩ := hcut
      go_upto_if 125 with fail
      go_cut [16] (fun vl wx => ∃ (s3 : Sa) (Tl3 : List Bool) (L3 : List Int) (n3 : Nat) (av3 : Option Addr) (cv3 : Nat), vl = .slice av3 n3 cv3 ∧ Hid (L3.length = n3) ∧ Hid (Sw w1 wx lo hi X tb G xm xh s3 D2 Tl3 L3 (.slice av3 n3 cv3) (2 * (k + 1))) ∧ Hid (∀ j, (In.at0 s3.h j).2 = Tl3.getD j false) ∧ Hid (s3.me = q))
      case first =>
        as_aux_lemma =>
          by_cases hb : b2 = true
          · subst hb
            have hn0 : 0 < n := (of_decide_eq_true HB2.out.symm).2
            have hn0' : (0 : Int) < (n : Int) := by omega
            have hn1 : ¬ (n : Int) = 0 := by omega
            have hn2 : ¬ n = 0 := by omega
            clear HB2
            go_upto_region 26 with fail
            go_cut [23] (fun kv wx => ∃ K : Nat, K < n ∧ kv = .int .i64 (K : Int) ∧ W7 = wx)
            case first =>
              obtain ⟨Q, hQ, _⟩ : ∃ Q : Nat, bits .and .i64 (z / 4) 3 = (Q : Int) ∧ Q < 4 := ⟨((z / 4) % 4).toNat, by rw [and3]; omega, by omega⟩
              obtain ⟨K, hKe, hK⟩ : ∃ K : Nat, K = Q % n ∧ K < n := ⟨_, rfl, Nat.mod_lt _ hn0⟩
              have hT : (Q : Int).tmod (n : Int) = (K : Int) := by rw [hKe]; rfl
              clear hKe
              go_wp2_with fail
              go_meet
              exact ⟨K, hK, rfl, rfl⟩
            case rest =>
            obtain ⟨K, hK, rfl, rfl⟩ := hcut
            obtain ⟨A, t, C, hL, hA⟩ := cut_at (L := L) (K := K) (by rw [HLN.out]; exact hK)
            have hLK : L[K]? = some t := by rw [hL, ← hA]; simp
            obtain ⟨i, rfl, hil⟩ := HS2.out.lin t (List.mem_of_getElem? hLK)
            obtain ⟨g, rfl, hcv1, hcv2⟩ := HS2.out.form (by rintro rfl; simp at hLK)
            rw [HLN.out] at hcv1
            unfold maxLen at hcv2
            have HLK := hid_into hLK
            have HLL := hid_into hL
            have HAA := hid_into hA
            clear hLK hL hA
            have hil' : i < lh := by rw [← HAL.out.2]; exact hil
            have hil2 : (i : Int) < (lh : Int) := by omega
            have hK2 : (K : Int) < (n : Int) := by omega
            obtain ⟨gh, oh, rfl, _⟩ := (HRH.out _ HS2.out.b).at' i (gd xh i) (by unfold gd; simp [List.getD, List.getElem?_eq_getElem hil])
            have CX : Hid (∀ W, Below w1.heap.size w1 W → W.cell? ⟨gh, oh + i, none⟩ = some (.int .u16 (gd xh i))) := by
              intro W hW
              obtain ⟨g2, o2, e2, c2⟩ := (HRH.out W hW).at' i (gd xh i) (by unfold gd; simp [List.getD, List.getElem?_eq_getElem hil])
              cases e2
              have d := c2 0 _ rfl
              simp only [Nat.mul_one, Nat.add_zero] at d
              exact d
            have C15 := hid_into ((HS2.out.sm (W' := W7.drew) ⟨rfl, rfl, rfl, rfl⟩).Remote HGH.out (by omega) (i := i) (by omega))
            have HRT := hid_into (fun (h : remA s2 G (i : Int) (gd xh i) = 0) (j : Nat) => remA_told h HS2.out.se.ok j)
            have HRN : Hid (remA s2 G (i : Int) (gd xh i) ≠ 0 → remS s2 G (i : Int) (gd xh i) = s2) := fun h => by unfold remS; rw [if_neg h]
            have HE3 : Hid ((remS s2 G (i : Int) (gd xh i)).me = q) := by rw [(remS_me s2 G _ _).1]; exact HE2.out
            have t0 := hid_into (And.intro (HS2.out.at HLK.out) (CX.out _ HS2.out.b))
            generalize remA s2 G (i : Int) (gd xh i) = AA at *
            generalize remS s2 G (i : Int) (gd xh i) = s3 at *
            generalize gd xh i = x at *
            go_wp2_with fail
            go_region_held3 (fun u => u.cell? ⟨g, K, none⟩ = some (.int .i64 (i : Int)) ∧ u.cell? ⟨gh, oh + i, none⟩ = some (.int .u16 x)) (first | exact t0.out | exact t1.out)
              (first | (go_at_call 15; refine C15.out.mono ?_; rintro e w5 ⟨rfl, h5, _⟩; have H5 := hid_into h5; have t1 := hid_into (And.intro (h5.at HLK.out) (CX.out _ h5.b)); clear h5 C15))
            by_cases hz : AA = 0
            · subst hz
              have HM3 : Hid (∀ j, (In.at0 s3.h j).2 = (Tl.set i true).getD j false) := fun j => by
                rw [HRT.out rfl j]
                have htl := H5.out.tl
                by_cases e : j = i
                · subst e
                  rw [if_pos rfl]
                  simp [List.getD, htl, hil]
                · rw [if_neg (by omega), HM2.out j]
                  simp only [List.getD, List.getElem?_set, if_neg (Ne.symm e)]
              have H9 := hid_into (H5.out.mark (i := i))
              obtain ⟨c5, _⟩ := t1
              have f5 := H5.out.tc.frozen i
              have b5 : ∃ y, w5.cell? ⟨tb, i, none⟩ = some (.bool y) := ⟨Tl.getD i false, by rw [H5.out.tc.cell]; simp [List.getD, List.getElem?_eq_getElem (show i < Tl.length by rw [H5.out.tl]; exact hil)]⟩
              obtain ⟨y, b5⟩ := b5
              clear HRT HRN CX t0 HM2 HS2 HE2
              go_wp2_with fail
              generalize w5.setCell ⟨tb, i, none⟩ (.bool true) = W9 at *
              have hKA : A.length = K := HAA.out
              have hNN : n = A.length + 1 + C.length := by have := HLN.out; rw [HLL.out] at this; simp only [List.length_append, List.length_cons] at this; omega
              have RT := H9.out.lf
              rw [HLL.out, show (n : Nat) = (A ++ (i : Int) :: C).length by simp only [List.length_append, List.length_cons]; omega] at RT
              obtain ⟨K1, hK1⟩ : ∃ K1, K1 = K + 1 := ⟨_, rfl⟩
              have hKA1 : A.length + 1 = K1 := by omega
              have hwK : IntKind.i64.wrap ((K : Int) + 1) = (K1 : Int) := by rw [IntKind.wrap_i64]; omega
              have hb1 : (0 : Int) ≤ (K1 : Int) := by omega
              have hb2 : (K1 : Int) ≤ (n : Int) := by omega
              have hb3 : (n : Int) ≤ (cv : Int) := by omega
              have hb4 : (0 : Int) ≤ (K : Int) := by omega
              have hb5 : (K : Int) ≤ (cv : Int) := by omega
              have hb6 : K ≤ cv := by omega
              have hb7 : K1 ≤ n := by omega
              by_cases hcp : cv = K1
              · obtain ⟨v1, w1', v2, w2', r1, r2, ho, hb⟩ := releft (W9 := W9) RT rfl (by rw [← HLL.out, HLN.out]; omega) 0 (Or.inr (List.eq_nil_of_length_eq_zero (by omega)))
                rw [hKA1] at r2
                rw [hKA] at r1
                have hCl : C.length = n - K1 := by omega
                rw [hCl] at r2
                have hnc : n = cv := by omega
                subst hcp
                subst hnc
                simp only [Nat.sub_self] at r2
                have X1 := hid_into r1
                have X2 := hid_into r2
                have HF := hid_into (H9.out.left hb ho (by rw [HLL.out]; intro z hz; rcases List.mem_append.1 hz with h | h; exact List.mem_append_left _ h; exact List.mem_append_right _ (List.mem_cons_of_mem _ h)) (by rw [HLL.out]; simp only [List.length_append, List.length_cons]; omega))
                obtain ⟨av3, cv3, hv3, _, _⟩ := ho.form
                subst hv3
                clear r1 r2 ho hb RT hK1 hCl hNN hKA1
                go_region_held3 (fun _ => True) (trivial)
                  (first
                    | (refine step_append_eq rfl 56 (.tmp 153) (.tmp 156) rfl _ _ _ (by rfl) (by rfl) X1.out ?_)
                    | (refine step_append_eq rfl 56 (.tmp 157) (.tmp 161) rfl _ _ _ (by rfl) (by rfl) X2.out ?_))
                go_wp2_with fail
                go_meet
                exact ⟨s3, Tl.set i true, A ++ C, (A ++ C).length, av3, cv3, by rw [List.length_append, hKA], hid_into rfl, HF, HM3, HE3⟩
              · obtain ⟨v1, w1', v2, w2', r1, r2, ho, hb⟩ := releft (W9 := W9) RT rfl (by rw [← HLL.out, HLN.out]; omega) K1 (Or.inl hKA1.symm)
                rw [hKA1] at r2
                rw [hKA] at r1
                have hCl : C.length = n - K1 := by omega
                rw [hCl] at r2
                have X1 := hid_into r1
                have X2 := hid_into r2
                have HF := hid_into (H9.out.left hb ho (by rw [HLL.out]; intro z hz; rcases List.mem_append.1 hz with h | h; exact List.mem_append_left _ h; exact List.mem_append_right _ (List.mem_cons_of_mem _ h)) (by rw [HLL.out]; simp only [List.length_append, List.length_cons]; omega))
                obtain ⟨av3, cv3, hv3, _, _⟩ := ho.form
                subst hv3
                clear r1 r2 ho hb RT hK1 hCl hNN hKA1
                go_region_held3 (fun _ => True) (trivial)
                  (first
                    | (refine step_append_eq rfl 56 (.tmp 153) (.tmp 156) rfl _ _ _ (by rfl) (by rfl) X1.out ?_)
                    | (refine step_append_eq rfl 56 (.tmp 157) (.tmp 161) rfl _ _ _ (by rfl) (by rfl) X2.out ?_))
                go_wp2_with fail
                go_meet
                exact ⟨s3, Tl.set i true, A ++ C, (A ++ C).length, av3, cv3, by rw [List.length_append, hKA], hid_into rfl, HF, HM3, HE3⟩
            · have hz' : (AA == 0) = false := by simp [hz]
              obtain rfl : s3 = s2 := HRN.out hz
              clear HRT HRN t0 t1 hz
              go_wp2_with fail
              go_meet
              exact ⟨s3, Tl, L, n, _, cv, rfl, HLN, H5, HM2, HE2⟩
          · obtain rfl : b2 = false := by simpa using hb
            clear hb
            go_wp2_with fail
            go_meet
            exact ⟨s2, Tl, L, n, av, cv, rfl, HLN, hid_into (HS2.out.wup (by omega)), HM2, HE2⟩
      case rest =>
      obtain ⟨s3, Tl3, L3, n3, av3, cv3, rfl, HLN3, HS3, HM3, HE3⟩ := hcut
      clear HS2 HM2 HE2 HLN hn HB2
      rename World => W8
      go_upto_block 4 with fail
      go_cut [25] (fun va wx => ∃ (m : Nat) (av : Option Addr) (cv : Nat), va = .slice av m cv ∧ Hid (s3.B = m) ∧ Hid (m ≤ 60) ∧ Hid (Po wx W8.heap.size (.slice av m cv) (frst (fun k => prM q (gd xm k) (gd xh k)) m) ∧ Below W8.heap.size W8 wx))
      case first =>
        as_aux_lemma =>
          go_wp2_with fail
          go_loopw [25, 26] (fun va vn wr => ∃ (m : Nat) (av : Option Addr) (cv : Nat), m ≤ D2 ∧ vn = .int .i64 (m : Int) ∧ va = .slice av m cv ∧ Hid (∀ j, j < m → Tl3.getD j false = true) ∧ Hid (Po wr W8.heap.size (.slice av m cv) (frst (fun k => prM q (gd xm k) (gd xh k)) m) ∧ Below W8.heap.size W8 wr)) (fun _ vn _ => D2 - (intOf vn).toNat)
          case atStart => exact ⟨0, none, 0, Nat.zero_le _, rfl, rfl, fun j hj => absurd hj (Nat.not_lt_zero _), Po.nil _ _, Below.refl _ _⟩
          case round =>
            obtain ⟨m, av, cv, hm, rfl, rfl, HTT, HP⟩ := hrel
            have HB := hid_into (HS3.out.next HP.out.2)
            by_cases hm1 : m < D2
            · have hm1' : (m : Int) < (D2 : Int) := by omega
              by_cases hm2 : m < lh
              · have hm2' : (m : Int) < (lh : Int) := by omega
                have c0 : wr.cell? ⟨tb, m, none⟩ = some (.bool (Tl3.getD m false)) := by rw [HB.out.tc.cell]; simp [List.getD, List.getElem?_eq_getElem (show m < Tl3.length by rw [HB.out.tl, HAL.out.2]; exact hm2)]
                cases hb : Tl3.getD m false with
                | true =>
                  rw [hb] at c0
                  obtain ⟨ga, oa, rfl, _⟩ := (HRM.out _ HB.out.b).at' m (gd xm m) (by unfold gd; simp [List.getD, List.getElem?_eq_getElem (show m < xm.length by rw [HAL.out.1]; omega)])
                  obtain ⟨gb, ob, rfl, _⟩ := (HRH.out _ HB.out.b).at' m (gd xh m) (by unfold gd; simp [List.getD, List.getElem?_eq_getElem (show m < xh.length by rw [HAL.out.2]; omega)])
                  have CX : Hid (∀ W, Below w1.heap.size w1 W → W.cell? ⟨ga, oa + m, none⟩ = some (.int .u16 (gd xm m)) ∧ W.cell? ⟨gb, ob + m, none⟩ = some (.int .u16 (gd xh m))) := by
                    intro W hW
                    obtain ⟨ga', oa', ea, ca⟩ := (HRM.out W hW).at' m (gd xm m) (by unfold gd; simp [List.getD, List.getElem?_eq_getElem (show m < xm.length by rw [HAL.out.1]; omega)])
                    obtain ⟨gb', ob', eb, cb⟩ := (HRH.out W hW).at' m (gd xh m) (by unfold gd; simp [List.getD, List.getElem?_eq_getElem (show m < xh.length by rw [HAL.out.2]; omega)])
                    cases ea
                    cases eb
                    have da := ca 0 _ rfl
                    have db := cb 0 _ rfl
                    simp only [Nat.mul_one, Nat.add_zero] at da db
                    exact ⟨da, db⟩
                  have HTT2 : Hid (∀ j, j < m + 1 → Tl3.getD j false = true) := fun j hj => by
                    by_cases e : j = m
                    · rw [e]; exact hb
                    · exact HTT.out j (by omega)
                  have HFS : Hid (frst (fun k => prM q (gd xm k) (gd xh k)) (m + 1) = frst (fun k => prM q (gd xm k) (gd xh k)) m ++ [((prM q (gd xm m) (gd xh m)).1, (prM q (gd xm m) (gd xh m)).2)]) := frst_succ _ _
                  have hfl := frst_len (fun k => prM q (gd xm k) (gd xh k)) m
                  have HP1 := hid_into HP.out.1
                  have HP2 := hid_into HP.out.2
                  have HBB := hid_into HB.out.b
                  obtain ⟨fs1, hfs⟩ : ∃ fs1, fs1 = frst (fun k => prM q (gd xm k) (gd xh k)) (m + 1) := ⟨_, rfl⟩
                  rw [← hfs] at HFS
                  have HF1 := hid_into hfs
                  clear hfs
                  generalize frst (fun k => prM q (gd xm k) (gd xh k)) m = fs0 at *
                  generalize gd xm m = x at *
                  generalize gd xh m = y at *
                  clear hb HP
                  obtain ⟨V, rfl⟩ : ∃ V : World, V = wr := ⟨_, rfl⟩
                  go_upto_region 35 with fail
                  go_cut [27] (fun pv wx => pv = .pointer (some ⟨V.heap.size, 0, none⟩) ∧ Hid (Cw wx V.heap.size [.int .u16 x, .int .u16 y] 62 ∧ Below V.heap.size V wx))
                  case first =>
                    have hml : m < lm := by omega
                    have hml' : (m : Int) < (lm : Int) := by omega
                    obtain ⟨s1, s2'⟩ := CX.out V.drew HBB.out.drew
                    obtain ⟨s5, s6⟩ := CX.out (V.alloc (.cells #[.int .u16 0, .int .u16 0] 62)).drew (HBB.out.alloc HBB.out.size _).drew
                    go_region
                    all_goals (go_wp2_with fail; go_meet; exact ⟨rfl, hid_into ⟨Cw.new V [.int .u16 x, .int .u16 y] 62, ((Below.refl _ _).alloc (Nat.le_refl _) _).drew⟩⟩)
                  case rest =>
                  obtain ⟨rfl, HC⟩ := hcut
                  rename World => V2
                  obtain ⟨q1, hq1⟩ : ∃ q1, q1 = (q == 1) := ⟨_, rfl⟩
                  rw [eq_comm] at hq1
                  go_upto_if 191 with fail
                  go_cut [] (fun wx => Hid (Cw wx V.heap.size [.int .u16 (prM q x y).1, .int .u16 (prM q x y).2] 62 ∧ Below V.heap.size V wx))
                  case first =>
                    rcases HQ2.out with h | h
                    · obtain rfl : q1 = false := by rw [← hq1, h]; rfl
                      have e : Hid (prM q x y = (x, y)) := by rw [h]; exact hid_into rfl
                      clear h
                      go_wp2_with fail
                      go_meet
                      exact (by rw [e.out]; exact HC)
                    · obtain rfl : q1 = true := by rw [← hq1, h]; rfl
                      have e : Hid (prM q x y = (y, x)) := by rw [h]; exact hid_into rfl
                      clear h
                      go_wp2_with fail
                      have hml : m < lm := by omega
                      have hml' : (m : Int) < (lm : Int) := by omega
                      have hcd : Cw V2.drew V.heap.size [.int .u16 x, .int .u16 y] 62 := HC.out.1
                      have z0 : V2.drew.cell? ⟨V.heap.size, 0, none⟩ = some (.int .u16 x) := hcd.cell 0
                      have z1 : V2.drew.cell? ⟨V.heap.size, 1, none⟩ = some (.int .u16 y) := hcd.cell 1
                      have z2 := hcd.frozen 0
                      have z4 : V2.cell? ⟨V.heap.size, 1, none⟩ = some (.int .u16 y) := HC.out.1.cell 1
                      have z5 := HC.out.1.frozen 1
                      have z3 := hcd.frozen 1
                      have HCD := hid_into hcd
                      clear hcd
                      obtain ⟨s1, s2'⟩ := CX.out V2.drew (HBB.out.trans (HC.out.2.mono HBB.out.size)).drew
                      go_region
                      all_goals (go_wp2_with fail; go_meet; exact (by rw [e.out]; exact hid_into ⟨(HC.out.1.set 0 (.int .u16 y)).set 1 (.int .u16 x), (HC.out.2.trans (((Only.set V.heap.size 0 V2 (.int .u16 y)).trans (Only.set V.heap.size 1 _ (.int .u16 x))).below (Nat.le_refl _))).drew⟩))
                  case rest =>
                  rename World => V3
                  have HC3 := hid_into hcut.out
                  clear hcut HC
                  have c1 : V3.cell? ⟨V.heap.size, 0, none⟩ = some (.int .u16 (prM q x y).1) := HC3.out.1.cell 0
                  have c2 : V3.cell? ⟨V.heap.size, 1, none⟩ = some (.int .u16 (prM q x y).2) := HC3.out.1.cell 1
                  have b3 := hid_into (HP2.out.trans (HC3.out.2.mono HP2.out.size))
                  have HP3 := hid_into (HP1.out.below HC3.out.2)
                  generalize (prM q x y).1 = x1 at *
                  generalize (prM q x y).2 = y1 at *
                  obtain ⟨v', w', hr, h2, h3⟩ := app1 x1 y1 HP3.out (by rw [hfl]; omega) b3.out.size (V3.alloc (.cells #[.int .u16 x1, .int .u16 y1] 62)) rfl ((Below.refl _ _).alloc b3.out.size _)
                  rw [← HFS.out] at h2
                  obtain ⟨av2, cv2, hv2⟩ := h2.form
                  have hl1 : fs1.length = m + 1 := by rw [HFS.out, List.length_append, hfl]; rfl
                  rw [hl1] at hv2
                  subst hv2
                  have HR1 := hid_into hr
                  have H2 := hid_into h2
                  have H3 := hid_into (b3.out.trans h3)
                  clear hr h2 h3 hl1 hfl
                  go_wp2_with (refine wpList_append_eq (w' := w') rfl 60 (.tmp 201) (.tmp 203) rfl _ _ (.slice av2 (m + 1) cv2) (by rfl) (by rfl) ?_ ?_; exact HR1.out)
                  go_roundw
                  case rel => exact ⟨m + 1, av2, cv2, by omega, by go_num, rfl, HTT2, by rw [← HF1.out]; exact H2.out, H3.out⟩
                  case measure => simp [intOf]; omega
                | false =>
                  rw [hb] at c0
                  go_wp2_with fail
                  go_meet
                  exact ⟨m, av, cv, rfl, hid_into (HB.out.B HM3.out hm HTT.out (Or.inr hb)), by refine hid_into ?_; omega, HP⟩
              · have hm2' : ¬ (m : Int) < (lh : Int) := by omega
                have hb : Tl3.getD m false = false := by simp [List.getD, List.getElem?_eq_none (show Tl3.length ≤ m by rw [HB.out.tl, HAL.out.2]; omega)]
                have HB1 := hid_into hb
                clear hb
                go_wp2_with fail
                go_meet
                exact ⟨m, av, cv, rfl, hid_into (HB.out.B HM3.out hm HTT.out (Or.inr HB1.out)), by refine hid_into ?_; omega, HP⟩
            · have hm1' : ¬ (m : Int) < (D2 : Int) := by omega
              have HMD := hid_into (show m = D2 by omega)
              go_wp2_with fail
              go_meet
              exact ⟨m, av, cv, rfl, hid_into (HB.out.B HM3.out hm HTT.out (Or.inl HMD.out)), by refine hid_into ?_; omega, HP⟩
      case rest =>
      obtain ⟨m, av, cv, rfl, HBm, HM6, HP⟩ := hcut
      rename World => W9
      have HSU := HS3.out.sure HBm.out
      rw [HE3.out] at HSU
      have HB9 := hid_into (HS3.out.b.trans (HP.out.2.mono HS3.out.b.size))
      have HKq := hid_into (HKB.out _ HB9.out)
      have wf := HS3.out.se.sureGs.wf
      rw [HSU] at wf
      have CQ := hid_into (C25.out W9 _ m (by have := HM6.out; omega) HB9.out HP.out.1.ls)
      have CS : Hid (∀ W, Below W8.heap.size W8 W → Calls Tryz.prog 20 #[.pointer (some ⟨X.sb, 0, none⟩)] W fun e w' => e = .returned (.agg (stV (s3.sure G)).toArray) ∧ Below W.heap.size W w') := fun W hW => (HS3.out.next hW).se.Sure
      rw [HSU] at CS
      have HN := st_size wf
      have HL := st_len wf
      have HO := st_one wf
      have HEq : Hid (∀ W : World, (Op.equalIn 10000 48 (.agg (stV (endG G.l G.cap G.fuel (startS G.seed) (frst (fun k => prM q (gd xm k) (gd xh k)) m))).toArray) (.agg (stV (endG G.l G.cap G.fuel (startS G.seed) (frst (fun k => prM q (gd xm k) (gd xh k)) m))).toArray)).run Tryz.prog W = .ok true W) := fun W => by have := run_eqS _ _ wf wf W; rw [eqS_same] at this; exact this
      have HZ : Hid ((Tryz.prog.info? 48).bind (·.zero) = some (.agg zeroS.toArray)) := Tryz.zero48
      have ZS := zeroS_size
      generalize stV (endG G.l G.cap G.fuel (startS G.seed) (frst (fun k => prM q (gd xm k) (gd xh k)) m)) = cs at *
      clear wf HSU
      have HP2 := hid_into HP.out.2
      clear HP HBm HM6
      go_wp2_with (first
        | (refine wpList_load_rwG (by kernel_rfl) 24 (.tmp 6) rfl w.heap.size [.slice ac l.length cp, .int .i64 cap, .int .i64 fuel] 24 _ rfl ?_ Tryz.underlying24 rfl H24 ?_; exact HKq.out)
        | (go_at_call 25; refine CQ.out.mono ?_; rintro e w7 ⟨rfl, B7⟩; have HB7 := hid_into (HP2.out.trans (B7.mono HP2.out.size)); clear B7)
        | (refine wpList_alloc_row rfl 48 rfl zeroS HZ.out ?_; intro Wa hna Ba _)
        | (refine wpList_store_rw rfl 48 (.tmp 28) (.tmp 210) rfl w7.heap.size zeroS cs 48 rfl rfl ?_ ZS HL HO.out ?_; exact hna; intro Wb hnb Ob; have HBb := hid_into (HB7.out.trans ((Ba.trans (Ob.below (Nat.le_refl _))).mono HB7.out.size)); have HNb := hid_into hnb; clear Ba Ob hna hnb))
      generalize w7.heap.size = wb at *
      have HSk : Hid (∀ V, Below Wb.heap.size Wb V → V.rangeAt wb 0 cs) := fun V hV => (HNb.out.below hV HNb.out.lt).range
      have CS2 : Hid (∀ V, Below Wb.heap.size Wb V → Calls Tryz.prog 20 #[.pointer (some ⟨X.sb, 0, none⟩)] V fun e w' => e = .returned (.agg cs.toArray) ∧ Below V.heap.size V w') := fun V hV => CS.out V (HBb.out.trans (hV.mono HBb.out.size))
      have S0 := HSk.out Wb.drew (Below.refl _ _).drew
      have HB0 : Hid (Below Wb.heap.size Wb Wb.drew) := (Below.refl _ _).drew
      refine wp_region_held (S := fun V => V.rangeAt wb 0 cs) (by kernel_rfl) ?_
      change wpAnyH _ _ _ _ _ _ _ _ (World.drew _)
      refine wpAnyH_take (i := 0) (v := .pointer (some ⟨X.sb, 0, none⟩)) rfl (by kernel_rfl) (by kernel_rfl) (by kernel_rfl) (fun _ _ _ h => h) (Or.inl ⟨by kernel_rfl, by intro V _; go_simp⟩) S0 ?_
      refine wpAnyH_take (i := 2) (v := .agg cs.toArray) rfl (by kernel_rfl) (by kernel_rfl) (by kernel_rfl) (fun _ _ _ h => h) (yieldsIf_load_mid (by kernel_rfl) 48 (.tmp 28) rfl wb 0 (by kernel_rfl) cs _ (fun V h => h) Tryz.underlying48 rfl HN.out) S0 ?_
      refine wpAnyH_ready (rs := [1]) (by kernel_rfl) (by simp) ?_
      try simp only [List.getElem_toArray, List.getElem_cons_zero, List.getElem_cons_succ, Act.put, List.setIfInBounds_toArray, List.set_cons_zero, List.set_cons_succ]
      refine AllReadyH.cons rfl (fun KK hK => ?_) AllReadyH.nil
      go_simp
      refine (CS2.out _ HB0.out).mono ?_
      rintro e wa ⟨rfl, Bx⟩
      have HB1 := hid_into (HB0.out.trans (Bx.mono HB0.out.size))
      have S1 := HSk.out wa HB1.out
      dsimp only
      refine hK.out _ _ (by exact S1) (fun _ => ?_)
      clear hK KK Bx
      refine wpAnyH_take (i := 3) (v := .bool false) rfl (by kernel_rfl) (by kernel_rfl) (by kernel_rfl) (fun _ _ _ h => h) (yieldsIf_neq28 (by kernel_rfl) (.tmp 213) (.tmp 214) rfl cs cs true HEq (by kernel_rfl) (by kernel_rfl)) S1 ?_
      simp only [List.getElem_toArray, List.getElem_cons_zero, List.getElem_cons_succ, Act.put, List.setIfInBounds_toArray, List.set_cons_zero, List.set_cons_succ]
      refine wpAnyH_done (by kernel_rfl) ?_ _
      have HFIN := hid_into (HS3.out.next (HBb.out.trans (HB1.out.mono HBb.out.size)))
      go_wp2_with fail
      go_roundw
      case rel => exact ⟨k + 1, D2, s3, Tl3, L3, n3, av3, cv3, by omega, by go_num, rfl, rfl, HLN3, HFIN, HM3, HE3⟩
      case measure => simp [intOf]; omega
    · have HK3 := hid_into (show k = 300 by omega)
      have hge : ¬ (k : Int) < 300 := by omega
      clear hlt
      go_wp2_with (go_at_call 12; refine (CK.out _).mono ?_; rintro e w9 ⟨rfl, B9⟩)
      go_ret
      exact ⟨rfl, hgrow.out _ (HS.out.b.trans (B9.mono HS.out.b.size))⟩
end Go.Proofs.YtbfldcieibdapaaGreat
