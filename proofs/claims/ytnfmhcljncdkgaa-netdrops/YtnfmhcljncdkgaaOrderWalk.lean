/-
  NetOrder's own walk.
-/
import Derived.Test.YtnfmhcljncdkgaaNetLaw
import Derived.Test.YtnfmhcljncdkgaaNetSame
import Derived.Test.YtnfmhcljncdkgaaArgIn
namespace Go.Proofs.Ytnfmhcljncdkgaa
open Go.RowKit
/-- Rows of bytes that came in: where each stands. -/
theorem row_at {W : World} {a : Option Addr} {n cap : Nat} {l : List Bi} {i : Nat} {r : Bi} (h : Ax.Rw W 1 Bi.cells a n cap l) (hi : l[i]? = some r) : ∃ g off, a = some ⟨g, off, none⟩ ∧ W.cell? ⟨g, off + i, none⟩ = some r.v := by
  obtain ⟨g, off, ha, hc⟩ := h.at' i r hi
  exact ⟨g, off, ha, by have := hc 0 r.v rfl; simpa using this⟩
def lzs (l : List Bi) : List (List Int) := l.map Bi.zs
theorem lzs_at {l : List Bi} {i : Nat} {r : Bi} (h : l[i]? = some r) : (lzs l).getD i [] = r.zs := by simp [lzs, List.getD, h]
theorem sent_send {l : List Bi} {i : Nat} {r : Bi} (h : l[i]? = some r) (hi : i < 1024) : sendN (sentN (lzs l) i) ⟨(i : Int), 1, r.zs⟩ = sentN (lzs l) (i + 1) := by
  unfold sendN
  rw [if_neg (by rw [sentN_len]; omega), sentN_succ, lzs_at h]
theorem sent_drop {l : List Bi} {i n : Nat} {r : Bi} (h : l[i]? = some r) (hi : i < n) : (sentN (lzs l) n).drop i = ⟨(i : Int), 1, r.zs⟩ :: (sentN (lzs l) n).drop (i + 1) := by
  have hlt : i < (sentN (lzs l) n).length := by rw [sentN_len]; exact hi
  have e := sentN_at (lzs l) hi
  rw [List.getElem?_eq_getElem hlt, lzs_at h] at e
  rw [List.drop_eq_getElem_cons hlt, Option.some.inj e]
/-- What all rows keep. -/
structure Rk (W : World) (l : List Bi) (n : Nat) (a : Option Addr) (cap : Nat) : Prop where
  r : Ax.Rw W 1 Bi.cells a n cap l
  ok : ∀ r ∈ l, Bi.ok W r
theorem Rk.at {W0 W : World} {l : List Bi} {n cap i : Nat} {a : Option Addr} (h : Rk W0 l n a cap) (hb : Below W0.heap.size W0 W) (hi : i < n) : ∃ r g off ao c, l[i]? = some r ∧ a = some ⟨g, off, none⟩ ∧ r.v = .slice ao r.zs.length c ∧ W.cell? ⟨g, off + i, none⟩ = some (.slice ao r.zs.length c) ∧ Bs W (.slice ao r.zs.length c) r.zs ∧ (∀ z ∈ r.zs, 0 ≤ z ∧ z < 256) ∧ r.zs.length ≤ 140737488355328 := by
  have hl := h.r.len
  obtain ⟨r, hr⟩ : ∃ r, l[i]? = some r := ⟨_, List.getElem?_eq_getElem (by omega)⟩
  obtain ⟨hbs, hby, hle⟩ := h.ok r (List.mem_of_getElem? hr)
  obtain ⟨g, off, ha, hc⟩ := row_at (h.r.below hb (Nat.le_refl _)) hr
  obtain ⟨ao, c, hv, _⟩ := hbs.len
  refine ⟨r, g, off, ao, c, hr, ha, hv, by rw [← hv]; exact hc, by rw [← hv]; exact hbs.below hb (Nat.le_refl _), hby, hle⟩
theorem Rk.at2 {W0 W : World} {l : List Bi} {n cap i g off c : Nat} {ao : Option Addr} {r : Bi} (h : Rk W0 l n (some ⟨g, off, none⟩) cap) (hb : Below W0.heap.size W0 W) (hi : l[i]? = some r) (hv : r.v = .slice ao r.zs.length c) : W.cell? ⟨g, off + i, none⟩ = some (.slice ao r.zs.length c) ∧ Bs W (.slice ao r.zs.length c) r.zs := by
  obtain ⟨hbs, _⟩ := h.ok r (List.mem_of_getElem? hi)
  obtain ⟨g', off', ha, hc⟩ := row_at (h.r.below hb (Nat.le_refl _)) hi
  simp only [Option.some.injEq, Addr.mk.injEq, and_true] at ha
  obtain ⟨rfl, rfl⟩ := ha
  rw [← hv]
  exact ⟨hc, hbs.below hb (Nat.le_refl _)⟩
theorem same_drewN {W : World} {va vb : Value} {zs : List Int} (ha : Bs W va zs) (hb : Bs W vb zs) (n : Nat) : Calls Try.prog 26 #[va, vb] (W.drewN n) fun e w' => e = .returned (.bool true) ∧ ∃ m, w' = (W.drewN n).drewN m := by
  have := same_quiet va vb zs zs (W.drewN n) ((Sm.drewN W n).bs ha) ((Sm.drewN W n).bs hb)
  rw [eqB_true rfl] at this
  exact this
theorem Rk.gd {W0 : World} {l : List Bi} {n cap : Nat} {a : Option Addr} (h : Rk W0 l n a cap) (k j : Nat) (hk : k ≤ n) : ∀ m ∈ (sentN (lzs l) k).drop j, Gd m := fun m hm => by
  have hm := List.mem_of_mem_drop hm
  obtain ⟨i, hi⟩ := List.getElem?_of_mem hm
  have hlt := (List.getElem?_eq_some_iff.1 hi).1
  rw [sentN_len] at hlt
  have hl := h.r.len
  obtain ⟨r, hr⟩ : ∃ r, l[i]? = some r := ⟨_, List.getElem?_eq_getElem (by omega)⟩
  rw [sentN_at (lzs l) hlt, lzs_at hr] at hi
  obtain rfl := Option.some.inj hi
  obtain ⟨_, hby, hle⟩ := h.ok r (List.mem_of_getElem? hr)
  exact ⟨hby, by show r.zs.length ≤ maxLen; unfold maxLen; omega⟩
set_option maxRecDepth 20000 in
set_option maxHeartbeats 4000000 in
theorem order_walk (a : Option Addr) (n cap : Nat) (l : List Bi) (w : World) (hr : Ax.Rw w 1 Bi.cells a n cap l) (hg : ∀ r ∈ l, Bi.ok w r) (hz : n ≤ 140737488355328) :
    Calls Try.prog 6 #[.slice a n cap] w fun e w' => e = .returned (.bool true) ∧ Below w.heap.size w w' := by
  have RK : Hid (Rk w l n a cap) := ⟨hr, hg⟩
  have CK := hid_into (fun (W : World) (hb : Below w.heap.size w W) => ln_known (w0 := w) (w := W) hb)
  have CN := hid_into (fun (W : World) (hb : Below w.heap.size w W) => ln_new w (w := W) hb)
  clear hr hg
  go_enter Try.func6, Try.ntmps6
  go_wp2_with fail
  go_loopw [3, 4] (fun x y wr => ∃ k N : Nat, x = .int .i64 (N : Int) ∧ y = .int .i64 (k : Int) ∧ k ≤ n ∧ 5 * k ≤ N ∧ N ≤ 5000 ∧ w = wr) (fun _ y _ => n - (intOf y).toNat)
  case atStart => exact ⟨0, 0, rfl, rfl, by omega, by omega, by omega, rfl⟩
  case round =>
    obtain ⟨k, N, rfl, rfl, hk, hN, hN2, rfl⟩ := hrel
    by_cases hlt : k < n
    · obtain ⟨r, g, off, ao, c, hri, rfl, hv, hc, hbs, hby, hle⟩ := RK.out.at (Below.refl _ _) hlt
      have hlt2 : (k : Int) < (n : Int) := by omega
      by_cases hbig : (5000 : Int) < (N : Int) + 5 + (r.zs.length : Int)
      · clear hbs hby hri hv
        go_wp2_with fail
        go_ret
        exact ⟨rfl, Below.refl _ _⟩
      · clear hbs hby hri hv
        go_wp2_with fail
        go_roundw
        case rel => exact ⟨k + 1, N + 5 + r.zs.length, by go_num, by go_num, by omega, by omega, by omega, trivial⟩
        case measure => simp [intOf]; omega
    · obtain rfl : n = k := by omega
      have hlt2 : ¬ (n : Int) < (n : Int) := by omega
      have hn : n ≤ 1000 := by omega
      have SN : Hid (∀ (W : World) (nb i : Nat) (r : Bi) (s : Value), i < n → l[i]? = some r → Bs W s r.zs → Ln w W nb (sentN (lzs l) i) → Calls Try.prog 11 #[.pointer (some ⟨nb, 0, none⟩), .agg #[.int .i64 (i : Int), .int .i64 1, s]] W fun e w' => e = .returned (.bool true) ∧ Ln w w' nb (sentN (lzs l) (i + 1))) := fun W nb i r s hi hri hbs h => by
        have := ln_send h ⟨(i : Int), 1, r.zs⟩ hbs
        rw [sent_send hri (by omega), show sendB (sentN (lzs l) i) = true from decide_eq_true (by rw [sentN_len]; omega)] at this
        exact this
      have GV : Hid (∀ (W : World) (nb i : Nat) (r : Bi), i < n → l[i]? = some r → Ln w W nb ((sentN (lzs l) n).drop i) → Calls Try.prog 15 #[.pointer (some ⟨nb, 0, none⟩), .int .i64 0] W fun e w' => ∃ ao q c, e = .returned (.tuple #[.agg #[.int .i64 (i : Int), .int .i64 1, .slice ao q c], .bool true]) ∧ Ln w w' nb ((sentN (lzs l) n).drop (i + 1)) ∧ Bs w' (.slice ao q c) r.zs) := fun W nb i r hi hri h => by
        have hd := sent_drop hri hi
        refine (ln_give h (by rw [hd]; simp) (RK.out.gd n i (Nat.le_refl _)) 0).mono ?_
        rintro e w' ⟨m, ao, q, c, hm, rfl, hl, hb⟩
        rw [hd] at hm hl
        rw [give_first.2] at hl
        rw [give_first.1] at hm
        obtain rfl := Option.some.inj hm
        exact ⟨ao, q, c, rfl, hl, hb⟩
      have LE : Hid (∀ (W : World) (nb : Nat), Ln w W nb ((sentN (lzs l) n).drop n) → Calls Try.prog 24 #[.pointer (some ⟨nb, 0, none⟩)] W fun e w' => e = .returned (.int .i64 0) ∧ w' = W) := fun W nb h => by
        have := ln_len h
        rw [List.length_drop, sentN_len, Nat.sub_self] at this
        exact this
      clear hk hN hN2 hlt
      go_wp2_with (go_at_call 9; refine (CN.out _ (Below.refl _ _)).mono ?_; rintro e w1 ⟨nb, rfl, s1⟩)
      go_loopw [6] (fun x wr => ∃ k : Nat, x = .int .i64 (k : Int) ∧ k ≤ n ∧ Ln w wr nb (sentN (lzs l) k)) (fun x _ => n - (intOf x).toNat)
      case atStart => exact ⟨0, rfl, by omega, s1⟩
      case round =>
        obtain ⟨k, rfl, hk, st⟩ := hrel
        by_cases hlt : k < n
        · obtain ⟨r, g, off, ao, c, hri, rfl, hv, hc, hbs, hby, hle⟩ := RK.out.at st.b hlt
          have hlt3 : (k : Int) < (n : Int) := by omega
          have hs := hid_into (SN.out wr nb k r _ hlt hri hbs st)
          clear hbs hby hri hv st
          go_wp2_with (go_at_call 11; refine hs.out.mono ?_; rintro e w2 ⟨rfl, s2⟩)
          go_roundw
          case rel => exact ⟨k + 1, by go_num, by omega, s2⟩
          case measure => simp [intOf]; omega
        · obtain rfl : n = k := by omega
          go_wp2_with fail
          go_loopw [7] (fun x wr => ∃ k : Nat, x = .int .i64 (k : Int) ∧ k ≤ n ∧ Ln w wr nb ((sentN (lzs l) n).drop k)) (fun x _ => n - (intOf x).toNat)
          case atStart => exact ⟨0, rfl, by omega, st⟩
          case round =>
            obtain ⟨k, rfl, hk, st⟩ := hrel
            by_cases hlt : k < n
            · obtain ⟨r, g, off, ao, c, hri, rfl, hv, hc, hbs, hby, hle⟩ := RK.out.at st.b hlt
              have hlt3 : (k : Int) < (n : Int) := by omega
              have hs := hid_into (GV.out wr nb k r hlt hri st)
              have RB : Hid (∀ W, Below w.heap.size w W → W.cell? ⟨g, off + k, none⟩ = some (.slice ao r.zs.length c) ∧ Bs W (.slice ao r.zs.length c) r.zs) := fun W hb => RK.out.at2 hb hri hv
              clear hc hbs hby hri hv st
              go_wp2_with (first
                | (go_at_call 15; refine hs.out.mono ?_; rintro e w2 ⟨ao2, q2, c2, rfl, s2, hbs2⟩)
                | (refine wpList_alloc_row rfl 25 rfl [.int .i64 0, .int .i64 0, .slice none 0 0] zero25 ?_; intro w3 d3 hb3 hs3)
                | (have := d3; refine wpList_store_rw rfl 25 (.tmp 8) (.tmp 53) rfl w2.heap.size _ [.int .i64 (k : Int), .int .i64 1, .slice ao2 q2 c2] _ (by rfl) (by rfl) d3 size25 rfl (msC_one _ _ _ _ _) ?_; intro w4 d4 ho4; have hb4 := ho4.belowTo hb3 (Nat.le_refl _); have s4 := s2.step hb4; have hbs4 := hbs2.below hb4 (Nat.le_refl _); obtain ⟨ha4, hbr4⟩ := RB.out w4 s4.b; have CQ := hid_into (same_drewN hbs4 hbr4); have e0 := d4.cell 0; have e2 := d4.cell 2; simp only [List.getElem?_cons_zero, List.getElem?_cons_succ] at e0 e2; clear d3 d4 hbs2 hbs4 hbr4 s2))
              go_quiet ((go_at_call 26; exact Calls.quiet_of (CQ.out _)))
              have s5 := fun q => s4.step (Sm.below (Sm.drewN w4 q) w4.heap.size)
              go_wp2_with fail
              go_roundw
              case rel => exact ⟨k + 1, by go_num, by omega, s5 _⟩
              case measure => simp [intOf]; omega
            · obtain rfl : n = k := by omega
              go_wp2_with (first
                | (go_at_call 24; refine (LE.out _ _ st).mono ?_; rintro e w2 ⟨rfl, hw⟩; replace hw := hw.symm; subst hw)
                | (go_at_call 25; refine (CK.out _ st.b).mono ?_; rintro e w2 ⟨rfl, hb⟩))
              go_ret
              exact ⟨rfl, hb⟩
end Go.Proofs.Ytnfmhcljncdkgaa
