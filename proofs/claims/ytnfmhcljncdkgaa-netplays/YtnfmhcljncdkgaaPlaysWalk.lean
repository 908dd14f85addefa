/-
  NetPlays' own walk.
-/
import Derived.Test.YtnfmhcljncdkgaaPlaysA
import Derived.Test.YtnfmhcljncdkgaaNetLaw
import Derived.Deep.RegionHeld3
import Derived.Deep.DeepCutAuto
import Derived.Deep.CutBlock
namespace Go.Proofs.Ytnfmhcljncdkgaa
open Go.RowKit
theorem Tw.sm {w0 w w' : World} {nb rb : Nat} {L : List Mg} {E : List De} {S : Nat → Prop} (h : Tw w0 w nb rb L E S) (hs : Sm w w') : Tw w0 w' nb rb L E S := by
  obtain ⟨v, u, hn, hd, hdis, hS⟩ := h.ex
  exact ⟨⟨v, u, hn.keep fun _ _ => by rw [hs.heap], hd.keep (fun _ _ => by rw [hs.heap]) (by rw [hs.heap]; exact Nat.le_refl _), hdis, hS⟩, h.b.trans (hs.below _), fun k hk => by rw [hs.heap]; exact h.s k hk⟩
theorem Ow.keepB {w w' : World} {base : Nat} {v : Value} {zs : List Int} (h : Ow w base v zs) (hk : ∀ k, v.ownBlock = some k → w'.heap[k]? = w.heap[k]?) : Ow w' base v zs := by
  refine ⟨h.1, ?_⟩
  rcases h.2 with h2 | ⟨g, cap, cur, rfl, hb, hg, rest⟩
  · exact Or.inl h2
  · exact Or.inr ⟨g, cap, cur, rfl, hb, by rw [hk g rfl]; exact hg, rest⟩
theorem msB_same (a b : Int) (z : List Int) : msB a b z a b z = true := decide_eq_true ⟨rfl, rfl, rfl⟩
/-- How long the Net's row is. -/
def rowLen (nb : Nat) (w : World) : Nat := match w.cell? ⟨nb, 0, none⟩ with
  | some (.slice _ n _) => n
  | _ => 0
theorem rowLen_of {w0 w : World} {nb rb : Nat} {L : List Mg} {E : List De} {S : Nat → Prop} (h : Tw w0 w nb rb L E S) : rowLen nb w = L.length := by
  obtain ⟨ao, c, hc⟩ := tw_nrow h
  unfold rowLen
  rw [hc]
theorem size27 : (Try.prog.info? 27).map (·.size) = some 5 := by kernel_rfl
theorem zero27 : (Try.prog.info? 27).bind (·.zero) = some (.agg [.int .i64 0, .int .i64 0, .int .i64 0, .int .i64 0, .slice none 0 0].toArray) := by kernel_rfl
theorem siC_one (a b c d : Int) (ao : Option Addr) (n q : Nat) : ∀ u ∈ [Value.int .i64 a, .int .i64 b, .int .i64 c, .int .i64 d, .slice ao n q], u.oneCell' = true := fun u hu => by
  simp only [List.mem_cons, List.not_mem_nil, or_false] at hu; rcases hu with rfl | rfl | rfl | rfl | rfl <;> rfl
set_option maxRecDepth 20000 in
set_option maxHeartbeats 4000000 in
theorem plays_walk (a : Option Addr) (n cap : Nat) (l : List Si) (w : World) (hr : Ax.Rw w 5 Si.cells a n cap l) (hg : ∀ s ∈ l, s.m.r.ok w) (hz : n ≤ 140737488355328) :
    Calls Try.prog 3 #[.slice a n cap] w fun e w' => e = .returned (.bool true) ∧ Below w.heap.size w w' := by
  have SK : Hid (Sk w l n a cap) := ⟨hr, hg⟩
  clear hr hg
  go_enter Try.func3, Try.ntmps3
  go_wp2_with fail
  go_loopw [3, 4] (fun x y wr => ∃ k N : Nat, x = .int .i64 (N : Int) ∧ y = .int .i64 (k : Int) ∧ k ≤ n ∧ k ≤ 200 ∧ N ≤ 5000 ∧ Hid (∀ j s, j < k → l[j]? = some s → s.m.r.zs.length ≤ N) ∧ w = wr) (fun _ y _ => n - (intOf y).toNat)
  case atStart => exact ⟨0, 0, rfl, rfl, by omega, by omega, by omega, fun j s h => by omega, rfl⟩
  case round =>
    obtain ⟨k, N, rfl, rfl, hk, hk2, hN, hS, rfl⟩ := hrel
    obtain ⟨b, hb⟩ : ∃ b, b = decide (k < n ∧ k < 200) := ⟨_, rfl⟩
    have HB := hid_into hb
    clear hb
    go_upto_region 3 with fail
    go_cut [26] (fun tb wx => tb = .bool b ∧ w = wx)
    case first =>
      as_aux_lemma =>
        by_cases hlt : k < n
        · have i1 : (k : Int) < (n : Int) := by omega
          by_cases hlt2 : k < 200
          · have i2 : (k : Int) < 200 := by omega
            have e : b = true := by rw [HB.out]; exact decide_eq_true ⟨hlt, hlt2⟩
            go_wp2_with fail
            go_meet
            exact ⟨by rw [e], rfl⟩
          · have i2 : ¬ (k : Int) < 200 := by omega
            have e : b = false := by rw [HB.out]; exact decide_eq_false (fun h => hlt2 h.2)
            go_wp2_with fail
            go_meet
            exact ⟨by rw [e], rfl⟩
        · have i1 : ¬ (k : Int) < (n : Int) := by omega
          have e : b = false := by rw [HB.out]; exact decide_eq_false (fun h => hlt h.1)
          go_wp2_with fail
          go_meet
          exact ⟨by rw [e], rfl⟩
    case rest =>
    obtain ⟨rfl, rfl⟩ := hcut
    cases b with
    | true =>
      obtain ⟨hlt, hlt2⟩ := of_decide_eq_true HB.out.symm
      obtain ⟨s, g, off, ao, c, hsi, rfl, hv, hby, hle, hw⟩ := SK.out.at hlt
      obtain ⟨⟨_, _, _, _, m4⟩, _⟩ := hw w (Below.refl _ _)
      have i1 : (k : Int) < (n : Int) := by omega
      clear hw hby hv
      by_cases hbig : (5000 : Int) < (N : Int) + (s.m.r.zs.length : Int)
      · clear hsi
        go_wp2_with fail
        go_ret
        exact ⟨rfl, Below.refl _ _⟩
      · have hS2 : Hid (∀ j t, j < k + 1 → l[j]? = some t → t.m.r.zs.length ≤ N + s.m.r.zs.length) := fun j t hj ht => by
          by_cases hjk : j = k
          · subst hjk
            rw [hsi] at ht
            obtain rfl := Option.some.inj ht
            omega
          · have := hS.out j t (by omega) ht
            omega
        clear hsi hS
        go_wp2_with fail
        go_roundw
        case rel => exact ⟨k + 1, N + s.m.r.zs.length, by go_num, by go_num, by omega, by omega, by omega, hS2, trivial⟩
        case measure => simp [intOf]; omega
    | false =>
      have hfin : k = min n 200 := by
        have := of_decide_eq_false HB.out.symm
        omega
      have HSZ : Hid (∀ j s, j < k → l[j]? = some s → s.m.r.zs.length ≤ 5000) := fun j s hj hs => by have := hS.out j s hj hs; omega
      have CN := hid_into (two_new w)
      have CK := hid_into (fun (W : World) (hb : Below w.heap.size w W) => ln_known (w0 := w) (w := W) hb)
      have HKN := hid_into hfin
      clear hS hN hfin HB
      go_wp2_with (first
        | (go_at_call 9; refine CN.out.mono ?_; rintro e w1 ⟨nb, rfl, T1⟩))
      go_loopw [7] (fun x wr => ∃ (i : Nat) (L : List Mg) (E : List De), x = .int .i64 (i : Int) ∧ i ≤ k ∧ Tw w wr nb w1.heap.size L E (fun _ => False) ∧ Hid (Tm L E)) (fun x _ => k - (intOf x).toNat)
      case atStart => exact ⟨0, [], [], rfl, by omega, T1.out, rfl, fun m hm => by cases hm⟩
      case round =>
        obtain ⟨i, L, E, rfl, hi, st, HM⟩ := hrel
        clear T1
        generalize w1.heap.size = rb at *
        obtain ⟨b2, hb2⟩ : ∃ b2, b2 = decide (i < n ∧ i < 200) := ⟨_, rfl⟩
        have HB2 := hid_into hb2
        clear hb2
        go_upto_region 13 with fail
        go_cut [52] (fun tb wx => tb = .bool b2 ∧ wr = wx)
        case first =>
          as_aux_lemma =>
            by_cases hlt : i < n
            · have i1 : (i : Int) < (n : Int) := by omega
              by_cases hlt2 : i < 200
              · have i2 : (i : Int) < 200 := by omega
                have e : b2 = true := by rw [HB2.out]; exact decide_eq_true ⟨hlt, hlt2⟩
                go_wp2_with fail
                go_meet
                exact ⟨by rw [e], rfl⟩
              · have i2 : ¬ (i : Int) < 200 := by omega
                have e : b2 = false := by rw [HB2.out]; exact decide_eq_false (fun h => hlt2 h.2)
                go_wp2_with fail
                go_meet
                exact ⟨by rw [e], rfl⟩
            · have i1 : ¬ (i : Int) < (n : Int) := by omega
              have e : b2 = false := by rw [HB2.out]; exact decide_eq_false (fun h => hlt h.1)
              go_wp2_with fail
              go_meet
              exact ⟨by rw [e], rfl⟩
        case rest =>
        obtain ⟨rfl, rfl⟩ := hcut
        cases b2 with
        | true =>
          obtain ⟨hlt, hlt2⟩ := of_decide_eq_true HB2.out.symm
          have hik : i < k := by have := HKN.out; omega
          obtain ⟨s, g, off, ao, c, hsi, rfl, hv, hby, hle, hw⟩ := SK.out.at hlt
          have hz5 := HSZ.out i s hik hsi
          obtain ⟨⟨m0, m1, m2, m3, m4⟩, _⟩ := hw wr st.b
          have HW := hid_into hw
          have HBY := hid_into hby
          have i1 : (i : Int) < (n : Int) := by omega
          clear hw hby hv hsi HSZ
          go_upto_region 17 with (first
            | (refine wpList_alloc_row rfl 27 rfl [.int .i64 0, .int .i64 0, .int .i64 0, .int .i64 0, .slice none 0 0] zero27 ?_; intro w2 d2 hb2 hs2)
            | (have := d2; refine wpList_store_rw rfl 27 (.tmp 8) (.tmp 58) rfl wr.heap.size _ [.int .i64 s.k, .int .i64 s.n, .int .i64 s.m.fr, .int .i64 s.m.to, .slice ao s.m.r.zs.length c] _ (by rfl) (by rfl) d2 size27 rfl (siC_one _ _ _ _ _ _ _) ?_; intro w3 cx ho3; have hb3 := ho3.belowTo hb2 (Nat.le_refl _); have T3 := (st.grow hb3).1.less (S' := fun q => wr.heap.size ≤ q ∧ q < w3.heap.size) (fun _ h => Or.inr h); have hxb : wr.heap.size ≤ wr.heap.size ∧ wr.heap.size < w3.heap.size := ⟨Nat.le_refl _, cx.lt⟩; have hxb := hid_into hxb; have x0 := cx.cell 0; have x1 := cx.cell 1; have x2 := cx.cell 2; have x3 := cx.cell 3; have x4 := cx.cell 4; simp only [List.getElem?_cons_zero, List.getElem?_cons_succ] at x0 x1 x2 x3 x4; clear d2 st)
            | fail)
          have st0 := hid_into (show w.heap.size ≤ w3.heap.size from T3.b.size)
          by_cases c1 : s.k = 1
          · as_aux_lemma =>
              have ek : s.k = 1 := by assumption
              rw [ek] at x0
              clear ek
              have HR10 := hid_into (roomy_any _ s.m.r.zs w3 (HW.out w3 T3.b).2 (by omega))
              go_wp2_with (go_at_call 10; refine HR10.out.mono ?_; rintro e w4 ⟨bg, bcap, rfl, hOw, hb4, hbl, hcp⟩)
              have T4 := (T3.grow hb4).1
              have hbg := World.ownsRow.lt hOw bg rfl
              have cx4 := cx.below hb4 cx.lt
              have y2 := cx4.cell 2
              have y3 := cx4.cell 3
              have y4 := cx4.cell 4
              simp only [List.getElem?_cons_zero, List.getElem?_cons_succ] at y2 y3 y4
              have hx4 : (wr.heap.size ≤ wr.heap.size ∧ wr.heap.size < w3.heap.size) ∨ (w3.heap.size ≤ wr.heap.size ∧ wr.heap.size < w4.heap.size) := Or.inl hxb.out
              have hg4 : (wr.heap.size ≤ bg ∧ bg < w3.heap.size) ∨ (w3.heap.size ≤ bg ∧ bg < w4.heap.size) := Or.inr hbg
              have HX4 := hid_into hx4
              have HG4 := hid_into hg4
              have hbsd := (hOw.take s.m.r.zs.length (by simp)).bs
              rw [show (s.m.r.zs ++ [(171 : Int)]).take s.m.r.zs.length = s.m.r.zs by simp] at hbsd
              have HBD := hid_into ((Sm.drewN w4 1).bs hbsd)
              have HOW := hid_into hOw
              have t0 : w4.drew.cell? ⟨wr.heap.size, 2, none⟩ = some (.int .i64 s.m.fr) ∧ w4.drew.cell? ⟨wr.heap.size, 3, none⟩ = some (.int .i64 s.m.to) ∧ w4.drew.cell? ⟨wr.heap.size, 4, none⟩ = some (.slice ao s.m.r.zs.length c) := ⟨y2, y3, y4⟩
              have q1 : s.m.r.zs.length ≤ bcap := by omega
              have q2 : (s.m.r.zs.length : Int) ≤ (bcap : Int) := by omega
              have HC4 := hid_into cx4
              have HBL := hid_into hbl
              clear hx4 hg4 hbsd hOw cx4 hbg hbl hcp
              go_region_held3 (fun u => u.cell? ⟨wr.heap.size, 2, none⟩ = some (.int .i64 s.m.fr) ∧ u.cell? ⟨wr.heap.size, 3, none⟩ = some (.int .i64 s.m.to) ∧ u.cell? ⟨wr.heap.size, 4, none⟩ = some (.slice ao s.m.r.zs.length c)) (first | exact t3 | exact t2 | exact t1 | exact t0)
                (first
                  | (go_at_call 11; refine (tw_send (T4.drewN 1) ⟨s.m.fr, s.m.to, s.m.r.zs⟩ HBD.out).mono ?_; rintro e w5 ⟨rfl, T5, K5, z5⟩; have cx5 := hid_into (HC4.out.keep (K5 _ HX4.out)); have hO5 := hid_into (HOW.out.keepB (fun q hq => by obtain rfl := Option.some.inj hq; exact K5 _ HG4.out)); have t1 : w5.cell? ⟨wr.heap.size, 2, none⟩ = some (.int .i64 s.m.fr) ∧ w5.cell? ⟨wr.heap.size, 3, none⟩ = some (.int .i64 s.m.to) ∧ w5.cell? ⟨wr.heap.size, 4, none⟩ = some (.slice ao s.m.r.zs.length c) := ⟨(by rw [cx5.out.cell]; rfl), (by rw [cx5.out.cell]; rfl), (by rw [cx5.out.cell]; rfl)⟩)
                  | (go_at_call 12; refine (two_rsend T5 HM.out ⟨s.m.fr, s.m.to, s.m.r.zs⟩ (HW.out w5 T5.b).2 HBY.out hz5).mono ?_; rintro e w6 ⟨rfl, E6, M6, T6, K6⟩; have cx6 := hid_into (cx5.out.keep (K6 _ HX4.out)); have hO6 := hid_into (hO5.out.keepB (fun q hq => by obtain rfl := Option.some.inj hq; exact K6 _ HG4.out)); have M6 := hid_into M6; have t2 : w6.cell? ⟨wr.heap.size, 2, none⟩ = some (.int .i64 s.m.fr) ∧ w6.cell? ⟨wr.heap.size, 3, none⟩ = some (.int .i64 s.m.to) ∧ w6.cell? ⟨wr.heap.size, 4, none⟩ = some (.slice ao s.m.r.zs.length c) := ⟨(by rw [cx6.out.cell]; rfl), (by rw [cx6.out.cell]; rfl), (by rw [cx6.out.cell]; rfl)⟩)
                  | (go_at_call 13; refine (stands_any w3.heap.size bg bcap _ s.m.r.zs w6 hO6.out (HW.out w6 T6.b).2 (by omega)).mono ?_; rintro e w7 ⟨rfl, hsm7⟩; have T7 := T6.sm hsm7; have hO7 := hid_into (hsm7.ow hO6.out); have cx7 := hid_into (hsm7.cw cx6.out); have t3 : w7.cell? ⟨wr.heap.size, 2, none⟩ = some (.int .i64 s.m.fr) ∧ w7.cell? ⟨wr.heap.size, 3, none⟩ = some (.int .i64 s.m.to) ∧ w7.cell? ⟨wr.heap.size, 4, none⟩ = some (.slice ao s.m.r.zs.length c) := ⟨(by rw [cx7.out.cell]; rfl), (by rw [cx7.out.cell]; rfl), (by rw [cx7.out.cell]; rfl)⟩))
              have HS14 := hid_into (spoil_any w3.heap.size _ (s.m.r.zs ++ [171]) w7 hO7.out (by have h1 := T7.s bg HG4.out; have h2 := HBL.out; omega) (by simp; omega))
              go_wp2_with (go_at_call 14; refine HS14.out.mono ?_; rintro e w8 ⟨rfl, hg8⟩; have T8 := T7.loc hg8 (fun q hq => by obtain rfl := Option.some.inj hq; exact ⟨HG4.out, by have h1 := HBL.out; have h2 := st0.out; show w.heap.size ≤ bg; omega⟩))
              obtain ⟨uo, uc, kr⟩ := tw_row T8
              have hrl := M6.out.len
              rw [hrl] at kr
              clear hrl
              have CL := hid_into (fun q => tw_len (T8.drewN q))
              go_quiet ((go_at_call 24; exact Calls.quiet_of_same (CL.out _)))
              go_wp2_with fail
              go_roundw
              case rel => exact ⟨i + 1, _, E6, by go_num, by omega, (T8.drewN _).less (fun _ h => h.elim), M6⟩
              case measure => simp [intOf]; omega
          by_cases c2 : s.k = 2
          · as_aux_lemma =>
              have ek : s.k = 2 := by assumption
              rw [ek] at x0
              clear ek
              have HG2 := hid_into (two_give T3 HM.out s.n)
              go_wp2_with (first
                | (go_at_call 15; refine HG2.out.mono ?_; rintro e w4 ⟨ao2, q2, c2, rfl, T4, K4, hsp4, z4⟩; have cx4 := cx.keep (K4 _ hxb.out))
                | (have := d5; refine wpList_store_rw rfl 25 (.tmp 11) (.tmp 103) rfl w4.heap.size _ [.int .i64 (gvT L s.n).fr, .int .i64 (gvT L s.n).to, .slice ao2 q2 c2] _ (by rfl) (by rfl) d5 size25 rfl (msC_one _ _ _ _ _) ?_; intro w6 d6 ho6; have hb6 := ho6.belowTo hb5 (Nat.le_refl _); have T6 := (T4.grow hb6).1; have cx6 := cx4.below hb6 cx4.lt; have y1 := cx6.cell 1; simp only [List.getElem?_cons_zero, List.getElem?_cons_succ] at y1; have hsp6 := hsp4.keep (fun q hq => hb6.block q (T4.s q (Or.inr hq))); have hd6 := hid_into (show w4.heap.size ≤ w4.heap.size ∧ w4.heap.size < w6.heap.size from ⟨Nat.le_refl _, d6.lt⟩); clear d5 cx4)
                | (have := d8; refine wpList_store_rw rfl 25 (.tmp 13) (.tmp 110) rfl w7.heap.size _ [.int .i64 (gvT L s.n).fr, .int .i64 (gvT L s.n).to, .slice ao3 q3 c3] _ (by rfl) (by rfl) d8 size25 rfl (msC_one _ _ _ _ _) ?_; intro w9 d9 ho9; have hb9 := ho9.belowTo hb8 (Nat.le_refl _); have T9 := (T7.grow hb9).1; have d79 := d7.below hb9 d7.lt; have hsp9 := hsp7.keep (fun q hq => hb9.block q (T7.s q (Or.inl (Or.inr hq)))); have hbs9 := hbs7.below hb9 (Nat.le_refl _); have d9k := d9; clear d8 d7)
                | (have := hbs7; refine wpList_alloc_row rfl 25 rfl [.int .i64 0, .int .i64 0, .slice none 0 0] zero25 ?_; intro w8 d8 hb8 hs8)
                | (refine wpList_alloc_row rfl 25 rfl [.int .i64 0, .int .i64 0, .slice none 0 0] zero25 ?_; intro w5 d5 hb5 hs5)
                | (go_at_call 16; refine (two_rgive T6 HM.out s.n).mono ?_; rintro e w7 ⟨ao3, q3, c3, rfl, E7, M7, T7, K7, hbs7, z7⟩; have M7 := hid_into M7; have d7 := d6.keep (K7 _ (Or.inr hd6.out)); have hsp7 := hsp6.keep (fun q hq => K7 q (Or.inl (Or.inr hq))))
                | (have := d79; refine wpList_load_rw rfl 25 (.tmp 11) rfl w4.heap.size _ _ _ (by rfl) d79 Try.underlying25 rfl size25 ?_; have d79k := d79; clear d79)
                | (have := d9; refine wpList_load_rw rfl 25 (.tmp 13) rfl w7.heap.size _ _ _ (by rfl) d9 Try.underlying25 rfl size25 ?_; clear d9)
                | (go_at_call 17; refine (messages_any _ _ _ _ hsp9.bs hbs9).mono ?_; rintro e w10 ⟨rfl, hb10⟩; rw [msB_same]; have T10 := (T9.grow hb10).1; have hsp10 := hsp9.keep (fun q hq => hb10.block q (T9.s q (Or.inl (Or.inl (Or.inr hq))))); have d10 := d79k.below hb10 d79k.lt; have e2 := d10.cell 2; simp only [List.getElem?_cons_zero, List.getElem?_cons_succ] at e2)
                | (go_at_call 14; refine (sp_spoil hsp10 (by have h1 := T10.b.size; have h2 := hb10.size; have h3 := hb9.size; have h4 := hb6.size; omega)).mono ?_; rintro e w11 ⟨rfl, hg11⟩; have T11 := T10.loc hg11 (fun q hq => ⟨Or.inl (Or.inl (Or.inl (Or.inr hq))), by have h1 := hsp10.lo q hq; have h2 := T3.b.size; omega⟩)))
              obtain ⟨uo, uc, kr⟩ := tw_row T11
              have hrl := M7.out.len
              rw [hrl] at kr
              clear hrl
              have CL := hid_into (fun q => tw_len (T11.drewN q))
              go_quiet ((go_at_call 24; exact Calls.quiet_of_same (CL.out _)))
              go_wp2_with fail
              go_roundw
              case rel => exact ⟨i + 1, _, E7, by go_num, by omega, (T11.drewN _).less (fun _ h => h.elim), M7⟩
              case measure => simp [intOf]; omega
          by_cases c3 : s.k = 3
          · as_aux_lemma =>
              have ek : s.k = 3 := by assumption
              rw [ek] at x0
              clear ek
              go_wp2_with fail
              have t0 : w3.drew.cell? ⟨wr.heap.size, 1, none⟩ = some (.int .i64 s.n) := x1
              go_region_held3 (fun u => u.cell? ⟨wr.heap.size, 1, none⟩ = some (.int .i64 s.n)) (first | exact t2 | exact t1 | exact t0)
                (first
                  | (go_at_call 18; refine (two_twice (T3.drewN 1) s.n).mono ?_; rintro e w4 ⟨rfl, T4, K4⟩; have cx4 := cx.keep (K4 _ hxb.out); have t1 : w4.cell? ⟨wr.heap.size, 1, none⟩ = some (.int .i64 s.n) := (by rw [cx4.cell]; rfl))
                  | (go_at_call 19; refine (two_rtwice T4 HM.out s.n).mono ?_; rintro e w5 ⟨rfl, E5, M5, T5, K5⟩; have cx5 := cx4.keep (K5 _ hxb.out); have t2 : w5.cell? ⟨wr.heap.size, 1, none⟩ = some (.int .i64 s.n) := (by rw [cx5.cell]; rfl); have M5 := hid_into M5))
              go_wp2_with fail
              obtain ⟨uo, uc, kr⟩ := tw_row T5
              have hrl := M5.out.len
              rw [hrl] at kr
              clear hrl
              have CL := hid_into (fun q => tw_len (T5.drewN q))
              go_quiet ((go_at_call 24; exact Calls.quiet_of_same (CL.out _)))
              go_wp2_with fail
              go_roundw
              case rel => exact ⟨i + 1, _, E5, by go_num, by omega, (T5.drewN _).less (fun _ h => h.elim), M5⟩
              case measure => simp [intOf]; omega
          by_cases c4 : s.k = 4
          · as_aux_lemma =>
              have ek : s.k = 4 := by assumption
              rw [ek] at x0
              clear ek
              go_wp2_with fail
              have t0 : w3.drew.cell? ⟨wr.heap.size, 1, none⟩ = some (.int .i64 s.n) := x1
              go_region_held3 (fun u => u.cell? ⟨wr.heap.size, 1, none⟩ = some (.int .i64 s.n)) (first | exact t2 | exact t1 | exact t0)
                (first
                  | (go_at_call 20; refine (two_late (T3.drewN 1) s.n).mono ?_; rintro e w4 ⟨rfl, T4, K4⟩; have cx4 := cx.keep (K4 _ hxb.out); have t1 : w4.cell? ⟨wr.heap.size, 1, none⟩ = some (.int .i64 s.n) := (by rw [cx4.cell]; rfl))
                  | (go_at_call 21; refine (two_rlate T4 HM.out s.n).mono ?_; rintro e w5 ⟨rfl, E5, M5, T5, K5⟩; have cx5 := cx4.keep (K5 _ hxb.out); have t2 : w5.cell? ⟨wr.heap.size, 1, none⟩ = some (.int .i64 s.n) := (by rw [cx5.cell]; rfl); have M5 := hid_into M5))
              go_wp2_with fail
              obtain ⟨uo, uc, kr⟩ := tw_row T5
              have hrl := M5.out.len
              rw [hrl] at kr
              clear hrl
              have CL := hid_into (fun q => tw_len (T5.drewN q))
              go_quiet ((go_at_call 24; exact Calls.quiet_of_same (CL.out _)))
              go_wp2_with fail
              go_roundw
              case rel => exact ⟨i + 1, _, E5, by go_num, by omega, (T5.drewN _).less (fun _ h => h.elim), M5⟩
              case measure => simp [intOf]; omega
          by_cases c5 : s.k = 5
          · as_aux_lemma =>
              have ek : s.k = 5 := by assumption
              rw [ek] at x0
              clear ek
              go_wp2_with fail
              have t0 : w3.drew.cell? ⟨wr.heap.size, 1, none⟩ = some (.int .i64 s.n) := x1
              go_region_held3 (fun u => u.cell? ⟨wr.heap.size, 1, none⟩ = some (.int .i64 s.n)) (first | exact t2 | exact t1 | exact t0)
                (first
                  | (go_at_call 22; refine (tw_drop (T3.drewN 1) s.n).mono ?_; rintro e w4 ⟨rfl, T4, K4⟩; have cx4 := cx.keep (K4 _ hxb.out); have t1 : w4.cell? ⟨wr.heap.size, 1, none⟩ = some (.int .i64 s.n) := (by rw [cx4.cell]; rfl))
                  | (go_at_call 23; refine (two_rdrop T4 HM.out s.n).mono ?_; rintro e w5 ⟨rfl, E5, M5, T5, K5⟩; have cx5 := cx4.keep (K5 _ hxb.out); have t2 : w5.cell? ⟨wr.heap.size, 1, none⟩ = some (.int .i64 s.n) := (by rw [cx5.cell]; rfl); have M5 := hid_into M5))
              go_wp2_with fail
              obtain ⟨uo, uc, kr⟩ := tw_row T5
              have hrl := M5.out.len
              rw [hrl] at kr
              clear hrl
              have CL := hid_into (fun q => tw_len (T5.drewN q))
              go_quiet ((go_at_call 24; exact Calls.quiet_of_same (CL.out _)))
              go_wp2_with fail
              go_roundw
              case rel => exact ⟨i + 1, _, E5, by go_num, by omega, (T5.drewN _).less (fun _ h => h.elim), M5⟩
              case measure => simp [intOf]; omega
          · as_aux_lemma =>
              go_wp2_with fail
              obtain ⟨uo, uc, kr⟩ := tw_row T3
              have hrl := HM.out.len
              rw [hrl] at kr
              clear hrl
              have CL := hid_into (fun q => tw_len (T3.drewN q))
              go_quiet ((go_at_call 24; exact Calls.quiet_of_same (CL.out _)))
              go_wp2_with fail
              go_roundw
              case rel => exact ⟨i + 1, _, _, by go_num, by omega, (T3.drewN _).less (fun _ h => h.elim), HM⟩
              case measure => simp [intOf]; omega
        | false =>
          clear HSZ hi
          go_wp2_with fail
          go_loopw [16] (fun _ wr2 => ∃ (L : List Mg) (E : List De), Tw w wr2 nb rb L E (fun _ => False) ∧ Hid (Tm L E)) (fun _ wr2 => rowLen nb wr2)
          case atStart => exact ⟨L, E, st, HM⟩
          case round =>
            obtain ⟨L2, E2, st2, HM2⟩ := hrel
            have hlen := hid_into (rowLen_of st2)
            by_cases hL : L2 = []
            · subst hL
              have HG := hid_into (two_give st2 HM2.out 0)
              clear st
              go_wp2_with (first
                | (go_at_call 15; refine HG.out.mono ?_; rintro e w4 ⟨ao2, q2, c2, rfl, T4, K4, hsp4, z4⟩)
                | (have := d5; refine wpList_store_rw rfl 25 (.tmp 15) (.tmp 171) rfl w4.heap.size _ [.int .i64 (gvT [] 0).fr, .int .i64 (gvT [] 0).to, .slice ao2 q2 c2] _ (by rfl) (by rfl) d5 size25 rfl (msC_one _ _ _ _ _) ?_; intro w6 d6 ho6; have hb6 := ho6.belowTo hb5 (Nat.le_refl _); have T6 := (T4.grow hb6).1; have hsp6 := hsp4.keep (fun q hq => hb6.block q (T4.s q (Or.inr hq))); have hd6 := hid_into (show w4.heap.size ≤ w4.heap.size ∧ w4.heap.size < w6.heap.size from ⟨Nat.le_refl _, d6.lt⟩); clear d5)
                | (have := d8; refine wpList_store_rw rfl 25 (.tmp 17) (.tmp 176) rfl w7.heap.size _ [.int .i64 (gvT [] 0).fr, .int .i64 (gvT [] 0).to, .slice ao3 q3 c3] _ (by rfl) (by rfl) d8 size25 rfl (msC_one _ _ _ _ _) ?_; intro w9 d9 ho9; have hb9 := ho9.belowTo hb8 (Nat.le_refl _); have T9 := (T7.grow hb9).1; have d79 := d7.below hb9 d7.lt; have hsp9 := hsp7.keep (fun q hq => hb9.block q (T7.s q (Or.inl (Or.inr hq)))); have hbs9 := hbs7.below hb9 (Nat.le_refl _); clear d8 d7)
                | (have := hbs7; refine wpList_alloc_row rfl 25 rfl [.int .i64 0, .int .i64 0, .slice none 0 0] zero25 ?_; intro w8 d8 hb8 hs8)
                | (refine wpList_alloc_row rfl 25 rfl [.int .i64 0, .int .i64 0, .slice none 0 0] zero25 ?_; intro w5 d5 hb5 hs5)
                | (go_at_call 16; refine (two_rgive T6 HM2.out 0).mono ?_; rintro e w7 ⟨ao3, q3, c3, rfl, E7, M7, T7, K7, hbs7, z7⟩; have M7 := hid_into M7; have d7 := d6.keep (K7 _ (Or.inr hd6.out)); have hsp7 := hsp6.keep (fun q hq => K7 q (Or.inl (Or.inr hq))))
                | (have := d79; refine wpList_load_rw rfl 25 (.tmp 15) rfl w4.heap.size _ _ _ (by rfl) d79 Try.underlying25 rfl size25 ?_; clear d79)
                | (have := d9; refine wpList_load_rw rfl 25 (.tmp 17) rfl w7.heap.size _ _ _ (by rfl) d9 Try.underlying25 rfl size25 ?_; clear d9)
                | (go_at_call 17; refine (messages_any _ _ _ _ hsp9.bs hbs9).mono ?_; rintro e w10 ⟨rfl, hb10⟩; rw [msB_same]; have T10 := (T9.grow hb10).1; skip)
                  | (go_at_call 25; refine (CK.out _ T10.b).mono ?_; rintro e w11 ⟨rfl, hb11⟩))
              go_ret
              exact ⟨rfl, hb11⟩
            · have hl0 := giveN_len hL 0
              have HG := hid_into (two_give st2 HM2.out 0)
              clear st
              go_wp2_with (first
                | (go_at_call 15; refine HG.out.mono ?_; rintro e w4 ⟨ao2, q2, c2, rfl, T4, K4, hsp4, z4⟩)
                | (have := d5; refine wpList_store_rw rfl 25 (.tmp 15) (.tmp 171) rfl w4.heap.size _ [.int .i64 (gvT L2 0).fr, .int .i64 (gvT L2 0).to, .slice ao2 q2 c2] _ (by rfl) (by rfl) d5 size25 rfl (msC_one _ _ _ _ _) ?_; intro w6 d6 ho6; have hb6 := ho6.belowTo hb5 (Nat.le_refl _); have T6 := (T4.grow hb6).1; have hsp6 := hsp4.keep (fun q hq => hb6.block q (T4.s q (Or.inr hq))); have hd6 := hid_into (show w4.heap.size ≤ w4.heap.size ∧ w4.heap.size < w6.heap.size from ⟨Nat.le_refl _, d6.lt⟩); clear d5)
                | (have := d8; refine wpList_store_rw rfl 25 (.tmp 17) (.tmp 176) rfl w7.heap.size _ [.int .i64 (gvT L2 0).fr, .int .i64 (gvT L2 0).to, .slice ao3 q3 c3] _ (by rfl) (by rfl) d8 size25 rfl (msC_one _ _ _ _ _) ?_; intro w9 d9 ho9; have hb9 := ho9.belowTo hb8 (Nat.le_refl _); have T9 := (T7.grow hb9).1; have d79 := d7.below hb9 d7.lt; have hsp9 := hsp7.keep (fun q hq => hb9.block q (T7.s q (Or.inl (Or.inr hq)))); have hbs9 := hbs7.below hb9 (Nat.le_refl _); clear d8 d7)
                | (have := hbs7; refine wpList_alloc_row rfl 25 rfl [.int .i64 0, .int .i64 0, .slice none 0 0] zero25 ?_; intro w8 d8 hb8 hs8)
                | (refine wpList_alloc_row rfl 25 rfl [.int .i64 0, .int .i64 0, .slice none 0 0] zero25 ?_; intro w5 d5 hb5 hs5)
                | (go_at_call 16; refine (two_rgive T6 HM2.out 0).mono ?_; rintro e w7 ⟨ao3, q3, c3, rfl, E7, M7, T7, K7, hbs7, z7⟩; have M7 := hid_into M7; have d7 := d6.keep (K7 _ (Or.inr hd6.out)); have hsp7 := hsp6.keep (fun q hq => K7 q (Or.inl (Or.inr hq))))
                | (have := d79; refine wpList_load_rw rfl 25 (.tmp 15) rfl w4.heap.size _ _ _ (by rfl) d79 Try.underlying25 rfl size25 ?_; clear d79)
                | (have := d9; refine wpList_load_rw rfl 25 (.tmp 17) rfl w7.heap.size _ _ _ (by rfl) d9 Try.underlying25 rfl size25 ?_; clear d9)
                | (go_at_call 17; refine (messages_any _ _ _ _ hsp9.bs hbs9).mono ?_; rintro e w10 ⟨rfl, hb10⟩; rw [msB_same]; have T10 := (T9.grow hb10).1; have hl := hid_into (rowLen_of T10)))
              refine ⟨⟨_, E7, T10.less (fun _ h => h.elim), M7⟩, ?_⟩
              rw [hl.out, hlen.out]
              omega
end Go.Proofs.Ytnfmhcljncdkgaa
