/-
  NetTwice's own walk.
-/
import Derived.Test.YtnfmhcljncdkgaaOrderWalk
namespace Go.Proofs.Ytnfmhcljncdkgaa
open Go.RowKit
theorem bits_and (a : Int) (m : Nat) (hm : m < 65536) : bits .and .i64 a (m : Int) = (((BitVec.ofInt 64 a).toNat &&& m : Nat) : Int) := by
  have e : bits .and .i64 a (m : Int) = IntKind.i64.wrap (((BitVec.ofInt 64 a &&& BitVec.ofInt 64 (m : Int)).toNat : Nat) : Int) := rfl
  have hb : (BitVec.ofInt 64 a &&& BitVec.ofInt 64 (m : Int)).toNat = (BitVec.ofInt 64 a).toNat &&& m := by
    rw [BitVec.toNat_and]
    have : (BitVec.ofInt 64 (m : Int)).toNat = m := by
      rw [BitVec.ofInt_natCast, BitVec.toNat_ofNat]
      omega
    rw [this]
  have hlt : (BitVec.ofInt 64 a).toNat &&& m < 65536 := Nat.lt_of_le_of_lt Nat.and_le_right hm
  rw [e, hb]
  generalize (BitVec.ofInt 64 a).toNat &&& m = n at *
  simp [IntKind.wrap, IntKind.bits, IntKind.signed]
  omega
theorem and3 (a : Int) : bits .and .i64 a 3 = a % 4 := by
  have h := bits_and a 3 (by decide)
  rw [show (((3 : Nat)) : Int) = 3 from rfl] at h
  rw [h, show (3 : Nat) = 2 ^ 2 - 1 from rfl, Nat.and_two_pow_sub_one_eq_mod, BitVec.toNat_ofInt]
  omega
theorem and1 (a : Int) : bits .and .i64 a 1 = a % 2 := by
  have h := bits_and a 1 (by decide)
  rw [show (((1 : Nat)) : Int) = 1 from rfl] at h
  rw [h, show (1 : Nat) = 2 ^ 1 - 1 from rfl, Nat.and_two_pow_sub_one_eq_mod, BitVec.toNat_ofInt]
  omega

/-- What is under way behind Twice and Late. -/
def finL (l : List Bi) (n k : Nat) : List Mg := lateN (twiceN (sentN (lzs l) n) (k : Int)) (k : Int)
def mk (l : List Bi) (j : Nat) : Mg := ⟨(j : Int), 1, (lzs l).getD j []⟩
theorem finL_eq (l : List Bi) {n k : Nat} (h : k < n) (hn : n < 1024) : finL l n k = sentN (lzs l) k ++ ((sentN (lzs l) n).drop (k + 1) ++ [mk l k] ++ [mk l k]) := twice_late (lzs l) h hn
theorem sent_mem {l : List Bi} {n : Nat} {m : Mg} (h : m ∈ sentN (lzs l) n) : ∃ j, j < n ∧ m = mk l j := by
  obtain ⟨j, hj⟩ := List.getElem?_of_mem h
  have hlt := (List.getElem?_eq_some_iff.1 hj).1
  rw [sentN_len] at hlt
  rw [sentN_at (lzs l) hlt] at hj
  exact ⟨j, hlt, (Option.some.inj hj).symm⟩
theorem finL_len (l : List Bi) {n k : Nat} (h : k < n) (hn : n < 1024) : (finL l n k).length = n + 1 := by
  rw [finL_eq l h hn]
  simp only [List.length_append, sentN_len, List.length_drop, List.length_cons, List.length_nil]
  omega
theorem finL_mem (l : List Bi) {n k : Nat} (h : k < n) (hn : n < 1024) {m : Mg} (hm : m ∈ finL l n k) : ∃ j, j < n ∧ m = mk l j := by
  rw [finL_eq l h hn] at hm
  simp only [List.mem_append, List.mem_cons, List.not_mem_nil, or_false] at hm
  rcases hm with h1 | (h1 | h1) | h1
  · obtain ⟨j, hj, e⟩ := sent_mem h1
    exact ⟨j, by omega, e⟩
  · exact sent_mem (List.mem_of_mem_drop h1)
  · exact ⟨k, h, h1⟩
  · exact ⟨k, h, h1⟩
/-- How many of them are k's. -/
def cntK (k : Nat) (L : List Mg) : Nat := L.countP fun m => m.fr == (k : Int)
theorem cnt_sent (l : List Bi) (k : Nat) : cntK k (sentN (lzs l) k) = 0 := by
  unfold cntK
  rw [List.countP_eq_zero]
  intro m hm
  obtain ⟨j, hj, rfl⟩ := sent_mem hm
  simp [mk]
  omega
theorem cnt_drop (l : List Bi) (n k : Nat) : cntK k ((sentN (lzs l) n).drop (k + 1)) = 0 := by
  unfold cntK
  rw [List.countP_eq_zero]
  intro m hm
  obtain ⟨i, hi⟩ := List.getElem?_of_mem hm
  rw [List.getElem?_drop] at hi
  have hlt := (List.getElem?_eq_some_iff.1 hi).1
  rw [sentN_len] at hlt
  rw [sentN_at (lzs l) hlt] at hi
  obtain rfl := Option.some.inj hi
  simp
  omega
theorem cnt_fin (l : List Bi) {n k : Nat} (h : k < n) (hn : n < 1024) : cntK k (finL l n k) = 2 := by
  rw [finL_eq l h hn]
  have h1 := cnt_sent l k
  have h2 := cnt_drop l n k
  unfold cntK at *
  simp only [List.countP_append, h1, h2]
  simp [mk]
theorem fin_last (l : List Bi) {n k : Nat} (h : k < n) (hn : n < 1024) : (finL l n k)[n]? = some (mk l k) := by
  have hl := finL_len l h hn
  rw [finL_eq l h hn] at hl ⊢
  rw [← List.append_assoc, List.getElem?_append_right (by rw [List.length_append] at hl ⊢; simp at hl ⊢; omega)]
  rw [List.length_append] at hl
  have : n - (sentN (lzs l) k ++ ((sentN (lzs l) n).drop (k + 1) ++ [mk l k])).length = 0 := by
    simp only [List.length_append, sentN_len, List.length_drop, List.length_cons, List.length_nil] at hl ⊢
    omega
  rw [this]; rfl
/-- Whose the last of the first i is. -/
def lastK (L : List Mg) (i : Nat) : Int := if i = 0 then -1 else ((L[i - 1]?).map Mg.fr).getD 0
theorem lastK_succ {L : List Mg} {i : Nat} {m : Mg} (h : L[i]? = some m) : lastK L (i + 1) = m.fr := by simp [lastK, h]
theorem cnt_succ {L : List Mg} {i k : Nat} {m : Mg} (h : L[i]? = some m) : cntK k (L.take (i + 1)) = cntK k (L.take i) + (if m.fr = (k : Int) then 1 else 0) := by
  unfold cntK
  rw [List.take_add_one, h, List.countP_append]
  simp [List.countP_cons]
set_option maxRecDepth 20000 in
set_option maxHeartbeats 4000000 in
theorem twice_walk (a : Option Addr) (n cap : Nat) (l : List Bi) (at' : Int) (w : World) (hr : Ax.Rw w 1 Bi.cells a n cap l) (hg : ∀ r ∈ l, Bi.ok w r) (hz : n ≤ 140737488355328) :
    Calls Try.prog 7 #[.slice a n cap, .int .i64 at'] w fun e w' => e = .returned (.bool true) ∧ Below w.heap.size w w' := by
  have RK : Hid (Rk w l n a cap) := ⟨hr, hg⟩
  have CK := hid_into (fun (W : World) (hb : Below w.heap.size w W) => ln_known (w0 := w) (w := W) hb)
  have CN := hid_into (fun (W : World) (hb : Below w.heap.size w W) => ln_new w (w := W) hb)
  have hat := bits_and at' 65535 (by decide)
  rw [show (((65535 : Nat)) : Int) = 65535 from rfl] at hat
  generalize (BitVec.ofInt 64 at').toNat &&& 65535 = P at hat
  clear hr hg
  go_enter Try.func7, Try.ntmps7
  go_wp2_with fail
  go_loopw [5, 6] (fun x y wr => ∃ k N : Nat, x = .int .i64 (N : Int) ∧ y = .int .i64 (k : Int) ∧ k ≤ n ∧ 5 * k ≤ N ∧ N ≤ 4000 ∧ w = wr) (fun _ y _ => n - (intOf y).toNat)
  case atStart => exact ⟨0, 0, rfl, rfl, by omega, by omega, by omega, rfl⟩
  case round =>
    obtain ⟨k, N, rfl, rfl, hk, hN, hN2, rfl⟩ := hrel
    by_cases hlt : k < n
    · obtain ⟨r, g, off, ao, c, hri, rfl, hv, hc, hbs, hby, hle⟩ := RK.out.at (Below.refl _ _) hlt
      have hlt2 : (k : Int) < (n : Int) := by omega
      by_cases hbig : (4000 : Int) < (N : Int) + 5 + (r.zs.length : Int)
      · clear hbs hby hri hv
        go_wp2_with fail
        go_ret
        exact ⟨rfl, Below.refl _ _⟩
      · clear hbs hby hri hv
        go_wp2_with fail
        go_roundw
        case rel => exact ⟨k + 1, N + 5 + r.zs.length, by go_num, by go_num, by omega, by omega, by omega, trivial⟩
        case measure => simp [intOf]; omega
    · obtain rfl : n = k := by omega
      have hlt2 : ¬ (n : Int) < (n : Int) := by omega
      have hn : n ≤ 800 := by omega
      by_cases hn0 : n = 0
      · have hn0' : (n : Int) = 0 := by omega
        clear hk hN hN2 hlt hat
        go_wp2_with (go_at_call 25; refine (CK.out _ (Below.refl _ _)).mono ?_; rintro e w2 ⟨rfl, hb⟩)
        go_ret
        exact ⟨rfl, hb⟩
      · have hn1 : ¬ (n : Int) = 0 := by omega
        obtain ⟨K, hK⟩ : ∃ K, K = P % n := ⟨_, rfl⟩
        have hKn : K < n := by rw [hK]; exact Nat.mod_lt _ (by omega)
        have hrem : (P : Int) % (n : Int) = (K : Int) := by rw [hK]; omega
        clear hK
        have SN : Hid (∀ (W : World) (nb i : Nat) (r : Bi) (s : Value), i < n → l[i]? = some r → Bs W s r.zs → Ln w W nb (sentN (lzs l) i) → Calls Try.prog 11 #[.pointer (some ⟨nb, 0, none⟩), .agg #[.int .i64 (i : Int), .int .i64 1, s]] W fun e w' => e = .returned (.bool true) ∧ Ln w w' nb (sentN (lzs l) (i + 1))) := fun W nb i r s hi hri hbs h => by
          have := ln_send h ⟨(i : Int), 1, r.zs⟩ hbs
          rw [sent_send hri (by omega), show sendB (sentN (lzs l) i) = true from decide_eq_true (by rw [sentN_len]; omega)] at this
          exact this
        have hne : sentN (lzs l) n ≠ [] := fun e => by have := congrArg List.length e; rw [sentN_len] at this; exact hn0 this
        have TW : Hid (∀ (W : World) (nb : Nat), Ln w W nb (sentN (lzs l) n) → Calls Try.prog 18 #[.pointer (some ⟨nb, 0, none⟩), .int .i64 (K : Int)] W fun e w' => e = .returned (.bool true) ∧ Ln w w' nb (twiceN (sentN (lzs l) n) (K : Int))) := fun W nb h => by
          have := ln_twice h hne (K : Int)
          rw [show sendB (sentN (lzs l) n) = true from decide_eq_true (by rw [sentN_len]; omega)] at this
          exact this
        have htl : (twiceN (sentN (lzs l) n) (K : Int)).length = n + 1 := by
          have := lateN_len (twiceN (sentN (lzs l) n) (K : Int)) (K : Int)
          rw [← this]
          exact finL_len l hKn (by omega)
        have TL : Hid (∀ (W : World) (nb : Nat), Ln w W nb (twiceN (sentN (lzs l) n) (K : Int)) → Calls Try.prog 24 #[.pointer (some ⟨nb, 0, none⟩)] W fun e w' => e = .returned (.int .i64 ((n : Int) + 1)) ∧ w' = W) := fun W nb h => by
          have := ln_len h
          rw [htl] at this
          exact this
        have LT : Hid (∀ (W : World) (nb : Nat), Ln w W nb (twiceN (sentN (lzs l) n) (K : Int)) → Calls Try.prog 20 #[.pointer (some ⟨nb, 0, none⟩), .int .i64 (K : Int)] W fun e w' => e = .returned (.bool true) ∧ Ln w w' nb ((finL l n K).drop 0)) := fun W nb h =>
          ln_late h (fun e => by have := congrArg List.length e; rw [htl] at this; simp at this) (K : Int)
        have GV : Hid (∀ (W : World) (nb i : Nat) (m : Mg), (finL l n K)[i]? = some m → Ln w W nb ((finL l n K).drop i) → Calls Try.prog 15 #[.pointer (some ⟨nb, 0, none⟩), .int .i64 0] W fun e w' => ∃ ao q c, e = .returned (.tuple #[.agg #[.int .i64 m.fr, .int .i64 m.to, .slice ao q c], .bool true]) ∧ Ln w w' nb ((finL l n K).drop (i + 1)) ∧ Bs w' (.slice ao q c) m.d) := fun W nb i m hi h => by
          have hlt := (List.getElem?_eq_some_iff.1 hi).1
          have hd : (finL l n K).drop i = m :: (finL l n K).drop (i + 1) := (take_succ' hi).2
          refine (ln_give h (by rw [hd]; simp) (fun x hx => by
            obtain ⟨j, hj, rfl⟩ := finL_mem l hKn (by omega) (List.mem_of_mem_drop hx)
            exact RK.out.gd n 0 (Nat.le_refl _) _ (by rw [List.drop_zero]; exact List.mem_of_getElem? (sentN_at (lzs l) hj))) 0).mono ?_
          rintro e w' ⟨m', ao, q, c, hm, rfl, hl, hb⟩
          rw [hd] at hm hl
          rw [give_first.2] at hl
          rw [give_first.1] at hm
          obtain rfl := Option.some.inj hm
          exact ⟨ao, q, c, rfl, hl, hb⟩
        clear hk hN hN2 hlt hne htl
        go_wp2_with (go_at_call 9; refine (CN.out _ (Below.refl _ _)).mono ?_; rintro e w1 ⟨nb, rfl, s1⟩)
        go_loopw [8] (fun x wr => ∃ k : Nat, x = .int .i64 (k : Int) ∧ k ≤ n ∧ Ln w wr nb (sentN (lzs l) k)) (fun x _ => n - (intOf x).toNat)
        case atStart => exact ⟨0, rfl, by omega, s1⟩
        case round =>
          obtain ⟨k, rfl, hk, st⟩ := hrel
          by_cases hlt : k < n
          · obtain ⟨r, g, off, ao, c, hri, rfl, hv, hc, hbs, hby, hle⟩ := RK.out.at st.b hlt
            have hlt3 : (k : Int) < (n : Int) := by omega
            have hs := hid_into (SN.out wr nb k r _ hlt hri hbs st)
            clear hbs hby hri hv st
            go_wp2_with (go_at_call 11; refine hs.out.mono ?_; rintro e w2 ⟨rfl, s2⟩)
            go_roundw
            case rel => exact ⟨k + 1, by go_num, by omega, s2⟩
            case measure => simp [intOf]; omega
          · obtain rfl : n = k := by omega
            go_wp2_with (first
              | (have := s3; go_at_call 20; refine (LT.out _ _ s3).mono ?_; rintro e w4 ⟨rfl, s4⟩)
              | (have := s3; go_at_call 24; refine (TL.out _ _ s3).mono ?_; rintro e w5 ⟨rfl, hw⟩; replace hw := hw.symm; subst hw)
              | (go_at_call 18; refine (TW.out _ _ st).mono ?_; rintro e w3 ⟨rfl, s3⟩))
            have HLEN := hid_into (finL_len l hKn (show n < 1024 by omega))
            have HMEM : Hid (∀ m ∈ finL l n K, ∃ j, j < n ∧ m = mk l j) := fun m hm => finL_mem l hKn (show n < 1024 by omega) hm
            have HCNT := hid_into (cnt_fin l hKn (show n < 1024 by omega))
            have HLST := hid_into (fin_last l hKn (show n < 1024 by omega))
            clear TW TL LT SN s3 this hat hrem st hk hlt
            generalize finL l n K = F at *
            go_loopw [10, 11, 12] (fun x y z wr => ∃ (i c : Nat) (q : Int), x = .int .i64 (c : Int) ∧ y = .int .i64 q ∧ z = .int .i64 (i : Int) ∧ i ≤ n + 1 ∧ c ≤ i ∧ Hid (c = cntK K (F.take i)) ∧ Hid (q = lastK F i) ∧ Ln w wr nb (F.drop i)) (fun _ _ z _ => n + 1 - (intOf z).toNat)
            case atStart => exact ⟨0, 0, -1, rfl, rfl, rfl, by omega, by omega, rfl, rfl, s4⟩
            case round =>
              obtain ⟨i, cc, q, rfl, rfl, rfl, hi, hci, HC, HQ, st⟩ := hrel
              by_cases hlt : i < n + 1
              · obtain ⟨m, hm⟩ : ∃ m, F[i]? = some m := ⟨_, List.getElem?_eq_getElem (by rw [HLEN.out]; exact hlt)⟩
                obtain ⟨j, hj, hmj⟩ := HMEM.out m (List.mem_of_getElem? hm)
                obtain ⟨r, g, off, ao, c, hri, rfl, hv, hc, hbs, hby, hle⟩ := RK.out.at st.b hj
                have hlt3 : (i : Int) ≤ (n : Int) := by omega
                have hj2 : (j : Int) < (n : Int) := by omega
                have hs := GV.out wr nb i m hm st
                have hmj2 : m = ⟨(j : Int), 1, r.zs⟩ := by rw [hmj]; unfold mk; rw [lzs_at hri]
                have HC2 := hid_into (cnt_succ (k := K) hm)
                have HL2 := hid_into (lastK_succ hm)
                rw [hmj2] at hs HC2 HL2
                have hs := hid_into hs
                have RB : Hid (∀ W, Below w.heap.size w W → W.cell? ⟨g, off + j, none⟩ = some (.slice ao r.zs.length c) ∧ Bs W (.slice ao r.zs.length c) r.zs) := fun W hb => RK.out.at2 hb hri hv
                clear hc hbs hby hri hv st hm hmj hmj2
                go_wp2_with (first
                  | (go_at_call 15; refine hs.out.mono ?_; rintro e w2 ⟨ao2, q2, c2, rfl, s2, hbs2⟩)
                  | (refine wpList_alloc_row rfl 25 rfl [.int .i64 0, .int .i64 0, .slice none 0 0] zero25 ?_; intro w3 d3 hb3 hs3)
                  | (have := d3; refine wpList_store_rw rfl 25 (.tmp 13) (.tmp 84) rfl w2.heap.size _ [.int .i64 (j : Int), .int .i64 1, .slice ao2 q2 c2] _ (by rfl) (by rfl) d3 size25 rfl (msC_one _ _ _ _ _) ?_; intro w4 d4 ho4; have hb4 := ho4.belowTo hb3 (Nat.le_refl _); have s4 := s2.step hb4; have hbs4 := hbs2.below hb4 (Nat.le_refl _); obtain ⟨ha4, hbr4⟩ := RB.out w4 s4.b; have CQ := hid_into (same_drewN hbs4 hbr4); have e0 := d4.cell 0; have e2 := d4.cell 2; simp only [List.getElem?_cons_zero, List.getElem?_cons_succ] at e0 e2; clear d3 d4 hbs2 hbs4 hbr4 s2))
                go_quiet ((go_at_call 26; exact Calls.quiet_of (CQ.out _)))
                have s5 := fun q => s4.step (Sm.below (Sm.drewN w4 q) w4.heap.size)
                have e0' : ∀ q, (w4.drewN q).cell? ⟨w2.heap.size, 0, none⟩ = some (.int .i64 (j : Int)) := fun _ => e0
                by_cases hjk : j = K
                · subst hjk
                  go_wp2_with fail
                  go_roundw
                  case rel => exact ⟨i + 1, cc + 1, (j : Int), by go_num, rfl, by go_num, by omega, by omega, (by show _ = _; rw [HC2.out, if_pos rfl, ← HC.out]), (by show _ = _; rw [HL2.out]), s5 _⟩
                  case measure => simp [intOf]; omega
                · have hjk2 : ¬ (j : Int) = (K : Int) := by omega
                  go_wp2_with fail
                  go_roundw
                  case rel => exact ⟨i + 1, cc, (j : Int), by go_num, rfl, by go_num, by omega, by omega, (by show _ = _; rw [HC2.out, if_neg hjk2, ← HC.out]; omega), (by show _ = _; rw [HL2.out]), s5 _⟩
                  case measure => simp [intOf]; omega
              · obtain rfl : i = n + 1 := by omega
                have h1 : cc = 2 := by
                  rw [HC.out, List.take_of_length_le (by rw [HLEN.out]; omega), HCNT.out]
                have h2 : q = (K : Int) := by
                  rw [HQ.out, lastK_succ HLST.out]; rfl
                subst h1 h2
                have L0 : Hid (Calls Try.prog 24 #[.pointer (some ⟨nb, 0, none⟩)] wr fun e w' => e = .returned (.int .i64 0) ∧ w' = wr) := by
                  have := ln_len st
                  rw [List.length_drop, HLEN.out, Nat.sub_self] at this
                  exact this
                go_wp2_with (first
                  | (go_at_call 24; refine L0.out.mono ?_; rintro e w2 ⟨rfl, hw⟩; replace hw := hw.symm; subst hw)
                  | (go_at_call 25; refine (CK.out _ st.b).mono ?_; rintro e w2 ⟨rfl, hb⟩))
                go_ret
                exact ⟨rfl, hb⟩
end Go.Proofs.Ytnfmhcljncdkgaa
