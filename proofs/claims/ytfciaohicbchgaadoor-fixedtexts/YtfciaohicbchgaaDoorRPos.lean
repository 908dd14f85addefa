/-
  The document's Parse of a text without a sign, walked.
-/
import Derived.Test.YtfciaohicbchgaaDoorRNeg
import Derived.Lib.TrimByte
namespace Go.Proofs.YtfciaohicbchgaaDoor
open Go.RowKit
set_option maxHeartbeats 16000000 in
set_option maxRecDepth 100000 in
theorem RefParse_pos (T : List UInt8) (hno : ∀ c, T[0]? = some c → c.toNat ≠ 45) (hl : T.length ≤ 1000) (w : World) :
    Calls Tryd.prog 22 #[.string ⟨T.toArray⟩] w fun e w' => RefAns T T false e ∧ Below w.heap.size w w' := by
  have zT : (⟨T.toArray⟩ : ByteArray).size = T.length := by simp [ByteArray.size]
  have RT := fun (v : Int) (hv : In32 v) => RefText_any v hv
  by_cases h0 : T = []
  · have NGo : Hid (¬ ∃ x f, Good T x f) := hid_into fun ⟨x, f, k, g⟩ => by have := g.len; rw [h0] at this; simp at this
    subst h0
    go_enter Tryd.func22, Tryd.ntmps22
    go_wp2
    go_ret2
    exact ⟨Or.inr ⟨NGo.out, rfl⟩, Below.refl _ _⟩
  have h0l : 0 < T.length := List.length_pos_iff.2 h0
  obtain ⟨d0, hd0⟩ : ∃ d, T[0]? = some d := ⟨_, List.getElem?_eq_getElem h0l⟩
  have h00 : (0 : Nat) < (⟨T.toArray⟩ : ByteArray).size := by omega
  have hs0 : (⟨T.toArray⟩ : ByteArray)[0]'h00 = d0 := by
    have h2 := (List.getElem?_eq_some_iff.1 hd0).2
    rw [ByteArray.getElem_eq_getElem_data]
    simpa using h2
  obtain ⟨c0, hc0⟩ : ∃ c, d0.toNat = c := ⟨_, rfl⟩
  have n45 : c0 ≠ 45 := by rw [← hc0]; exact hno d0 hd0
  have m45 : ((c0 : Int) == 45) = false := by simp; omega
  have m46 : ¬ (c0 : Int) = 45 := by omega
  obtain ⟨n, hn⟩ : ∃ n : Nat, n = T.length := ⟨_, rfl⟩
  have HL : Hid (T.length = n) := hid_into hn.symm
  rw [← hn] at zT hl h0l
  have i0l : (0 : Int) < (n : Int) := by omega
  clear hn hno h0 n45 hd0
  by_cases h6 : n < 6
  · have NGo : Hid (¬ ∃ x f, Good T x f) := hid_into fun ⟨x, f, k, g⟩ => by have := g.len; have := g.pos; have := HL.out; omega
    have i6 : (n : Int) < 6 := by omega
    go_enter Tryd.func22, Tryd.ntmps22
    go_wp2
    go_ret2
    exact ⟨Or.inr ⟨NGo.out, rfl⟩, Below.refl _ _⟩
  by_cases h10 : 10 < n
  · have NGo : Hid (¬ ∃ x f, Good T x f) := hid_into fun ⟨x, f, k, g⟩ => by have := g.len; have := g.few; have := HL.out; omega
    have i6 : (10 : Int) < (n : Int) := by omega
    have i7 : ¬ (n : Int) < 6 := by omega
    go_enter Tryd.func22, Tryd.ntmps22
    go_wp2
    go_ret2
    exact ⟨Or.inr ⟨NGo.out, rfl⟩, Below.refl _ _⟩
  have i6 : ¬ (n : Int) < 6 := by omega
  have i10 : ¬ (10 : Int) < (n : Int) := by omega
  go_enter Tryd.func22, Tryd.ntmps22
  go_wp2
  go_loopw [6, 7] (fun a i wr => ∃ k x : Nat, k ≤ n ∧ a = .int .i64 (x : Int) ∧ i = .int .i64 (k : Int) ∧ Hid (x = numV (T.take k)) ∧ Hid (∀ d ∈ T.take k, dig d = true) ∧ wr = w) (fun _ i _ => n - (intOf i).toNat)
  case atStart => exact ⟨0, 0, by omega, rfl, rfl, hid_into rfl, hid_into (by simp), rfl⟩
  case round =>
    obtain ⟨k, x, hk, rfl, rfl, HX, HD, hwr⟩ := hrel
    subst hwr
    have hxl : x < 10000000000 := by
      have := numV_lt (T.take k) HD.out
      rw [← HX.out] at this
      refine Nat.lt_of_lt_of_le this ?_
      have h8 : (T.take k).length ≤ 10 := by rw [List.length_take]; have := HL.out; omega
      exact Nat.pow_le_pow_right (n := 10) (by omega) h8
    by_cases hkn : k < n
    · obtain ⟨d, hd⟩ : ∃ d, T[k]? = some d := ⟨_, List.getElem?_eq_getElem (by have := HL.out; omega)⟩
      have HDd := hid_into hd
      have f3 : (k : Int) < (n : Int) := by omega
      have hlt : k < (⟨T.toArray⟩ : ByteArray).size := by omega
      have hsd : (⟨T.toArray⟩ : ByteArray)[k]'hlt = d := by
        have h2 := (List.getElem?_eq_some_iff.1 hd).2
        rw [ByteArray.getElem_eq_getElem_data]
        simpa using h2
      have HT : Hid (T.take (k + 1) = T.take k ++ [d]) := hid_into (by rw [List.take_add_one, hd]; rfl)
      obtain ⟨c, hc⟩ : ∃ c, d.toNat = c := ⟨_, rfl⟩
      have hc256 : c < 256 := by rw [← hc]; exact d.toNat_lt
      clear hd
      by_cases hb : dig d = true
      · have hcc : 48 ≤ c ∧ c ≤ 57 := by rw [← hc]; simpa [dig] using hb
        obtain ⟨z, hz⟩ : ∃ z : Nat, z = x * 10 + (c - 48) := ⟨_, rfl⟩
        have g1 : (48 : Int) ≤ (c : Int) := by omega
        have g2 : (c : Int) ≤ 57 := by omega
        have q5 : wrap64 ((x : Int) * 10 + (c : Int) - 48) = (z : Int) := by unfold wrap64; omega
        have HQ : Hid ((x : Int) * 10 + (c : Int) - 48 = (z : Int)) := hid_into (by omega)
        have HZ : Hid (z = numV (T.take (k + 1))) := hid_into (by rw [HT.out, numV_snoc, hc, ← HX.out, hz])
        have HN : Hid (∀ d ∈ T.take (k + 1), dig d = true) := hid_into (by
          rw [HT.out]
          intro e he
          rcases List.mem_append.1 he with h | h
          · exact HD.out e h
          · rw [List.mem_singleton.1 h]; exact hb)
        clear hz hcc hb
        go_wp2
        go_roundw
        case rel => exact ⟨k + 1, z, by omega, by first | rfl | exact congrArg (Value.int .i64) HQ.out, by first | rfl | (congr 1; omega), HZ, HN, by first | trivial | rfl⟩
        case measure => simp [intOf]; omega
      · have hbf : dig d = false := by simpa using hb
        have HB := hid_into hbf
        have hcc : c < 48 ∨ 57 < c := by
          rw [← hc]
          simp only [dig, Bool.and_eq_false_iff, decide_eq_false_iff_not] at hbf
          omega
        have ST : Hid (∀ k' x f, GoodK T k' x f → k = k') := hid_into fun k' x' f' g => g.stop HD.out (by have := HL.out; omega) (Or.inr ⟨d, HDd.out, HB.out⟩)
        clear hb hbf
        by_cases hk0 : k = 0
        · have NGo : Hid (¬ ∃ x f, Good T x f) := hid_into fun ⟨x', f', k', g⟩ => by have := ST.out _ _ _ g; have := g.pos; omega
          subst hk0
          have hdd : d0 = d := hs0.symm.trans hsd
          subst hdd
          have hcd : c = c0 := hc.symm.trans hc0
          subst hcd
          rcases hcc with hcc | hcc
          · have g1 : (c : Int) < 48 := by omega
            go_wp2
            go_ret2
            exact ⟨Or.inr ⟨NGo.out, rfl⟩, Below.refl _ _⟩
          · have g1 : (48 : Int) ≤ (c : Int) := by omega
            have g2 : (57 : Int) < (c : Int) := by omega
            go_wp2
            go_ret2
            exact ⟨Or.inr ⟨NGo.out, rfl⟩, Below.refl _ _⟩
        have k0 : ((k : Int) == 0) = false := by simp; omega
        have k0' : ¬ (k : Int) = 0 := by omega
        by_cases hk5 : k + 5 = n
        · by_cases h46 : c = 46
          · have g1 : (c : Int) < 48 := by omega
            have hci : (c : Int) = 46 := by omega
            have q46 : ((c : Int) != 46) = false := by simp [hci]
            have k5 : (((k : Int) + 5) != (n : Int)) = false := by simp; omega
            have k6 : (k : Int) + 5 = (n : Int) := by omega
            have HP46 : Hid (T[k]? = some 46) := hid_into (by rw [HDd.out]; congr 1; apply UInt8.toNat_inj.1; rw [hc, h46]; rfl)
            have HK5 := hid_into hk5
            clear hk5 h46 hci hcc
            go_wp2
            clear hsd hlt
            go_loopw [8, 9] (fun a i wr' => ∃ j y z : Nat, j ≤ 4 ∧ a = .int .i64 (y : Int) ∧ i = .int .i64 (z : Int) ∧ z = k + 1 + j ∧ Hid (y = valH ((T.drop (k + 1)).take j)) ∧ Hid (∀ d ∈ (T.drop (k + 1)).take j, hx d = true) ∧ wr' = wr) (fun _ i _ => n - (intOf i).toNat)
            case atStart => exact ⟨0, 0, k + 1, by omega, rfl, by first | rfl | (congr 1; omega), by omega, hid_into rfl, hid_into (by simp), rfl⟩
            case round =>
              obtain ⟨j, y, z, hj, rfl, rfl, hz, HY, HE, hwr⟩ := hrel
              subst hwr
              have hyl : y < 65536 := by
                have := valH_lt ((T.drop (k + 1)).take j) HE.out
                rw [← HY.out] at this
                refine Nat.lt_of_lt_of_le this ?_
                have h8 : ((T.drop (k + 1)).take j).length ≤ 4 := by rw [List.length_take]; omega
                exact Nat.pow_le_pow_right (n := 16) (by omega) h8
              by_cases hj4 : j < 4
              · obtain ⟨e, he⟩ : ∃ e, T[z]? = some e := ⟨_, List.getElem?_eq_getElem (by have := HL.out; have := HK5.out; omega)⟩
                have f4 : (z : Int) < (n : Int) := by have := HK5.out; omega
                have hlt2 : z < (⟨T.toArray⟩ : ByteArray).size := by have := HK5.out; omega
                have hse : (⟨T.toArray⟩ : ByteArray)[z]'hlt2 = e := by
                  have h2 := (List.getElem?_eq_some_iff.1 he).2
                  rw [ByteArray.getElem_eq_getElem_data]
                  simpa using h2
                have hdr : (T.drop (k + 1))[j]? = some e := by rw [List.getElem?_drop, ← hz]; exact he
                have HT2 : Hid ((T.drop (k + 1)).take (j + 1) = (T.drop (k + 1)).take j ++ [e]) := hid_into (by rw [List.take_add_one, hdr]; rfl)
                have HDR := hid_into hdr
                obtain ⟨b, hb⟩ : ∃ b, e.toNat = b := ⟨_, rfl⟩
                have hb256 : b < 256 := by rw [← hb]; exact e.toNat_lt
                have HZ1 : Hid (z + 1 = k + 1 + (j + 1)) := hid_into (by omega)
                clear he hdr
                by_cases hdg : dig e = true
                · have hcc2 : 48 ≤ b ∧ b ≤ 57 := by rw [← hb]; simpa [dig] using hdg
                  obtain ⟨y2, hy2⟩ : ∃ y2 : Nat, y2 = y * 16 + (b - 48) := ⟨_, rfl⟩
                  have HQ : Hid ((y : Int) * 16 + (b : Int) - 48 = (y2 : Int)) := hid_into (by omega)
                  have HY2 : Hid (y2 = valH ((T.drop (k + 1)).take (j + 1))) := hid_into (by rw [HT2.out, valH_snoc, ← HY.out, hy2]; unfold hxV; rw [if_pos hdg, hb])
                  have HE2 : Hid (∀ d ∈ (T.drop (k + 1)).take (j + 1), hx d = true) := hid_into (by
                    rw [HT2.out]
                    intro g hg
                    rcases List.mem_append.1 hg with h | h
                    · exact HE.out g h
                    · rw [List.mem_singleton.1 h]; simp [hx, hdg])
                  have g3 : (48 : Int) ≤ (b : Int) := by omega
                  have g4 : (b : Int) ≤ 57 := by omega
                  clear hy2 hcc2 hdg hz
                  go_wp2
                  go_roundw
                  case rel => exact ⟨j + 1, y2, z + 1, by omega, by first | rfl | exact congrArg (Value.int .i64) HQ.out, by first | rfl | (congr 1; omega), HZ1.out, HY2, HE2, by first | trivial | rfl⟩
                  case measure => simp [intOf]; omega
                · have hdf : dig e = false := by simpa using hdg
                  have hcc2 : b < 48 ∨ 57 < b := by
                    rw [← hb]
                    simp only [dig, Bool.and_eq_false_iff, decide_eq_false_iff_not] at hdf
                    omega
                  by_cases hlt3 : 97 ≤ b ∧ b ≤ 102
                  · obtain ⟨hl1, hl2⟩ := hlt3
                    obtain ⟨y2, hy2⟩ : ∃ y2 : Nat, y2 = y * 16 + (b - 87) := ⟨_, rfl⟩
                    have HQ : Hid ((y : Int) * 16 + (b : Int) - 97 + 10 = (y2 : Int)) := hid_into (by omega)
                    have HY2 : Hid (y2 = valH ((T.drop (k + 1)).take (j + 1))) := hid_into (by rw [HT2.out, valH_snoc, ← HY.out, hy2]; unfold hxV; rw [if_neg (by rw [hdf]; decide), hb])
                    have HE2 : Hid (∀ d ∈ (T.drop (k + 1)).take (j + 1), hx d = true) := hid_into (by
                      rw [HT2.out]
                      intro g hg
                      rcases List.mem_append.1 hg with h | h
                      · exact HE.out g h
                      · rw [List.mem_singleton.1 h]; simp [hx, hb, hl1, hl2])
                    have g3 : (48 : Int) ≤ (b : Int) := by omega
                    have g4 : (57 : Int) < (b : Int) := by omega
                    have g5 : (97 : Int) ≤ (b : Int) := by omega
                    have g6 : (b : Int) ≤ 102 := by omega
                    clear hy2 hcc2 hdg hz hdf
                    go_wp2
                    go_roundw
                    case rel => exact ⟨j + 1, y2, z + 1, by omega, by first | rfl | exact congrArg (Value.int .i64) HQ.out, by first | rfl | (congr 1; omega), HZ1.out, HY2, HE2, by first | trivial | rfl⟩
                    case measure => simp [intOf]; omega
                  · have NGo : Hid (¬ ∃ x f, Good T x f) := hid_into fun ⟨x', f', k', g⟩ => by
                      have e1 := ST.out _ _ _ g
                      subst e1
                      have h1 := g.hexs e (List.mem_of_getElem? HDR.out)
                      simp only [hx, hdf, Bool.false_or, Bool.and_eq_true, decide_eq_true_eq] at h1
                      rw [hb] at h1
                      exact hlt3 h1
                    clear hdg hdf hz
                    by_cases h3a : b < 48
                    · have g3 : (b : Int) < 48 := by omega
                      have g5 : (b : Int) < 97 := by omega
                      go_wp2
                      go_ret2
                      exact ⟨Or.inr ⟨NGo.out, rfl⟩, Below.refl _ _⟩
                    · have g3 : (48 : Int) ≤ (b : Int) := by omega
                      have g4 : (57 : Int) < (b : Int) := by omega
                      by_cases h3b : b < 97
                      · have g5 : (b : Int) < 97 := by omega
                        go_wp2
                        go_ret2
                        exact ⟨Or.inr ⟨NGo.out, rfl⟩, Below.refl _ _⟩
                      · have g5 : (97 : Int) ≤ (b : Int) := by omega
                        have g6 : (102 : Int) < (b : Int) := by omega
                        go_wp2
                        go_ret2
                        exact ⟨Or.inr ⟨NGo.out, rfl⟩, Below.refl _ _⟩
              · have hje : j = 4 := by omega
                have f4 : ¬ (z : Int) < (n : Int) := by have := HK5.out; omega
                have hxs : x < 100000 := by
                  have := numV_lt (T.take k) HD.out
                  rw [← HX.out] at this
                  refine Nat.lt_of_lt_of_le this ?_
                  have h8 : (T.take k).length ≤ 5 := by rw [List.length_take]; have := HK5.out; omega
                  exact Nat.pow_le_pow_right (n := 10) (by omega) h8
                have hall : (T.drop (k + 1)).take j = T.drop (k + 1) := List.take_of_length_le (by rw [List.length_drop]; have := HL.out; have := HK5.out; omega)
                have GG : Hid (Good T x y) := hid_into ⟨k, by have := HL.out; have := HK5.out; omega, by have := HK5.out; omega, by omega, HD.out, HP46.out, by have := HE.out; rw [hall] at this; exact this, HX.out, by have := HY.out; rw [hall] at this; exact this⟩
                have o1 : bits .or .i64 ((x : Int) * 65536) (y : Int) = (x : Int) * 65536 + (y : Int) := i64_or16 x y (by omega) hyl
                obtain ⟨V, hV⟩ : ∃ V : Int, V = (x : Int) * 65536 + (y : Int) := ⟨_, rfl⟩
                rw [← hV] at o1
                have HVV : Hid (sgn false ((x : Int) * 65536 + (y : Int)) = V) := hid_into (by rw [← hV]; rfl)
                have v0 : 0 ≤ V := by omega
                have v1 : V ≤ 6553600000 := by omega
                have HJ : Hid (j = 4) := hid_into hje
                clear hje hz hall hV
                by_cases hin : -2147483648 ≤ V ∧ V ≤ 2147483647
                · obtain ⟨hn1, hn2⟩ := hin
                  have RT' := RT (V) ⟨hn1, hn2⟩
                  clear RT
                  by_cases htx : textS (V) = T
                  · have HA : Hid (pairF T (V) = .tuple #[.int .i32 (V), .int .i64 0]) := hid_into (if_pos ⟨⟨hn1, hn2⟩, htx⟩)
                    rw [htx] at RT'
                    clear htx
                    go_wp2_with (go_at_call 23; refine (RT' _).mono ?_; rintro e w2 ⟨rfl, B2⟩)
                    go_ret2
                    exact ⟨Or.inl ⟨x, y, GG.out, by rw [HVV.out, HA.out]; rfl⟩, B2⟩
                  · have HA : Hid (pairF T (V) = .tuple #[.int .i32 0, .int .i64 3]) := hid_into (if_neg fun h => htx h.2)
                    have hne : (textS (V) == T) = false := by simp [htx]
                    clear htx
                    go_wp2_with (go_at_call 23; refine (RT' _).mono ?_; rintro e w2 ⟨rfl, B2⟩)
                    go_ret2
                    exact ⟨Or.inl ⟨x, y, GG.out, by rw [HVV.out, HA.out]; rfl⟩, B2⟩
                · have HA : Hid (pairF T (V) = .tuple #[.int .i32 0, .int .i64 3]) := hid_into (if_neg fun h => hin h.1)
                  have hor : 2147483647 < V ∨ V < -2147483648 := by omega
                  clear RT hin
                  rcases hor with hor | hor
                  · go_wp2
                    go_ret2
                    exact ⟨Or.inl ⟨x, y, GG.out, by rw [HVV.out, HA.out]; rfl⟩, Below.refl _ _⟩
                  · have hnn : ¬ 2147483647 < V := by omega
                    go_wp2
                    go_ret2
                    exact ⟨Or.inl ⟨x, y, GG.out, by rw [HVV.out, HA.out]; rfl⟩, Below.refl _ _⟩
          · have NGo : Hid (¬ ∃ x f, Good T x f) := hid_into fun ⟨x', f', k', g⟩ => by
              have e := ST.out _ _ _ g
              subst e
              have h1 := g.pt
              rw [HDd.out] at h1
              injection h1 with h1
              rw [h1] at hc
              exact h46 hc.symm
            have q46 : ((c : Int) != 46) = true := by simp; omega
            have k5 : (((k : Int) + 5) != (n : Int)) = false := by simp; omega
            rcases hcc with hcc | hcc
            · have g1 : (c : Int) < 48 := by omega
              go_wp2
              go_ret2
              exact ⟨Or.inr ⟨NGo.out, rfl⟩, Below.refl _ _⟩
            · have g1 : (48 : Int) ≤ (c : Int) := by omega
              have g2 : (57 : Int) < (c : Int) := by omega
              go_wp2
              go_ret2
              exact ⟨Or.inr ⟨NGo.out, rfl⟩, Below.refl _ _⟩
        · have NGo : Hid (¬ ∃ x f, Good T x f) := hid_into fun ⟨x', f', k', g⟩ => by have := ST.out _ _ _ g; have := g.len; have := HL.out; omega
          have k5 : (((k : Int) + 5) != (n : Int)) = true := by simp; omega
          rcases hcc with hcc | hcc
          · have g1 : (c : Int) < 48 := by omega
            go_wp2
            go_ret2
            exact ⟨Or.inr ⟨NGo.out, rfl⟩, Below.refl _ _⟩
          · have g1 : (48 : Int) ≤ (c : Int) := by omega
            have g2 : (57 : Int) < (c : Int) := by omega
            go_wp2
            go_ret2
            exact ⟨Or.inr ⟨NGo.out, rfl⟩, Below.refl _ _⟩
    · have hke : k = n := by omega
      have NGo : Hid (¬ ∃ x f, Good T x f) := hid_into fun ⟨x', f', k', g⟩ => by
        have h1 := HL.out
        have := g.stop HD.out (by omega) (Or.inl (by omega))
        have := g.len
        omega
      have k0 : ((k : Int) == 0) = false := by simp; omega
      have k5 : (((k : Int) + 5) != (n : Int)) = true := by simp; omega
      have f3 : ¬ (k : Int) < (n : Int) := by omega
      go_wp2
      go_ret2
      exact ⟨Or.inr ⟨NGo.out, rfl⟩, Below.refl _ _⟩
end Go.Proofs.YtfciaohicbchgaaDoor
