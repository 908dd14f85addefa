/-
  The document's ring in memory (Rr); its New, Frames, Newest, Get, by contracts.
-/
import Derived.Test.YtkchdkcdkeajkaaRgApi
import Derived.Test.YtkchdkcdkeajkaaRSt
namespace Go.Proofs.Ytkchdkcdkeajkaa
open Go.RowKit
/-- The document's ring at block db, its row of states in a block from lo on. -/
structure Rr (w : World) (db lo n : Nat) (L : List Sp) : Prop where
  r : ∃ ao cap, Cw w db [.int .i64 (n : Int), .slice ao L.length cap] 48 ∧ Rs w ao L.length cap L ∧ ∀ g off, ao = some ⟨g, off, none⟩ → lo ≤ g
  lt : db < lo
  sz : lo ≤ w.heap.size
theorem Rr.keep {w w' : World} {db lo n : Nat} {L : List Sp} (h : Rr w db lo n L) (hk : ∀ k, k = db ∨ lo ≤ k → k < w.heap.size → w'.heap[k]? = w.heap[k]?) (hs : w.heap.size ≤ w'.heap.size) : Rr w' db lo n L := by
  obtain ⟨ao, cap, h1, h2, h3⟩ := h.r
  exact ⟨⟨ao, cap, h1.keep (hk _ (Or.inl rfl) h1.lt), h2.keep (fun g off hg hl => hk g (Or.inr (h3 g off hg)) hl), h3⟩, h.lt, Nat.le_trans h.sz hs⟩
theorem Rr.below {w w' : World} {db lo n : Nat} {L : List Sp} (h : Rr w db lo n L) (hb : Below w.heap.size w w') : Rr w' db lo n L := h.keep (fun k _ hk => hb.block k hk) hb.size
theorem Rr.sm {w w' : World} {db lo n : Nat} {L : List Sp} (h : Rr w db lo n L) (hb : Sm w w') : Rr w' db lo n L := h.below (hb.below _)
/-- Where the frame of a state stands. -/
theorem Rs.frame {w : World} {ao : Option Addr} {n cap : Nat} {l : List Sp} (h : Rs w ao n cap l) (hf : Fit l) {i : Nat} {s : Sp} (hi : l[i]? = some s) : ∃ g off, ao = some ⟨g, off, none⟩ ∧ w.cell? ⟨g, off + i * 20, none⟩ = some (.int .i64 s.frame) ∧ w.rangeAt g (off + i * 20) (stV s) := by
  obtain ⟨g, off, h1, h2⟩ := h.at' i s hi
  exact ⟨g, off, h1, h2 0 _ (stV_c (hf s (List.mem_of_getElem? hi))).frame, fun j u hu => h2 j u hu⟩
theorem built48 (n : Int) : Try.prog.built 48 [(0, .int .i64 n)] = some [.int .i64 n, .slice none 0 0].toArray := by kernel_rfl
theorem rNew_no (w : World) (n : Int) (h : n < 1 ∨ 256 < n) : Calls Try.prog 7 #[.int .i64 n] w fun e w' => e = .returned (.tuple #[.pointer none, .int .i64 1]) ∧ w' = w := by
  by_cases h1 : n < 1
  · clear h
    go_enter Try.func7, Try.ntmps7
    go_wp2_with fail
    go_ret2
    exact ⟨rfl, rfl⟩
  · have h2 : 256 < n := by omega
    clear h
    go_enter Try.func7, Try.ntmps7
    go_wp2_with fail
    go_ret2
    exact ⟨rfl, rfl⟩
theorem rNew_any (w : World) (n : Nat) (h1 : 1 ≤ n) (h2 : n ≤ 256) : Calls Try.prog 7 #[.int .i64 (n : Int)] w fun e w' => e = .returned (.tuple #[.pointer (some ⟨w.heap.size, 0, none⟩), .int .i64 0]) ∧ Rr w' w.heap.size (w.heap.size + 1) n [] ∧ Below w.heap.size w w' := by
  have hn1 : ¬ (n : Int) < 1 := by omega
  have hn2 : ¬ 256 < (n : Int) := by omega
  have HB := hid_into (built48 n)
  obtain ⟨cs, hcs⟩ : ∃ cs, cs = [Value.int .i64 (n : Int), .slice none 0 0] := ⟨_, rfl⟩
  rw [← hcs] at HB
  go_enter Try.func7, Try.ntmps7
  go_wp2_with (first
    | (refine wpList_build_row rfl 48 #[(0, .tmp 10)] rfl cs _ rfl ?_ ?_; exact HB.out)
    | (refine wpList_box_row rfl 48 (.tmp 11) rfl cs rfl ?_; intro W1 hc1 B1 HS1))
  go_ret2
  subst hcs
  exact ⟨rfl, ⟨⟨none, 0, hc1, ⟨rfl, Nat.le_refl _, by unfold maxLen; omega, fun i s hs => by simp at hs⟩, fun g off hg => by cases hg⟩, Nat.lt_succ_self _, by rw [HS1.out]; exact Nat.le_refl _⟩, B1⟩
set_option maxHeartbeats 2000000 in
theorem rFrames_any {w : World} {db lo n a : Nat} {L : List Sp} (h : Rr w db lo n L) (hk : Rk n a L) : Calls Try.prog 12 #[.pointer (some ⟨db, 0, none⟩)] w fun e w' => e = .returned (.tuple #[.int .i64 (lstF a L), .int .i64 (gstF a L)]) ∧ Sm w w' := by
  obtain ⟨ao, cap, h1, h2, h3⟩ := h.r
  have c1 := h1.cell 1
  simp only [List.getElem?_cons_succ, List.getElem?_cons_zero] at c1
  have ht := hk.top
  by_cases hl : L = []
  · rw [show lstF a L = -1 from if_pos hl, show gstF a L = -1 from if_pos hl]
    have e : L.length = 0 := by rw [hl]; rfl
    rw [e] at c1
    clear h h1 h2 h3 hk hl e
    go_enter Try.func12, Try.ntmps12
    go_wp2_with fail
    go_ret2
    exact ⟨rfl, ⟨rfl, rfl, rfl, rfl⟩⟩
  · rw [show lstF a L = (a : Int) from if_neg hl, show gstF a L = ((a + L.length : Nat) : Int) - 1 from if_neg hl]
    have hp : 0 < L.length := List.length_pos_iff.2 hl
    obtain ⟨m, hm⟩ : ∃ m, L.length = m + 1 := ⟨L.length - 1, by omega⟩
    have g0 : L[0]? = some L[0] := List.getElem?_eq_getElem (by omega)
    have gm : L[m]? = some L[m] := List.getElem?_eq_getElem (by omega)
    obtain ⟨g, off, rfl, d0, r0⟩ := h2.frame hk.fit g0
    obtain ⟨g', off', e', dm, rm⟩ := h2.frame hk.fit gm
    simp only [Option.some.injEq, Addr.mk.injEq, and_true] at e'
    obtain ⟨rfl, rfl⟩ := e'
    rw [hk.run 0 _ g0] at d0
    rw [hk.run m _ gm] at dm
    simp only [Nat.add_zero, Nat.zero_mul] at d0
    have q1 : IntKind.i64.wrap ((L.length : Int) - 1) = (m : Int) := by rw [hm]; simp [IntKind.wrap, IntKind.bits, IntKind.signed]; omega
    have q2 : (m : Int) < (L.length : Int) := by omega
    have q3 : (0 : Int) ≤ (m : Int) := by omega
    have q4 : ¬ L.length = 0 := by omega
    have q5 : ¬ (L.length : Int) = 0 := by omega
    have q6 : (0 : Int) < (L.length : Int) := by omega
    have q7 : m < L.length := by omega
    have q8 : 0 < L.length := by omega
    rw [show ((a + L.length : Nat) : Int) - 1 = ((a + m : Nat) : Int) by omega]
    generalize ((a + m : Nat) : Int) = y at *
    generalize (a : Int) = x at *
    clear h h1 h2 h3 hk g0 gm ht r0 rm
    clear hl hm hp
    generalize L.length = p at *
    go_enter Try.func12, Try.ntmps12
    go_wp2_with fail
    go_region
    go_wp2_with fail
    go_ret2
    exact ⟨by simp, ⟨rfl, rfl, rfl, rfl⟩⟩
set_option maxHeartbeats 2000000 in
theorem rGet_any {w : World} {db lo n a : Nat} {L : List Sp} (h : Rr w db lo n L) (hk : Rk n a L) (x : Int) : Calls Try.prog 16 #[.pointer (some ⟨db, 0, none⟩), .int .i64 x] w fun e w' => e = .returned (.tuple #[.agg (stV (gtS a L x)).toArray, .bool (gtB a L x)]) ∧ Below w.heap.size w w' := by
  obtain ⟨ao, cap, h1, h2, h3⟩ := h.r
  have HZ : Hid ((Try.prog.info? 35).bind (·.zero) = some (.agg zeroS.toArray)) := Try.zero35
  have ZS := zeroS_size
  have HBz : Hid (Try.prog.built 35 [] = some zeroS.toArray) := built28z
  have HLz := st_len noS_wf
  have HOz := st_one noS_wf
  have ht := hk.top
  have HX : Hid (∀ W, Below w.heap.size w W → W.cell? ⟨db, 1, none⟩ = some (.slice ao L.length cap)) := fun W hW => (h1.below hW h1.lt).cell 1
  have HY : Hid (∀ W, Below w.heap.size w W → ∀ i s, L[i]? = some s → ∃ g off, ao = some ⟨g, off, none⟩ ∧ W.cell? ⟨g, off + i * 20, none⟩ = some (.int .i64 ((a + i : Nat) : Int)) ∧ W.rangeAt g (off + i * 20) (stV s) ∧ s.Wf) := fun W hW i s hi => by
    obtain ⟨g', off', e', d, r⟩ := (h2.below hW (Nat.le_refl _)).frame hk.fit hi
    rw [hk.run i s hi] at d
    exact ⟨g', off', e', d, r, hk.fit s (List.mem_of_getElem? hi)⟩
  have HP : Hid (∃ p, L.length = p ∧ a + p ≤ 601) := ⟨_, rfl, ht⟩
  obtain ⟨p, hp, hp6⟩ := HP.out
  rw [hp] at HX
  clear h h1 h2 h3 hk ht HP
  cases hg : gtB a L x with
  | false =>
    have hv : stV (gtS a L x) = zeroS := by rw [gt_no hg]; rfl
    rw [hv]
    simp only [gtB, decide_eq_false_iff_not, hp] at hg
    go_enter Try.func16, Try.ntmps16
    go_wp2_with (first
      | (refine wpList_alloc_row rfl 35 rfl zeroS HZ.out ?_; intro W1 hr1 B1 _; have c1 := HX.out _ B1))
    go_loopw [6] (fun x6 wr => ∃ i : Nat, i ≤ p ∧ x6 = .int .i64 (i : Int) ∧ wr = W1) (fun x6 _ => p - (intOf x6).toNat)
    case atStart => exact ⟨0, Nat.zero_le _, rfl, rfl⟩
    case round =>
      obtain ⟨i, hi, rfl, rfl⟩ := hrel
      by_cases hip : i < p
      · have hip' : (i : Int) < (p : Int) := by omega
        have hi0 : (0 : Int) ≤ (i : Int) := by omega
        obtain ⟨g, off, rfl, d, r, _⟩ := HY.out wr B1 i _ (List.getElem?_eq_getElem (by rw [hp]; exact hip))
        have hne : ((((a + i : Nat) : Int)) == x) = false := by rw [beq_eq_false_iff_ne]; omega
        have hwr : IntKind.i64.wrap ((i : Int) + 1) = ((i + 1 : Nat) : Int) := by simp [IntKind.wrap, IntKind.bits, IntKind.signed]; omega
        generalize ((a + i : Nat) : Int) = y at *
        clear HX HY r hv hg
        go_wp2_with fail
        go_roundw
        case rel => exact ⟨i + 1, by omega, by simp, trivial⟩
        case measure => simp [intOf]; omega
      · have hip' : ¬ (i : Int) < (p : Int) := by omega
        clear HX HY hv hg
        go_wp2_with (first
          | (refine wpList_build_row rfl 35 #[] rfl zeroS [] rfl HBz.out ?_)
          | (refine wpList_store_rw rfl 35 (.tmp 4) (.tmp 33) rfl w.heap.size zeroS zeroS 35 rfl rfl ?_ ZS HLz HOz.out ?_; exact hr1; intro W3 hr3 O3))
        refine ret_row2 rfl rfl rfl hr3 Try.underlying35 rfl ZS ?_
        exact ⟨rfl, B1.trans (O3.below (Nat.le_refl _))⟩
  | true =>
    obtain ⟨j, s, hj, hx, hs⟩ := gt_yes hg
    have hjp : j < p := by have := (List.getElem?_eq_some_iff.1 hj).1; omega
    obtain ⟨cs, hcs⟩ : ∃ cs, stV s = cs := ⟨_, rfl⟩
    rw [hs, hcs]
    have HCS := hid_into hcs
    clear hcs
    have HXX := hid_into hx
    clear hx hs hg
    go_enter Try.func16, Try.ntmps16
    go_wp2_with (first
      | (refine wpList_alloc_row rfl 35 rfl zeroS HZ.out ?_; intro W1 hr1 B1 _; have c1 := HX.out _ B1))
    go_loopw [6] (fun x6 wr => ∃ i : Nat, i ≤ j ∧ x6 = .int .i64 (i : Int) ∧ wr = W1) (fun x6 _ => p - (intOf x6).toNat)
    case atStart => exact ⟨0, Nat.zero_le _, rfl, rfl⟩
    case round =>
      obtain ⟨i, hi, rfl, rfl⟩ := hrel
      have hip : i < p := by omega
      have hip' : (i : Int) < (p : Int) := by omega
      have hi0 : (0 : Int) ≤ (i : Int) := by omega
      by_cases hij : i < j
      · obtain ⟨g, off, rfl, d, r, _⟩ := HY.out wr B1 i _ (List.getElem?_eq_getElem (by rw [hp]; exact hip))
        have hne : ((((a + i : Nat) : Int)) == x) = false := by rw [beq_eq_false_iff_ne]; have := HXX.out; omega
        have hwr : IntKind.i64.wrap ((i : Int) + 1) = ((i + 1 : Nat) : Int) := by simp [IntKind.wrap, IntKind.bits, IntKind.signed]; omega
        generalize ((a + i : Nat) : Int) = y at *
        clear HX HY r HXX hj HCS
        go_wp2_with fail
        go_roundw
        case rel => exact ⟨i + 1, by omega, by simp, trivial⟩
        case measure => simp [intOf]; omega
      · obtain rfl : i = j := by omega
        obtain ⟨g, off, rfl, d, r, hwf⟩ := HY.out wr B1 i _ hj
        have HN := st_size hwf
        have HL2 := st_len hwf
        have HO2 := st_one hwf
        rw [← HXX.out] at d
        rw [HCS.out] at r HN HL2 HO2
        clear HX HY HXX hj hwf HCS
        go_wp2_with (first
          | (refine wpList_plain rfl fun _ hK => ?_; refine wp_load_mid 35 (.tmp 31) rfl g (off + i * 20) rfl cs _ ?_ Try.underlying35 rfl HN.out ?_; exact r; refine hK _ _ ?_)
          | (refine wpList_store_rw rfl 35 (.tmp 4) (.tmp 32) rfl w.heap.size zeroS cs 35 rfl rfl ?_ ZS HL2 HO2.out ?_; exact hr1; intro W3 hr3 O3))
        refine ret_row2 rfl rfl rfl hr3 Try.underlying35 rfl HN ?_
        exact ⟨rfl, B1.trans (O3.below (Nat.le_refl _))⟩
end Go.Proofs.Ytkchdkcdkeajkaa
