/-
  Joined from: FrFrameR, SegRec, FrRowsW, FrScan.
-/
import Derived.Test.YtnkjhooeklodcaaGreatDoorM09
import Derived.Test.YtnkjhooeklodcaaGreatDoorM07
import Derived.Test.YtnkjhooeklodcaaGreatDoorM06
import Derived.Test.YtnkjhooeklodcaaGreatDoorM08
section
/-
  The document's own records (gauntletref4), by contract: four, Encode, Decode.
-/
namespace Go.Proofs.YtnkjhooeklodcaaGreatDoor.Fr
open Go.RowKit

set_option maxHeartbeats 800000 in
theorem rfour4_any (sv : Value) (zs : List Int) (w : World) (hb : Bs w sv zs) (hy : Byt zs) (hl : 4 ≤ zs.length) :
    Calls Tryz.prog 133 #[sv] w fun e w' => e = .returned (.int .u32 (fourV (zs.take 4))) ∧ Below w.heap.size w w' := by
  have HR : Hid ((rowR [0, 0, 0, 0] zs 0).1 = zs.take 4) := rowR_four hl
  have B0 : Below w.heap.size w (w.alloc (.cells #[sv, .int .i64 0] 151)) := (Below.refl _ _).alloc (Nat.le_refl _) _
  have hr : Rf (w.alloc (.cells #[sv, .int .i64 0] 151)) w.heap.size sv zs 0 :=
    ⟨heap_alloc_new w _, hb.below B0 (Nat.le_refl _), fun e => by
      have := hb.lt (fun e0 => by rw [e0] at hl; simp at hl) _ e
      omega⟩
  obtain ⟨ao, cap, hsv, hm⟩ := hb.len
  subst hsv
  go_enter Tryz.func133, Tryz.ntmps133
  go_wp2_with fail
  refine (ffour_u w.heap.size _ zs 0 _ hr (Or.inl rfl) hy).mono ?_
  rintro e w2 ⟨rfl, hleft⟩
  have hB : Below w.heap.size w w2 := by
    obtain ⟨v', _, hst, _⟩ := hleft
    exact B0.trans (hst.below (Nat.le_refl _) (by have := hr.lt; omega))
  clear hleft
  rw [HR.out]
  go_wp2
  go_ret
  exact ⟨rfl, hB⟩

theorem Ow.grew {w w' : World} {base : Nat} {v : Value} {zs : List Int} {B : Nat} (h : Ow w base v zs) (hk : Below B w w') (hb : w.heap.size ≤ B) : Ow w' base v zs :=
  h.keep fun k _ hlt => hk.block k (by omega)
theorem grown_below {w w' : World} {row : Option Nat} {B : Nat} (h : w.grownBy w' row) (hB : B ≤ w.heap.size) (hr : ∀ k, row = some k → B ≤ k) : Below B w w' :=
  ⟨h.os, h.tape, h.output, h.size, fun k hk => h.block k (by omega) (fun e => by have := hr k e.symm; omega)⟩
theorem Ow.from {w : World} {base : Nat} {v : Value} {zs : List Int} (h : Ow w base v zs) : ∀ k, v.ownBlock = some k → base ≤ k := fun k hk => (World.ownsRow.lt h k hk).1

set_option maxHeartbeats 3200000 in
set_option maxRecDepth 20000 in
theorem renc_any (sv : Value) (zs : List Int) (w : World) (hb : Bs w sv zs) (hy : Byt zs) (hz : zs.length ≤ 65536) :
    Calls Tryz.prog 52 #[sv] w fun e w' => ∃ ao cap, e = .returned (.tuple #[.slice ao (recN zs).length cap, .int .i64 0]) ∧ Ow w' w.heap.size (.slice ao (recN zs).length cap) (recN zs) ∧ Below w.heap.size w w' := by
  obtain ⟨ao, cap, hsv, hm⟩ := hb.len
  subst hsv
  have hu : (zs.length : Int) % 4294967296 = zs.length := by omega
  go_enter Tryz.func52, Tryz.ntmps52
  go_wp2_with fail
  refine (refFour_any _ _).mono ?_
  rintro e w1 ⟨ao1, cap1, rfl, ho1, B1⟩
  have hyA := fourB_byt (zs.length : Int)
  have lA : Hid ((fourB (zs.length : Int)).length = 4) := rfl
  have HY : Hid (recN zs = fourB (zs.length : Int) ++ fourB (sumOf (fourB (zs.length : Int)) : Nat) ++ zs ++ fourB (sumOf (fourB (zs.length : Int) ++ fourB (sumOf (fourB (zs.length : Int)) : Nat) ++ zs) : Nat)) := rfl
  generalize fourB (zs.length : Int) = A at *
  go_wp2_with fail
  refine (refSum_any _ _ _ ho1.bs hyA).mono ?_
  rintro e w1 ⟨rfl, rfl⟩
  go_wp2_with fail
  refine (refFour_any _ _).mono ?_
  rintro e w2 ⟨ao2, cap2, rfl, ho2, B2⟩
  have hyB := fourB_byt ((sumOf A : Nat) : Int)
  have lB : Hid ((fourB ((sumOf A : Nat) : Int)).length = 4) := rfl
  generalize fourB ((sumOf A : Nat) : Int) = B at *
  have ho1' := ho1.grew B2 (Nat.le_refl _)
  have B12 : Below w.heap.size w w2 := B1.trans (B2.mono B1.size)
  go_wp2_with (at_builtin; refine wpList_append_bs _ rfl (.tmp 12) (.tmp 15) rfl w.heap.size _ A rfl ho1' _ B rfl ho2.bs (by rw [lA.out, lB.out]; decide) B12.size ?_)
  intro ao3 cap3 w3 ho3 hg3 hat3
  have B3 : Below w.heap.size w w3 := B12.trans (grown_below hg3 B12.size ho1'.from)
  have hb3 := hb.below B3 (Nat.le_refl _)
  have l3 : Hid ((A ++ B).length = 8) := by show _ = _; rw [List.length_append, lA.out, lB.out]
  rw [← List.length_append] at ho3
  rw [← List.length_append]
  have hy3 : Byt (A ++ B) := hyA.app hyB
  generalize A ++ B = C at *
  clear ho1 ho1' ho2 hg3 hat3 B1 B2 B12
  go_wp2_with (at_builtin; refine wpList_append_bs _ rfl (.tmp 17) (.tmp 18) rfl w.heap.size _ C rfl ho3 _ zs rfl hb3 (by rw [l3.out]; omega) B3.size ?_)
  intro ao4 cap4 w4 ho4 hg4 hat4
  have B4 : Below w.heap.size w w4 := B3.trans (grown_below hg4 B3.size ho3.from)
  have l4 : Hid ((C ++ zs).length ≤ 70000) := by show _ ≤ _; rw [List.length_append, l3.out]; omega
  rw [← List.length_append] at ho4
  rw [← List.length_append]
  have hy4 : Byt (C ++ zs) := hy3.app hy
  generalize C ++ zs = D at *
  clear ho3 hg4 hat4 B3 hb3
  go_wp2_with fail
  refine (refSum_any _ _ _ ho4.bs hy4).mono ?_
  rintro e w4 ⟨rfl, rfl⟩
  go_wp2_with fail
  refine (refFour_any _ _).mono ?_
  rintro e w5 ⟨ao5, cap5, rfl, ho5, B5⟩
  have lE : Hid ((fourB ((sumOf D : Nat) : Int)).length = 4) := rfl
  generalize fourB ((sumOf D : Nat) : Int) = E at *
  have ho4' := ho4.grew B5 (Nat.le_refl _)
  have B45 : Below w.heap.size w w5 := B4.trans (B5.mono B4.size)
  go_wp2_with (at_builtin; refine wpList_append_bs _ rfl (.tmp 20) (.tmp 23) rfl w.heap.size _ D rfl ho4' _ E rfl ho5.bs (by have := l4.out; rw [lE.out]; omega) B45.size ?_)
  intro ao6 cap6 w6 ho6 hg6 hat6
  have B6 : Below w.heap.size w w6 := B45.trans (grown_below hg6 B45.size ho4'.from)
  rw [← List.length_append] at ho6
  rw [← List.length_append]
  rw [← HY.out] at ho6 ⊢
  clear ho4 ho4' ho5 hg6 hat6 B4 B5 B45 HY
  go_wp2
  go_ret2
  exact ⟨ao6, cap6, rfl, ho6, B6⟩

def DecPost (w : World) (zs : List Int) (e : Ending) (w' : World) : Prop := ∃ ao cap, e = .returned (.tuple #[.slice ao (decP zs).length cap, .int .i64 (decN zs), .int .i64 (decE zs)]) ∧ Ow w' w.heap.size (.slice ao (decP zs).length cap) (decP zs) ∧ Below w.heap.size w w'
theorem DecPost.bad {w w' : World} {zs : List Int} {er : Int} (h : decE zs = er) (h0 : er ≠ 0) (hB : Below w.heap.size w w') : DecPost w zs (.returned (.tuple #[.slice none 0 0, .int .i64 0, .int .i64 er])) w' := by
  subst h
  refine ⟨none, 0, ?_, ?_, hB⟩
  · rw [decP_bad h0, decN_bad h0]; rfl
  · rw [decP_bad h0]; exact World.ownsRow_nil _ _ _ _

set_option maxHeartbeats 6400000 in
set_option maxRecDepth 20000 in
theorem rdec_any (sv : Value) (zs : List Int) (w : World) (hb : Bs w sv zs) (hy : Byt zs) (hz : zs.length ≤ 100000000000000) :
    Calls Tryz.prog 115 #[sv] w (DecPost w zs) := by
  by_cases h8 : zs.length < 8
  · have HE : Hid (decE zs = 2) := by show _ = _; rw [decE_head (by rw [headE_short h8]; decide), headE_short h8]
    obtain ⟨ao, cap, hsv, hm⟩ := hb.len
    subst hsv
    go_enter Tryz.func115, Tryz.ntmps115
    go_wp2
    go_ret3
    exact DecPost.bad HE.out (by decide) (Below.refl _ _)
  rcases hb with ⟨h0, _⟩ | ⟨hne, b, off, cap, rfl, hc1, hc2, hcell⟩
  · rw [h0] at h8; exact absurd (by decide) h8
  have hb : Bs w (.slice (some ⟨b, off, none⟩) zs.length cap) zs := Or.inr ⟨hne, b, off, cap, rfl, hc1, hc2, hcell⟩
  clear hcell
  have hf : Bs w (.slice (some ⟨b, off, none⟩) 4 cap) (zs.take 4) := hb.front 4 (by omega)
  have hg : Bs w (.slice (some ⟨b, off + 4, none⟩) (zs.length - 4) (cap - 4)) (zs.drop 4) := hb.suffix 4 (by omega) hne
  have D1 : ∀ W : World, Below w.heap.size w W → Calls Tryz.prog 133 #[.slice (some ⟨b, off + 4, none⟩) (zs.length - 4) (cap - 4)] W fun e w' => e = .returned (.int .u32 (fourV ((zs.drop 4).take 4))) ∧ Below w.heap.size w w' :=
    fun W hW => (rfour4_any _ _ W (hg.below hW (Nat.le_refl _)) (hy.drop 4) (by simp; omega)).mono fun e w' ⟨h1, h2⟩ => ⟨h1, hW.trans (h2.mono hW.size)⟩
  have D2 : ∀ W : World, Below w.heap.size w W → Calls Tryz.prog 83 #[.slice (some ⟨b, off, none⟩) 4 cap] W fun e w' => e = .returned (.int .u32 (sumOf (zs.take 4) : Nat)) ∧ W = w' :=
    fun W hW => refSum_any _ _ W (hf.below hW (Nat.le_refl _)) (hy.take 4)
  have D3 : ∀ W : World, Below w.heap.size w W → Calls Tryz.prog 133 #[.slice (some ⟨b, off, none⟩) zs.length cap] W fun e w' => e = .returned (.int .u32 (fourV (zs.take 4))) ∧ Below w.heap.size w w' :=
    fun W hW => (rfour4_any _ _ W (hb.below hW (Nat.le_refl _)) hy (by omega)).mono fun e w' ⟨h1, h2⟩ => ⟨h1, hW.trans (h2.mono hW.size)⟩
  have B0 : Below w.heap.size w w := Below.refl _ _
  unfold maxLen at hc2
  have c4 : ¬ cap = 4 := by omega
  have l4 : (4 : Int) ≤ (zs.length : Int) := by omega
  have k4 : (4 : Int) ≤ (cap : Int) := by omega
  by_cases hv : ((sumOf (zs.take 4) : Nat) : Int) = fourV ((zs.drop 4).take 4)
  · have e1 : ∀ n : Nat, fourV (zs.take 4) = (n : Int) → ¬ 65536 < n → headE zs = 0 ∧ heldN zs = n := fun n h1 h2 => ⟨headE_good h8 hv (by omega), by unfold heldN; rw [h1]; exact Int.toNat_natCast n⟩
    have e2 : 65536 < fourV (zs.take 4) → decE zs = 5 := fun h => by rw [decE_head (by rw [headE_long h8 hv h]; decide), headE_long h8 hv h]
    have hr := fourV_range (zs.take 4) (hy.take 4)
    obtain ⟨n, hx1, hx2⟩ : ∃ n : Nat, fourV (zs.take 4) = (n : Int) ∧ n < 4294967296 := ⟨(fourV (zs.take 4)).toNat, by omega, by omega⟩
    rw [hx1] at D3
    rw [← hv] at D1
    by_cases hlong : 65536 < n
    · have HE : Hid (decE zs = 5) := e2 (by omega)
      generalize sumOf (zs.take 4) = s at *
      clear hv e1 e2 hr hx1 hf hg
      go_enter Tryz.func115, Tryz.ntmps115
      go_wp2_with fail
      go_region_held3 (fun w' => True) (trivial)
        (first
          | (go_at_call 133; refine (D1 _ (by exact B0.drew)).mono ?_; rintro e w2 ⟨rfl, hB2⟩)
          | (go_at_call 83; refine (D2 _ (by first | exact hB2 | exact B0.drew)).mono ?_; rintro e w3 ⟨rfl, rfl⟩))
      all_goals
        go_wp2_with fail
        refine (D3 _ hB2).mono ?_
        rintro e w4 ⟨rfl, hB4⟩
        go_wp2
        go_ret3
        exact DecPost.bad HE.out (by decide) hB4
    obtain ⟨hh, hn⟩ := e1 n hx1 hlong
    by_cases h12 : zs.length < 12 + n
    · have HE : Hid (decE zs = 2) := decE_short hh (by rw [hn]; exact h12)
      generalize sumOf (zs.take 4) = s at *
      clear hv e1 e2 hr hx1 hf hg hh hn
      go_enter Tryz.func115, Tryz.ntmps115
      go_wp2_with fail
      go_region_held3 (fun w' => True) (trivial)
        (first
          | (go_at_call 133; refine (D1 _ (by exact B0.drew)).mono ?_; rintro e w2 ⟨rfl, hB2⟩)
          | (go_at_call 83; refine (D2 _ (by first | exact hB2 | exact B0.drew)).mono ?_; rintro e w3 ⟨rfl, rfl⟩))
      all_goals
        go_wp2_with fail
        refine (D3 _ hB2).mono ?_
        rintro e w4 ⟨rfl, hB4⟩
        go_wp2
        go_ret3
        exact DecPost.bad HE.out (by decide) hB4
    obtain ⟨m, qm⟩ : ∃ m : Nat, m = 8 + n := ⟨_, rfl⟩
    have hf2 : Bs w (.slice (some ⟨b, off, none⟩) m cap) (zs.take m) := hb.front m (by omega)
    have hg2 : Bs w (.slice (some ⟨b, off + m, none⟩) (zs.length - m) (cap - m)) (zs.drop m) := hb.suffix m (by omega) hne
    have hk2 : Bs w (.slice (some ⟨b, off + 8, none⟩) (m - 8) (cap - 8)) ((zs.drop 8).take n) := by
      have := (hb.suffix 8 (by omega) hne).front n (by simp; omega)
      rw [show m - 8 = n by omega]; exact this
    have E1 : ∀ W : World, Below w.heap.size w W → Calls Tryz.prog 133 #[.slice (some ⟨b, off + m, none⟩) (zs.length - m) (cap - m)] W fun e w' => e = .returned (.int .u32 (fourV ((zs.drop m).take 4))) ∧ Below w.heap.size w w' :=
      fun W hW => (rfour4_any _ _ W (hg2.below hW (Nat.le_refl _)) (hy.drop m) (by simp; omega)).mono fun e w' ⟨h1, h2⟩ => ⟨h1, hW.trans (h2.mono hW.size)⟩
    have E2 : ∀ W : World, Below w.heap.size w W → Calls Tryz.prog 83 #[.slice (some ⟨b, off, none⟩) m cap] W fun e w' => e = .returned (.int .u32 (sumOf (zs.take m) : Nat)) ∧ W = w' :=
      fun W hW => refSum_any _ _ W (hf2.below hW (Nat.le_refl _)) (hy.take m)
    have lk : ((zs.drop 8).take n).length = n := by simp; omega
    have f1 : (0 : Int) ≤ (m : Int) := by omega
    have f2 : (m : Int) ≤ (cap : Int) := by omega
    have f3 : (m : Int) ≤ (zs.length : Int) := by omega
    have f6 : ¬ cap = m := by omega
    have f7 : ¬ cap = 8 := by omega
    have f8 : (8 : Int) ≤ (m : Int) := by omega
    have f9 : (8 : Int) ≤ (cap : Int) := by omega
    have q8 : IntKind.i64.wrap (8 + (n : Int)) = (m : Int) := by rw [IntKind.wrap_i64]; omega
    have hn2 : (n : Int) ≤ 65536 := by omega
    have hl2 : (12 : Int) + (n : Int) ≤ (zs.length : Int) := by omega
    by_cases hv2 : ((sumOf (zs.take m) : Nat) : Int) = fourV ((zs.drop m).take 4)
    · have g : decE zs = 0 := decE_good hh (by rw [hn]; exact h12) (by rw [hn, ← qm]; exact hv2)
      have HP : Hid (decP zs = (zs.drop 8).take n) := by show _ = _; rw [decP_good g, hn]
      have HN : Hid ((decN zs : Int) = 12 + (n : Int)) := by show _ = _; rw [decN_good g, hn]; omega
      have HE : Hid (decE zs = 0) := g
      have HPost : Hid (∀ w' ao cap, Ow w' w.heap.size (.slice ao n cap) ((zs.drop 8).take n) → Below w.heap.size w w' → DecPost w zs (.returned (.tuple #[.slice ao n cap, .int .i64 (12 + (n : Int)), .int .i64 0])) w') := by
        intro w' ao cap h1 h2
        refine ⟨ao, cap, ?_, ?_, h2⟩
        · rw [HP.out, HE.out, HN.out, lk]
        · rw [HP.out, lk]; exact h1
      rw [← hv2] at E1
      clear HP HN HE
      generalize (zs.drop 8).take n = ps at *
      generalize sumOf (zs.take 4) = s at *
      generalize sumOf (zs.take m) = s2 at *
      clear hv hv2 e1 e2 hr hx1 hf hg hh hn hf2 hg2 g
      have HL : Hid (ps.length = n) := lk
      have HQ : Hid (m = 8 + n) := qm
      clear lk qm
      go_enter Tryz.func115, Tryz.ntmps115
      go_wp2_with fail
      go_region_held3 (fun w' => True) (trivial)
        (first
          | (go_at_call 133; refine (D1 _ (by exact B0.drew)).mono ?_; rintro e w2 ⟨rfl, hB2⟩)
          | (go_at_call 83; refine (D2 _ (by first | exact hB2 | exact B0.drew)).mono ?_; rintro e w3 ⟨rfl, rfl⟩))
      all_goals
        go_wp2_with fail
        refine (D3 _ hB2).mono ?_
        rintro e w4 ⟨rfl, hB4⟩
        go_wp2_with fail
        go_region_held3 (fun w' => True) (trivial)
          (first
            | (go_at_call 133; refine (E1 _ (by exact hB4.drew)).mono ?_; rintro e w5 ⟨rfl, hB5⟩)
            | (go_at_call 83; refine (E2 _ (by first | exact hB5 | exact hB4.drew)).mono ?_; rintro e w6 ⟨rfl, rfl⟩))
        all_goals
          have hk5 := hk2.below (hB5.alloc hB5.size (.cells #[] 5)) (Nat.le_refl _)
          have ho5 : Ow (w5.alloc (.cells #[] 5)) w5.heap.size (.slice (some ⟨w5.heap.size, 0, none⟩) 0 0) [] := Ow_of_block (heap_alloc_new w5 _) (by simp) (Nat.le_refl _)
          go_wp2_with (at_builtin; refine wpList_append_bs _ rfl (.tmp 37) (.tmp 41) rfl w5.heap.size _ [] rfl ho5 _ ps rfl hk5 (by rw [HL.out]; simp; omega) (by simp) ?_)
          intro ao6 cap6 w6 ho6 hg6 hat6
          have B6 : Below w.heap.size w w6 := (hB5.alloc hB5.size _).trans (grown_below hg6 (by have := hB5.size; simp; omega) (fun k hk => by have := ho5.from k hk; have := hB5.size; omega))
          have ho6' : Ow w6 w.heap.size (.slice ao6 n cap6) ps := by
            have h1 := ho6.mono hB5.size
            rw [HL.out] at h1
            exact h1
          rw [HL.out]
          clear ho6 hg6 hat6 ho5 hk5
          go_wp2
          go_ret3
          exact HPost.out _ _ _ ho6' B6
    · have HE : Hid (decE zs = 4) := decE_sum hh (by rw [hn]; exact h12) (by rw [hn, ← qm]; exact hv2)
      generalize sumOf (zs.take 4) = s at *
      generalize sumOf (zs.take m) = s2 at *
      generalize fourV ((zs.drop m).take 4) = x2 at *
      have hv2' : ¬ x2 = (s2 : Int) := fun e => hv2 e.symm
      clear hv hv2 e1 e2 hr hx1 hf hg hh hn hf2 hg2 hk2 lk qm
      go_enter Tryz.func115, Tryz.ntmps115
      go_wp2_with fail
      go_region_held3 (fun w' => True) (trivial)
        (first
          | (go_at_call 133; refine (D1 _ (by exact B0.drew)).mono ?_; rintro e w2 ⟨rfl, hB2⟩)
          | (go_at_call 83; refine (D2 _ (by first | exact hB2 | exact B0.drew)).mono ?_; rintro e w3 ⟨rfl, rfl⟩))
      all_goals
        go_wp2_with fail
        refine (D3 _ hB2).mono ?_
        rintro e w4 ⟨rfl, hB4⟩
        go_wp2_with fail
        go_region_held3 (fun w' => True) (trivial)
          (first
            | (go_at_call 133; refine (E1 _ (by exact hB4.drew)).mono ?_; rintro e w5 ⟨rfl, hB5⟩)
            | (go_at_call 83; refine (E2 _ (by first | exact hB5 | exact hB4.drew)).mono ?_; rintro e w6 ⟨rfl, rfl⟩))
        all_goals
          go_wp2
          go_ret3
          exact DecPost.bad HE.out (by decide) hB5
  · have HE : Hid (decE zs = 4) := by show _ = _; rw [decE_head (by rw [headE_sum h8 hv]; decide), headE_sum h8 hv]
    generalize fourV ((zs.drop 4).take 4) = x at *
    generalize sumOf (zs.take 4) = s at *
    have hv' : ¬ x = (s : Int) := fun e => hv e.symm
    clear hv D3 hf hg
    go_enter Tryz.func115, Tryz.ntmps115
    go_wp2_with fail
    go_region_held3 (fun w' => True) (trivial)
      (first
        | (go_at_call 133; refine (D1 _ (by exact B0.drew)).mono ?_; rintro e w2 ⟨rfl, hB2⟩)
        | (go_at_call 83; refine (D2 _ (by first | exact hB2 | exact B0.drew)).mono ?_; rintro e w3 ⟨rfl, rfl⟩))
    all_goals
      go_wp2
      go_ret3
      exact DecPost.bad HE.out (by decide) hB2
end Go.Proofs.YtnkjhooeklodcaaGreatDoor.Fr
end

section
/-
  record: an entry as it stands in a segment.
-/
namespace Go.Proofs.YtnkjhooeklodcaaGreatDoor.Fr
open Go.RowKit

def entN (n : Int) (zs : List Int) : List Int := recN (numOf n ++ zs)
set_option maxHeartbeats 2000000 in
set_option maxRecDepth 100000 in
theorem record_any (n : Int) (sv : Value) (zs : List Int) (w : World) (hb : Bs w sv zs) (hy : Byt zs) (hz : zs.length ≤ 65526) (ht : Tab w) (h0 : 0 ≤ n) (h1 : n ≤ 1000000000) :
    Calls Tryz.prog 48 #[.int .i64 n, sv] w fun e w' => ∃ ao cap, e = .returned (.slice ao (entN n zs).length cap) ∧ Ow w' w.heap.size (.slice ao (entN n zs).length cap) (entN n zs) ∧ Below w.heap.size w w' := by
  have hw0 := Wr_new w
  have B0 : Below w.heap.size w (w.alloc (.cells #[.slice none 0 0] 132)) := (Below.refl _ _).alloc (Nat.le_refl _) _
  obtain ⟨ao, cap, hsv, hm⟩ := hb.len
  subst hsv
  have hnl := numOf_length n
  have ht0 := ht.lt
  have hny := numOf_byt n (by omega) (by omega)
  have HE : entN n zs = recN (numOf n ++ zs) := rfl
  rw [HE]
  clear HE
  go_enter Tryz.func48, Tryz.ntmps48
  go_wp2_with fail
  refine (num_w w.heap.size _ [] n _ hw0 (by decide) (by omega) (by omega)).mono ?_
  rintro e w1 ⟨rfl, v1, hw1, hs1⟩
  have B1 : Below w.heap.size w w1 := B0.trans (hw0.below hs1 (Nat.le_refl _))
  rw [List.nil_append] at hw1
  go_wp2_with fail
  refine (out_w w.heap.size v1 _ _ hw1 (by omega)).mono ?_
  rintro e w2 ⟨ao2, cap2, rfl, ho2, hb2⟩
  have B2 : Below w.heap.size w w2 := B1.trans (hb2.mono B1.size)
  have hb2' := hb.below B2 (Nat.le_refl _)
  have ho2' := ho2.mono B1.size
  have ht2 := ht.below B2 ht.lt
  clear hw0 hw1 hs1 ho2 hb2 B0 B1 ht hb
  generalize hA : numOf n = A at *
  go_wp2_with (at_builtin; refine wpList_append_bs _ rfl (.tmp 11) (.tmp 12) rfl w.heap.size _ A rfl ho2' _ zs rfl hb2' (by omega) B2.size ?_)
  intro ao3 cap3 w3 ho3 hg3 hat3
  have B3' := grown_below hg3 B2.size ho2'.from
  have B3 : Below w.heap.size w w3 := B2.trans B3'
  have ht3 := ht2.below B3' (Nat.lt_of_lt_of_le ht0 (Nat.le_refl _))
  rw [← List.length_append] at ho3
  rw [← List.length_append]
  have hy3 : Byt (A ++ zs) := hny.app hy
  have hl3 : (A ++ zs).length ≤ 65536 := by rw [List.length_append]; omega
  clear hat3 hg3 ho2' hb2' B3' B2 ht2 hny hnl
  generalize hC : A ++ zs = C at *
  have HA : Hid (numOf n = A) := hA
  have HC : Hid (A ++ zs = C) := hC
  clear hA hC
  go_wp2_with fail
  refine (enc_any2 _ _ _ ho3.bs hy3 hl3 ht3).mono ?_
  rintro e w4 ⟨ao4, cap4, rfl, ho4, hb4⟩
  go_wp2
  go_ret
  obtain rfl := HC.out
  obtain rfl := HA.out
  exact ⟨_, _, rfl, ho4.mono B3.size, B3.trans (hb4.mono B3.size)⟩
end Go.Proofs.YtnkjhooeklodcaaGreatDoor.Fr
end

section
/-
  Rows of bytes: such as came in, or can be read (Rs); a row of them of the call's own (Osl), and append to it.
-/
namespace Go.Proofs.YtnkjhooeklodcaaGreatDoor.Fr
open Go.RowKit

abbrev Rw2 := Value × List Int
def RwOk (w : World) (r : Rw2) : Prop := Bs w r.1 r.2 ∧ Byt r.2 ∧ r.2.length ≤ 140737488355328
def Rs (w : World) (v : Value) (rs : List Rw2) : Prop :=
  ∃ ao cap, v = .slice ao rs.length cap ∧ rs.length ≤ 140737488355328 ∧ (∀ r ∈ rs, RwOk w r) ∧
    (rs ≠ [] → ∃ b off, ao = some ⟨b, off, none⟩ ∧ ∀ i r, rs[i]? = some r → w.cell? ⟨b, off + i, none⟩ = some r.1)
theorem RwOk.below {w w' : World} {r : Rw2} (h : RwOk w r) (hb : Below w.heap.size w w') : RwOk w' r := ⟨h.1.below hb (Nat.le_refl _), h.2⟩
theorem Rs.below {w w' : World} {v : Value} {rs : List Rw2} (h : Rs w v rs) (hb : Below w.heap.size w w') : Rs w' v rs := by
  obtain ⟨ao, cap, hv, hl, hr, hc⟩ := h
  refine ⟨ao, cap, hv, hl, fun r hm => (hr r hm).below hb, fun hne => ?_⟩
  obtain ⟨b, off, e, hcell⟩ := hc hne
  refine ⟨b, off, e, fun i r hi => ?_⟩
  have h1 := hcell i r hi
  rw [World.cell?_of_block (w := w) (hb.block b (World.block_lt_of_cell? w _ h1))]
  exact h1
theorem Rs.form {w : World} {v : Value} {rs : List Rw2} (h : Rs w v rs) : ∃ ao cap, v = .slice ao rs.length cap ∧ rs.length ≤ 140737488355328 ∧ True := by
  obtain ⟨ao, cap, hv, hl, _⟩ := h
  exact ⟨ao, cap, hv, hl, trivial⟩
theorem Rs.get {w : World} {rs : List Rw2} {ao : Option Addr} {cap : Nat} (h : Rs w (.slice ao rs.length cap) rs) {i : Nat} (hi : i < rs.length) :
    ∃ b off ap cp zs, ao = some ⟨b, off, none⟩ ∧ rs[i]? = some (.slice ap zs.length cp, zs) ∧ w.cell? ⟨b, off + i, none⟩ = some (.slice ap zs.length cp) ∧ Bs w (.slice ap zs.length cp) zs ∧ Byt zs ∧ zs.length ≤ 140737488355328 := by
  obtain ⟨ao', cap', hv, hl, hr, hc⟩ := h
  simp only [Value.slice.injEq] at hv
  obtain ⟨rfl, _, rfl⟩ := hv
  obtain ⟨b, off, e, hcell⟩ := hc (fun e => by rw [e] at hi; simp at hi)
  have hg : rs[i]? = some rs[i] := List.getElem?_eq_getElem hi
  obtain ⟨hb, hby, hlen⟩ := hr _ (List.getElem_mem hi)
  obtain ⟨ap, cp, hsv, _⟩ := hb.len
  generalize rs[i] = r at *
  obtain ⟨v, zs⟩ := r
  simp only at hsv hb hby hlen
  subst hsv
  exact ⟨b, off, ap, cp, zs, e, hg, hcell i _ hg, hb, hby, hlen⟩
def bytesOf2 (rs : List Rw2) : List (List Int) := rs.map (·.2)
theorem bytesOf2_len (rs : List Rw2) : (bytesOf2 rs).length = rs.length := by simp [bytesOf2]
theorem bytesOf2_append (a b : List Rw2) : bytesOf2 (a ++ b) = bytesOf2 a ++ bytesOf2 b := by simp [bytesOf2]
theorem bytesOf2_take (a : List Rw2) (n : Nat) : bytesOf2 (a.take n) = (bytesOf2 a).take n := by simp [bytesOf2, List.map_take]
theorem Rs.take {w : World} {b off len cap : Nat} {rs : List Rw2} (h : Rs w (.slice (some ⟨b, off, none⟩) len cap) rs) (n : Nat) (hn : n ≤ rs.length) : Rs w (.slice (some ⟨b, off, none⟩) n cap) (rs.take n) := by
  obtain ⟨ao', cap', hv, hl, hr, hc⟩ := h
  simp only [Value.slice.injEq] at hv
  obtain ⟨rfl, _, rfl⟩ := hv
  have ln : (rs.take n).length = n := by simp; omega
  refine ⟨_, cap, by rw [ln], by omega, fun r hm => hr r (List.mem_of_mem_take hm), fun hne => ?_⟩
  obtain ⟨b', off', e, hcell⟩ := hc (fun e => hne (by rw [e]; simp))
  refine ⟨b', off', e, fun i r hi => hcell i r ?_⟩
  have hlt := (List.getElem?_eq_some_iff.1 hi).1
  rw [List.getElem?_take_of_lt (by omega)] at hi
  exact hi

theorem Tz.info22 : (Tryz.prog.info? 38).map (fun i => (i.zero, i.size, i.bytes)) = some (some (.slice none 0 0), 1, 24) := by kernel_rfl
def slOf (rs : List Rw2) : List Value := rs.map (·.1)
theorem ownsRow_keep {w w' : World} {base : Nat} {t : TypeId} {sz : Nat} {v : Value} {n : Nat} {cs : List Value} (h : w.ownsRow base t sz v n cs) (hk : ∀ k, v.ownBlock = some k → k < w.heap.size → w'.heap[k]? = w.heap[k]?) : w'.ownsRow base t sz v n cs := by
  refine ⟨h.1, ?_⟩
  rcases h.2 with h2 | ⟨g, cap, cur, rfl, hb, hg, rest⟩
  · exact Or.inl h2
  · exact Or.inr ⟨g, cap, cur, rfl, hb, by rw [hk g rfl (Array.getElem?_eq_some_iff.1 hg).1]; exact hg, rest⟩
structure Osl (w : World) (base : Nat) (v : Value) (rs : List Rw2) : Prop where
  row : w.ownsRow base 38 1 v rs.length (slOf rs)
  each : ∀ r ∈ rs, Ow w base r.1 r.2 ∧ Byt r.2 ∧ r.2.length ≤ 140737488355328 ∧ ∀ k, r.1.ownBlock = some k → v.ownBlock ≠ some k
theorem Osl.nil (w : World) (base : Nat) : Osl w base (.slice none 0 0) [] := ⟨World.ownsRow_nil _ _ _ _, fun r h => by cases h⟩
theorem Osl.below {w w' : World} {base : Nat} {v : Value} {rs : List Rw2} (h : Osl w base v rs) (hb : Below w.heap.size w w') : Osl w' base v rs :=
  ⟨ownsRow_keep h.row fun k _ hk => hb.block k hk, fun r hr => ⟨(h.each r hr).1.keep fun k _ hk => hb.block k hk, (h.each r hr).2⟩⟩
theorem Osl.form {w : World} {base : Nat} {v : Value} {rs : List Rw2} (h : Osl w base v rs) : ∃ ao cap, v = .slice ao rs.length cap := by
  rcases h.row.2 with ⟨rfl, h2⟩ | ⟨g, cap, cur, rfl, _⟩
  · exact ⟨none, 0, by rw [h2]⟩
  · exact ⟨_, cap, rfl⟩
theorem Osl.rs {w : World} {base : Nat} {v : Value} {rs : List Rw2} (h : Osl w base v rs) (hl : rs.length ≤ 140737488355328) : Rs w v rs := by
  obtain ⟨ao, cap, hv⟩ := h.form
  refine ⟨ao, cap, hv, hl, fun r hr => ⟨(h.each r hr).1.bs, (h.each r hr).2.1, (h.each r hr).2.2.1⟩, fun hne => ?_⟩
  subst hv
  rcases h.row.2 with ⟨_, h2⟩ | ⟨g, cap', cur, he, hb, hg, hn, hc, hs, ht⟩
  · exact absurd (List.eq_nil_of_length_eq_zero h2) hne
  · simp only [Value.slice.injEq] at he
    obtain ⟨rfl, _, rfl⟩ := he
    refine ⟨g, 0, rfl, fun i r hi => ?_⟩
    have hlt := (List.getElem?_eq_some_iff.1 hi).1
    rw [cell_of_row w g (0 + i) _ _ _ hg, Nat.zero_add, ← Array.getElem?_toList]
    have h3 : (cur.toList.take (rs.length * 1))[i]? = some r.1 := by rw [ht]; simp [slOf, hi]
    rw [List.getElem?_take_of_lt (by omega)] at h3
    exact h3
theorem Osl.from {w : World} {base : Nat} {v : Value} {rs : List Rw2} (h : Osl w base v rs) : ∀ k, v.ownBlock = some k → base ≤ k := fun k hk => (World.ownsRow.lt h.row k hk).1
theorem Osl.lt {w : World} {base : Nat} {v : Value} {rs : List Rw2} (h : Osl w base v rs) : ∀ k, v.ownBlock = some k → k < w.heap.size := fun k hk => (World.ownsRow.lt h.row k hk).2
theorem Ow.lt {w : World} {base : Nat} {v : Value} {zs : List Int} (h : Ow w base v zs) : ∀ k, v.ownBlock = some k → k < w.heap.size := fun k hk => (World.ownsRow.lt h k hk).2

theorem wpList_append_row (w : World) {ops : Array Oper} {rest : List Oper} {o : Oper} {a : Act} {Q : Exit → Act → World → Prop} (hgd : o.guard = none) (s x : Operand)
    (ho : o.op = .call { callee := .builtin .append, args := #[s, x], argTypes := #[29, 29] })
    (base : Nat) (v : Value) (rs : List Rw2) (hs : a.eval s = v) (hown : Osl w base v rs) (B : Nat) (ap : Option Addr) (cp : Nat) (zs : List Int) (hx : a.eval x = .slice (some ⟨B, 0, none⟩) 1 1) (hb : w.cell? ⟨B, 0, none⟩ = some (.slice ap zs.length cp))
    (hr : Ow w base (.slice ap zs.length cp) zs) (hy : Byt zs) (hl : zs.length ≤ 140737488355328) (hsep : ∀ k, (Value.slice ap zs.length cp).ownBlock = some k → v.ownBlock ≠ some k)
    (h63 : rs.length ≤ 1000000000) (hbase : base ≤ w.heap.size)
    (h : ∀ ao cap w', Osl w' base (.slice ao (rs.length + 1) cap) (rs ++ [(.slice ap zs.length cp, zs)]) → w.grownBy w' v.ownBlock →
      wpList Tryz.prog ops Q rest (a.put o.dst (.slice ao (rs.length + 1) cap)) w') : wpList Tryz.prog ops Q (o :: rest) a w := by
  obtain ⟨i0, hi, hz0, hz1, hz2⟩ := info_parts Tz.info22
  obtain ⟨v', w', hrun, h2, h3, _, h5⟩ := run_append_own_at (P := Tryz.prog) w base 29 o.type 38 i0 (.slice none 0 0) 1 24 Tryz.underlying29 hi hz0 hz1 hz2 rfl (by decide) v rs.length (slOf rs) hown.row ⟨B, 0, none⟩ 1 1 [.slice ap zs.length cp] rfl
    (by intro j u hu
        cases j with
        | zero => rw [Addr.add_lit]; simp at hu; subst hu; exact hb
        | succ j => simp at hu) (by intro u hu; simp at hu; subst hu; rfl) (by unfold maxLen; omega) (by omega) hbase
  have h2' : w'.ownsRow base 38 1 v' (rs ++ [((.slice ap zs.length cp, zs) : Rw2)]).length (slOf (rs ++ [(.slice ap zs.length cp, zs)])) := by
    rw [List.length_append]
    simpa [slOf] using h2
  have hv' : ∃ ao cap, v' = .slice ao (rs.length + 1) cap := by
    rcases h2'.2 with ⟨_, h6⟩ | ⟨g, cap, cur, h6, _⟩
    · simp at h6
    · exact ⟨some ⟨g, 0, none⟩, cap, by rw [h6]; simp⟩
  obtain ⟨ao, cap, rfl⟩ := hv'
  have keep : ∀ (u : Value) (zs' : List Int), Ow w base u zs' → (∀ k, u.ownBlock = some k → v.ownBlock ≠ some k) → Ow w' base u zs' ∧ ∀ k, u.ownBlock = some k → (Value.slice ao (rs.length + 1) cap).ownBlock ≠ some k := by
    intro u zs' hu hne
    refine ⟨hu.keep fun k hk hlt => h3.block k hlt (fun e => hne k hk e.symm), fun k hk e => ?_⟩
    rcases h5 with h5 | h5
    · exact hne k hk (by rw [← h5]; exact e)
    · rw [h5] at e
      have := hu.lt k hk
      have := Option.some.inj e
      omega
  refine wpList_plain hgd fun _ hK => ?_
  unfold Oper.wp execOp
  simp only [ho, resolve, invoke, builtin, Sem.run_bind, Sem.run_pure, Result.andThen_ok, List.map_toArray, List.map_cons, List.map_nil, hs, hx, hrun]
  refine hK _ _ (h ao cap w' ⟨h2', fun r hm => ?_⟩ h3)
  rcases List.mem_append.1 hm with hm | hm
  · obtain ⟨e1, e2, e3, e4⟩ := hown.each r hm
    exact ⟨(keep _ _ e1 e4).1, e2, e3, (keep _ _ e1 e4).2⟩
  · have : r = (.slice ap zs.length cp, zs) := by simpa using hm
    subst this
    exact ⟨(keep _ _ hr hsep).1, hy, hl, (keep _ _ hr hsep).2⟩
end Go.Proofs.YtnkjhooeklodcaaGreatDoor.Fr
end

section
/-
  frame.Scan and the document's own, by contract.
-/
namespace Go.Proofs.YtnkjhooeklodcaaGreatDoor.Fr
open Go.RowKit

def ScanPost (w : World) (zs : List Int) (e : Ending) (w' : World) : Prop :=
  ∃ ao cap rs, ∃ m : Nat, e = .returned (.tuple #[.slice ao rs.length cap, .int .i64 m]) ∧ Osl w' w.heap.size (.slice ao rs.length cap) rs ∧ Sc zs (bytesOf2 rs) m ∧ decE (zs.drop m) ≠ 0 ∧ Below w.heap.size w w'
theorem Sc.many {xs : List (List Int)} : ∀ {zs : List Int} {m : Nat}, Sc zs xs m → xs.length * 12 ≤ m := by
  induction xs with
  | nil => intro zs m _; simp
  | cons p xs ih =>
    intro zs m ⟨h1, _, h3, h4⟩
    have := ih h4
    have := decN_pos h1
    rw [List.length_cons]
    omega

theorem mk_row1 (W : World) (ap : Option Addr) (l cp : Nat) : (Instr.buildSlice 29 1 #[(0, .slice ap l cp)]).run Tryz.prog W = .ok (.slice (some ⟨W.heap.size, 0, none⟩) 1 1) (W.alloc (.cells #[.slice ap l cp] 38)) := by kernel_rfl

theorem wpList_made_row (w : World) {ops : Array Oper} {rest : List Oper} {o : Oper} {a : Act} {Q : Exit → Act → World → Prop} (hgd : o.guard = none) (x : Operand) (ho : o.op = .buildSlice 29 1 #[(0, x)]) (ap : Option Addr) (l cp : Nat) (hx : a.eval x = .slice ap l cp)
    (h : wpList Tryz.prog ops Q rest (a.put o.dst (.slice (some ⟨w.heap.size, 0, none⟩) 1 1)) (w.alloc (.cells #[.slice ap l cp] 38))) : wpList Tryz.prog ops Q (o :: rest) a w := by
  refine wpList_plain hgd fun _ hK => ?_
  unfold Oper.wp execOp
  simp only [ho, Sem.run_bind, List.map_toArray, List.map_cons, List.map_nil, hx, mk_row1, Result.andThen_ok]
  exact hK _ _ h

def ScanInv (w : World) (zs : List Int) (h d : Value) (wr : World) : Prop :=
  ∃ (rs : List Rw2) (m : Nat), (∃ ao cap, h = .slice ao rs.length cap) ∧ d = .int .i64 m ∧ Osl wr w.heap.size h rs ∧ Sc zs (bytesOf2 rs) m ∧ Below w.heap.size w wr
theorem ScanInv.start (w : World) (zs : List Int) : ScanInv w zs (.slice none 0 0) (.int .i64 0) w := ⟨[], 0, ⟨none, 0, rfl⟩, rfl, Osl.nil _ _, rfl, Below.refl _ _⟩

set_option maxHeartbeats 6400000 in
set_option maxRecDepth 20000 in
theorem rscan_any (sv : Value) (zs : List Int) (w : World) (hb : Bs w sv zs) (hy : Byt zs) (hz : zs.length ≤ 10000000000) :
    Calls Tryz.prog 90 #[sv] w (ScanPost w zs) := by
  have step : ∀ (h d : Value) (wr : World), ScanInv w zs h d wr → ∃ (rs : List Rw2) (m : Nat) (ao : Option Addr) (cap : Nat), h = .slice ao rs.length cap ∧ d = .int .i64 m ∧ Osl wr w.heap.size (.slice ao rs.length cap) rs ∧ Sc zs (bytesOf2 rs) m ∧ Below w.heap.size w wr := by
    rintro h d wr ⟨rs, m, ⟨ao, cap, rfl⟩, rfl, h1, h2, h3⟩
    exact ⟨rs, m, ao, cap, rfl, rfl, h1, h2, h3⟩
  obtain ⟨ax, cx, hsv, hm⟩ := hb.len
  have D : ∀ (W : World) (m b off cap0 : Nat), Below w.heap.size w W → sv = .slice (some ⟨b, off, none⟩) zs.length cap0 → m < zs.length → Calls Tryz.prog 115 #[.slice (some ⟨b, off + m, none⟩) (zs.length - m) (cap0 - m)] W fun e w' => ∃ ao cap, e = .returned (.tuple #[.slice ao (decP (zs.drop m)).length cap, .int .i64 (decN (zs.drop m)), .int .i64 (decE (zs.drop m))]) ∧ Ow w' W.heap.size (.slice ao (decP (zs.drop m)).length cap) (decP (zs.drop m)) ∧ Below W.heap.size W w' := by
    intro W m b off cap0 hW hs hm
    subst hs
    refine rdec_any _ _ W ?_ (hy.drop m) (by simp; omega)
    exact (hb.suffix m (by omega) (fun e => by rw [e] at hm; simp at hm)).below hW (Nat.le_refl _)
  have shp : zs ≠ [] → ∃ b off, ax = some ⟨b, off, none⟩ ∧ zs.length ≤ cx ∧ cx ≤ maxLen := by
    intro hne
    rcases hb with ⟨h0, _⟩ | ⟨_, b, off, cap, he, h1, h2, _⟩
    · exact absurd h0 hne
    · rw [hsv] at he
      simp only [Value.slice.injEq] at he
      obtain ⟨rfl, _, rfl⟩ := he
      exact ⟨b, off, rfl, h1, h2⟩
  subst hsv
  go_enter Tryz.func90, Tryz.ntmps90
  go_wp2
  go_loopw [4, 5] (fun h d wr => ScanInv w zs h d wr) (fun _ d _ => zs.length - (intOf d).toNat)
  case atStart => exact ScanInv.start w zs
  case round =>
    obtain ⟨rs, m, ao, cap, rfl, rfl, hos, hsc, hB⟩ := step _ _ _ hrel
    have hmle := hsc.le
    have hmany := hsc.many
    rw [bytesOf2_len] at hmany
    by_cases hlt : m < zs.length
    · obtain ⟨b, off, rfl, hc1, hc2⟩ := shp (fun e => by rw [e] at hlt; simp at hlt)
      unfold maxLen at hc2
      have hcm : ¬ cx = m := by omega
      have f1 : (m : Int) ≤ (zs.length : Int) := by omega
      have f2 : (m : Int) ≤ (cx : Int) := by omega
      have hnle := decN_le (zs.drop m)
      rw [List.length_drop] at hnle
      have hyp : Byt (decP (zs.drop m)) := decP_byt (hy.drop m)
      have hlp : (decP (zs.drop m)).length ≤ 140737488355328 := by
        by_cases h : decE (zs.drop m) = 0
        · rw [decP_good h]; simp; omega
        · rw [decP_bad h]; simp
      have C1 := D wr m b off cx hB rfl hlt
      by_cases hE : decE (zs.drop m) = 0
      · have HS : Hid (Sc zs (bytesOf2 rs ++ [decP (zs.drop m)]) (m + decN (zs.drop m))) := hsc.snoc hE
        have hpos := decN_pos hE
        rw [hE] at C1
        generalize decP (zs.drop m) = p at *
        generalize decN (zs.drop m) = n at *
        clear D hE hsc hrel step shp
        go_wp2_with fail
        refine C1.mono ?_
        rintro e w1 ⟨ao1, cap1, rfl, ho1, hB1⟩
        have hA : Below wr.heap.size wr (w1.alloc (.cells #[.slice ao1 p.length cap1] 38)) := hB1.alloc hB1.size _
        have hos1 := hos.below hA
        have ho2 : Ow (w1.alloc (.cells #[.slice ao1 p.length cap1] 38)) w.heap.size (.slice ao1 p.length cap1) p := (ho1.mono hB.size).grew ((Below.refl w1.heap.size w1).alloc (Nat.le_refl _) _) (Nat.le_refl _)
        have hsep : ∀ k, (Value.slice ao1 p.length cap1).ownBlock = some k → (Value.slice ao rs.length cap).ownBlock ≠ some k := fun k hk e => by
          have := ho1.from k hk
          have := hos.lt k e
          omega
        have hcl : (w1.alloc (.cells #[.slice ao1 p.length cap1] 38)).cell? ⟨w1.heap.size, 0, none⟩ = some (.slice ao1 p.length cap1) := by
          rw [cell_of_row _ _ 0 _ _ _ (heap_alloc_new w1 _)]; rfl
        have hws : w.heap.size ≤ (w1.alloc (.cells #[.slice ao1 p.length cap1] 38)).heap.size := by have := hB.size; have := hA.size; omega
        have HSN : Hid (Sc zs (bytesOf2 (rs ++ [(.slice ao1 p.length cap1, p)])) (m + n)) := by
          show Sc _ _ _
          rw [bytesOf2_append]
          exact HS.out
        go_wp2_with (first | (refine wpList_made_row _ rfl (.tmp 24) rfl ao1 p.length cap1 rfl ?_) | (at_builtin; refine wpList_append_row _ rfl (.tmp 23) (.tmp 25) rfl w.heap.size (.slice ao rs.length cap) rs (by rfl) hos1 w1.heap.size ao1 cap1 p (by rfl) hcl ho2 hyp hlp hsep (by omega) hws ?_))
        intro ao3 cap3 w3 hos3 hg3
        have hB3 : Below w.heap.size w w3 := (hB.trans (hA.mono hB.size)).trans (grown_below hg3 hws hos1.from)
        clear hA hos1 ho2 hsep hcl hws hg3 hos ho1
        go_wp2
        go_roundw
        case rel =>
          exact (show ScanInv w zs _ _ _ from ⟨rs ++ [(.slice ao1 p.length cap1, p)], m + n, ⟨ao3, cap3, by simp⟩, by go_num, by simpa using hos3, HSN.out, hB3⟩)
        case measure => simp [intOf]; omega
      · have HP : Hid (∀ W, Below wr.heap.size wr W → ScanPost w zs (.returned (.tuple #[.slice ao rs.length cap, .int .i64 m])) W) :=
          fun W hW => ⟨ao, cap, rs, m, rfl, hos.below hW, hsc, hE, hB.trans (hW.mono hB.size)⟩
        generalize decE (zs.drop m) = er at *
        clear D hsc hrel step hos shp
        go_wp2_with fail
        refine C1.mono ?_
        rintro e w1 ⟨ao1, cap1, rfl, ho1, hB1⟩
        go_wp2
        go_ret2
        exact HP.out _ hB1
    · have HP : Hid (ScanPost w zs (.returned (.tuple #[.slice ao rs.length cap, .int .i64 m])) wr) :=
        ⟨ao, cap, rs, m, rfl, hos, hsc, by rw [List.drop_eq_nil_of_le (by omega), decE_nil]; decide, hB⟩
      clear D hsc hrel step hos shp
      go_wp2
      go_ret2
      exact HP.out
end Go.Proofs.YtnkjhooeklodcaaGreatDoor.Fr
end
