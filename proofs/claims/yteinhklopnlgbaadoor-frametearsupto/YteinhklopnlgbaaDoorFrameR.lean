/-
  The document's own records (gauntletref4), by contract: four, Encode, Decode.
-/
import Derived.Test.YteinhklopnlgbaaDoorFrameE
import Derived.Test.YteinhklopnlgbaaDoorRefReaderB
import Derived.Test.YteinhklopnlgbaaDoorBytesF
namespace Go.Proofs.YteinhklopnlgbaaDoor
open Go.RowKit

set_option maxHeartbeats 800000 in
theorem rfour4_any (sv : Value) (zs : List Int) (w : World) (hb : Bs w sv zs) (hy : Byt zs) (hl : 4 ≤ zs.length) :
    Calls Tryd.prog 31 #[sv] w fun e w' => e = .returned (.int .u32 (fourV (zs.take 4))) ∧ Below w.heap.size w w' := by
  have HR : Hid ((rowR [0, 0, 0, 0] zs 0).1 = zs.take 4) := rowR_four hl
  have B0 : Below w.heap.size w (w.alloc (.cells #[sv, .int .i64 0] 61)) := (Below.refl _ _).alloc (Nat.le_refl _) _
  have hr : Rf (w.alloc (.cells #[sv, .int .i64 0] 61)) w.heap.size sv zs 0 :=
    ⟨heap_alloc_new w _, hb.below B0 (Nat.le_refl _), fun e => by
      have := hb.lt (fun e0 => by rw [e0] at hl; simp at hl) _ e
      omega⟩
  obtain ⟨ao, cap, hsv, hm⟩ := hb.len
  subst hsv
  go_enter Tryd.func31, Tryd.ntmps31
  go_wp2_with fail
  refine (ffour_u w.heap.size _ zs 0 _ hr (Or.inl rfl) hy).mono ?_
  rintro e w2 ⟨rfl, hleft⟩
  have hB : Below w.heap.size w w2 := by
    obtain ⟨v', _, hst, _⟩ := hleft
    exact B0.trans (hst.below (Nat.le_refl _) (by have := hr.lt; omega))
  clear hleft
  rw [HR.out]
  go_wp2
  go_ret
  exact ⟨rfl, hB⟩

theorem Ow.grew {w w' : World} {base : Nat} {v : Value} {zs : List Int} {B : Nat} (h : Ow w base v zs) (hk : Below B w w') (hb : w.heap.size ≤ B) : Ow w' base v zs :=
  h.keep fun k _ hlt => hk.block k (by omega)
/-- An append into a row that is new from B on leaves all below B. -/
theorem grown_below {w w' : World} {row : Option Nat} {B : Nat} (h : w.grownBy w' row) (hB : B ≤ w.heap.size) (hr : ∀ k, row = some k → B ≤ k) : Below B w w' :=
  ⟨h.os, h.tape, h.output, h.size, fun k hk => h.block k (by omega) (fun e => by have := hr k e.symm; omega)⟩
theorem Ow.from {w : World} {base : Nat} {v : Value} {zs : List Int} (h : Ow w base v zs) : ∀ k, v.ownBlock = some k → base ≤ k := fun k hk => (World.ownsRow.lt h k hk).1

set_option maxHeartbeats 3200000 in
set_option maxRecDepth 20000 in
theorem renc_any (sv : Value) (zs : List Int) (w : World) (hb : Bs w sv zs) (hy : Byt zs) (hz : zs.length ≤ 65536) :
    Calls Tryd.prog 10 #[sv] w fun e w' => ∃ ao cap, e = .returned (.tuple #[.slice ao (recN zs).length cap, .int .i64 0]) ∧ Ow w' w.heap.size (.slice ao (recN zs).length cap) (recN zs) ∧ Below w.heap.size w w' := by
  obtain ⟨ao, cap, hsv, hm⟩ := hb.len
  subst hsv
  have hu : (zs.length : Int) % 4294967296 = zs.length := by omega
  go_enter Tryd.func10, Tryd.ntmps10
  go_wp2_with fail
  refine (refFour_any _ _).mono ?_
  rintro e w1 ⟨ao1, cap1, rfl, ho1, B1⟩
  have hyA := fourB_byt (zs.length : Int)
  have lA : Hid ((fourB (zs.length : Int)).length = 4) := rfl
  have HY : Hid (recN zs = fourB (zs.length : Int) ++ fourB (sumOf (fourB (zs.length : Int)) : Nat) ++ zs ++ fourB (sumOf (fourB (zs.length : Int) ++ fourB (sumOf (fourB (zs.length : Int)) : Nat) ++ zs) : Nat)) := rfl
  generalize fourB (zs.length : Int) = A at *
  go_wp2_with fail
  refine (refSum_any _ _ _ ho1.bs hyA).mono ?_
  rintro e w1 ⟨rfl, rfl⟩
  go_wp2_with fail
  refine (refFour_any _ _).mono ?_
  rintro e w2 ⟨ao2, cap2, rfl, ho2, B2⟩
  have hyB := fourB_byt ((sumOf A : Nat) : Int)
  have lB : Hid ((fourB ((sumOf A : Nat) : Int)).length = 4) := rfl
  generalize fourB ((sumOf A : Nat) : Int) = B at *
  have ho1' := ho1.grew B2 (Nat.le_refl _)
  have B12 : Below w.heap.size w w2 := B1.trans (B2.mono B1.size)
  go_wp2_with (at_builtin; refine wpList_append_bs _ rfl (.tmp 12) (.tmp 15) rfl w.heap.size _ A rfl ho1' _ B rfl ho2.bs (by rw [lA.out, lB.out]; decide) B12.size ?_)
  intro ao3 cap3 w3 ho3 hg3 hat3
  have B3 : Below w.heap.size w w3 := B12.trans (grown_below hg3 B12.size ho1'.from)
  have hb3 := hb.below B3 (Nat.le_refl _)
  have l3 : Hid ((A ++ B).length = 8) := by show _ = _; rw [List.length_append, lA.out, lB.out]
  rw [← List.length_append] at ho3
  rw [← List.length_append]
  have hy3 : Byt (A ++ B) := hyA.app hyB
  generalize A ++ B = C at *
  clear ho1 ho1' ho2 hg3 hat3 B1 B2 B12
  go_wp2_with (at_builtin; refine wpList_append_bs _ rfl (.tmp 17) (.tmp 18) rfl w.heap.size _ C rfl ho3 _ zs rfl hb3 (by rw [l3.out]; omega) B3.size ?_)
  intro ao4 cap4 w4 ho4 hg4 hat4
  have B4 : Below w.heap.size w w4 := B3.trans (grown_below hg4 B3.size ho3.from)
  have l4 : Hid ((C ++ zs).length ≤ 70000) := by show _ ≤ _; rw [List.length_append, l3.out]; omega
  rw [← List.length_append] at ho4
  rw [← List.length_append]
  have hy4 : Byt (C ++ zs) := hy3.app hy
  generalize C ++ zs = D at *
  clear ho3 hg4 hat4 B3 hb3
  go_wp2_with fail
  refine (refSum_any _ _ _ ho4.bs hy4).mono ?_
  rintro e w4 ⟨rfl, rfl⟩
  go_wp2_with fail
  refine (refFour_any _ _).mono ?_
  rintro e w5 ⟨ao5, cap5, rfl, ho5, B5⟩
  have lE : Hid ((fourB ((sumOf D : Nat) : Int)).length = 4) := rfl
  generalize fourB ((sumOf D : Nat) : Int) = E at *
  have ho4' := ho4.grew B5 (Nat.le_refl _)
  have B45 : Below w.heap.size w w5 := B4.trans (B5.mono B4.size)
  go_wp2_with (at_builtin; refine wpList_append_bs _ rfl (.tmp 20) (.tmp 23) rfl w.heap.size _ D rfl ho4' _ E rfl ho5.bs (by have := l4.out; rw [lE.out]; omega) B45.size ?_)
  intro ao6 cap6 w6 ho6 hg6 hat6
  have B6 : Below w.heap.size w w6 := B45.trans (grown_below hg6 B45.size ho4'.from)
  rw [← List.length_append] at ho6
  rw [← List.length_append]
  rw [← HY.out] at ho6 ⊢
  clear ho4 ho4' ho5 hg6 hat6 B4 B5 B45 HY
  go_wp2
  go_ret2
  exact ⟨ao6, cap6, rfl, ho6, B6⟩

/-- What Decode answers. -/
def DecPost (w : World) (zs : List Int) (e : Ending) (w' : World) : Prop := ∃ ao cap, e = .returned (.tuple #[.slice ao (decP zs).length cap, .int .i64 (decN zs), .int .i64 (decE zs)]) ∧ Ow w' w.heap.size (.slice ao (decP zs).length cap) (decP zs) ∧ Below w.heap.size w w'
theorem DecPost.bad {w w' : World} {zs : List Int} {er : Int} (h : decE zs = er) (h0 : er ≠ 0) (hB : Below w.heap.size w w') : DecPost w zs (.returned (.tuple #[.slice none 0 0, .int .i64 0, .int .i64 er])) w' := by
  subst h
  refine ⟨none, 0, ?_, ?_, hB⟩
  · rw [decP_bad h0, decN_bad h0]; rfl
  · rw [decP_bad h0]; exact World.ownsRow_nil _ _ _ _

set_option maxHeartbeats 6400000 in
set_option maxRecDepth 20000 in
theorem rdec_any (sv : Value) (zs : List Int) (w : World) (hb : Bs w sv zs) (hy : Byt zs) (hz : zs.length ≤ 100000000000000) :
    Calls Tryd.prog 15 #[sv] w (DecPost w zs) := by
  by_cases h8 : zs.length < 8
  · have HE : Hid (decE zs = 2) := by show _ = _; rw [decE_head (by rw [headE_short h8]; decide), headE_short h8]
    obtain ⟨ao, cap, hsv, hm⟩ := hb.len
    subst hsv
    go_enter Tryd.func15, Tryd.ntmps15
    go_wp2
    go_ret3
    exact DecPost.bad HE.out (by decide) (Below.refl _ _)
  rcases hb with ⟨h0, _⟩ | ⟨hne, b, off, cap, rfl, hc1, hc2, hcell⟩
  · rw [h0] at h8; exact absurd (by decide) h8
  have hb : Bs w (.slice (some ⟨b, off, none⟩) zs.length cap) zs := Or.inr ⟨hne, b, off, cap, rfl, hc1, hc2, hcell⟩
  clear hcell
  have hf : Bs w (.slice (some ⟨b, off, none⟩) 4 cap) (zs.take 4) := hb.front 4 (by omega)
  have hg : Bs w (.slice (some ⟨b, off + 4, none⟩) (zs.length - 4) (cap - 4)) (zs.drop 4) := hb.suffix 4 (by omega) hne
  have D1 : ∀ W : World, Below w.heap.size w W → Calls Tryd.prog 31 #[.slice (some ⟨b, off + 4, none⟩) (zs.length - 4) (cap - 4)] W fun e w' => e = .returned (.int .u32 (fourV ((zs.drop 4).take 4))) ∧ Below w.heap.size w w' :=
    fun W hW => (rfour4_any _ _ W (hg.below hW (Nat.le_refl _)) (hy.drop 4) (by simp; omega)).mono fun e w' ⟨h1, h2⟩ => ⟨h1, hW.trans (h2.mono hW.size)⟩
  have D2 : ∀ W : World, Below w.heap.size w W → Calls Tryd.prog 27 #[.slice (some ⟨b, off, none⟩) 4 cap] W fun e w' => e = .returned (.int .u32 (sumOf (zs.take 4) : Nat)) ∧ W = w' :=
    fun W hW => refSum_any _ _ W (hf.below hW (Nat.le_refl _)) (hy.take 4)
  have D3 : ∀ W : World, Below w.heap.size w W → Calls Tryd.prog 31 #[.slice (some ⟨b, off, none⟩) zs.length cap] W fun e w' => e = .returned (.int .u32 (fourV (zs.take 4))) ∧ Below w.heap.size w w' :=
    fun W hW => (rfour4_any _ _ W (hb.below hW (Nat.le_refl _)) hy (by omega)).mono fun e w' ⟨h1, h2⟩ => ⟨h1, hW.trans (h2.mono hW.size)⟩
  have B0 : Below w.heap.size w w := Below.refl _ _
  unfold maxLen at hc2
  have c4 : ¬ cap = 4 := by omega
  have l4 : (4 : Int) ≤ (zs.length : Int) := by omega
  have k4 : (4 : Int) ≤ (cap : Int) := by omega
  by_cases hv : ((sumOf (zs.take 4) : Nat) : Int) = fourV ((zs.drop 4).take 4)
  · have e1 : ∀ n : Nat, fourV (zs.take 4) = (n : Int) → ¬ 65536 < n → headE zs = 0 ∧ heldN zs = n := fun n h1 h2 => ⟨headE_good h8 hv (by omega), by unfold heldN; rw [h1]; exact Int.toNat_natCast n⟩
    have e2 : 65536 < fourV (zs.take 4) → decE zs = 5 := fun h => by rw [decE_head (by rw [headE_long h8 hv h]; decide), headE_long h8 hv h]
    have hr := fourV_range (zs.take 4) (hy.take 4)
    obtain ⟨n, hx1, hx2⟩ : ∃ n : Nat, fourV (zs.take 4) = (n : Int) ∧ n < 4294967296 := ⟨(fourV (zs.take 4)).toNat, by omega, by omega⟩
    rw [hx1] at D3
    rw [← hv] at D1
    by_cases hlong : 65536 < n
    · have HE : Hid (decE zs = 5) := e2 (by omega)
      generalize sumOf (zs.take 4) = s at *
      clear hv e1 e2 hr hx1 hf hg
      go_enter Tryd.func15, Tryd.ntmps15
      go_wp2_with fail
      go_region_held3 (fun w' => True) (trivial)
        (first
          | (go_at_call 31; refine (D1 _ (by exact B0.drew)).mono ?_; rintro e w2 ⟨rfl, hB2⟩)
          | (go_at_call 27; refine (D2 _ (by first | exact hB2 | exact B0.drew)).mono ?_; rintro e w3 ⟨rfl, rfl⟩))
      all_goals
        go_wp2_with fail
        refine (D3 _ hB2).mono ?_
        rintro e w4 ⟨rfl, hB4⟩
        go_wp2
        go_ret3
        exact DecPost.bad HE.out (by decide) hB4
    obtain ⟨hh, hn⟩ := e1 n hx1 hlong
    by_cases h12 : zs.length < 12 + n
    · have HE : Hid (decE zs = 2) := decE_short hh (by rw [hn]; exact h12)
      generalize sumOf (zs.take 4) = s at *
      clear hv e1 e2 hr hx1 hf hg hh hn
      go_enter Tryd.func15, Tryd.ntmps15
      go_wp2_with fail
      go_region_held3 (fun w' => True) (trivial)
        (first
          | (go_at_call 31; refine (D1 _ (by exact B0.drew)).mono ?_; rintro e w2 ⟨rfl, hB2⟩)
          | (go_at_call 27; refine (D2 _ (by first | exact hB2 | exact B0.drew)).mono ?_; rintro e w3 ⟨rfl, rfl⟩))
      all_goals
        go_wp2_with fail
        refine (D3 _ hB2).mono ?_
        rintro e w4 ⟨rfl, hB4⟩
        go_wp2
        go_ret3
        exact DecPost.bad HE.out (by decide) hB4
    obtain ⟨m, qm⟩ : ∃ m : Nat, m = 8 + n := ⟨_, rfl⟩
    have hf2 : Bs w (.slice (some ⟨b, off, none⟩) m cap) (zs.take m) := hb.front m (by omega)
    have hg2 : Bs w (.slice (some ⟨b, off + m, none⟩) (zs.length - m) (cap - m)) (zs.drop m) := hb.suffix m (by omega) hne
    have hk2 : Bs w (.slice (some ⟨b, off + 8, none⟩) (m - 8) (cap - 8)) ((zs.drop 8).take n) := by
      have := (hb.suffix 8 (by omega) hne).front n (by simp; omega)
      rw [show m - 8 = n by omega]; exact this
    have E1 : ∀ W : World, Below w.heap.size w W → Calls Tryd.prog 31 #[.slice (some ⟨b, off + m, none⟩) (zs.length - m) (cap - m)] W fun e w' => e = .returned (.int .u32 (fourV ((zs.drop m).take 4))) ∧ Below w.heap.size w w' :=
      fun W hW => (rfour4_any _ _ W (hg2.below hW (Nat.le_refl _)) (hy.drop m) (by simp; omega)).mono fun e w' ⟨h1, h2⟩ => ⟨h1, hW.trans (h2.mono hW.size)⟩
    have E2 : ∀ W : World, Below w.heap.size w W → Calls Tryd.prog 27 #[.slice (some ⟨b, off, none⟩) m cap] W fun e w' => e = .returned (.int .u32 (sumOf (zs.take m) : Nat)) ∧ W = w' :=
      fun W hW => refSum_any _ _ W (hf2.below hW (Nat.le_refl _)) (hy.take m)
    have lk : ((zs.drop 8).take n).length = n := by simp; omega
    have f1 : (0 : Int) ≤ (m : Int) := by omega
    have f2 : (m : Int) ≤ (cap : Int) := by omega
    have f3 : (m : Int) ≤ (zs.length : Int) := by omega
    have f6 : ¬ cap = m := by omega
    have f7 : ¬ cap = 8 := by omega
    have f8 : (8 : Int) ≤ (m : Int) := by omega
    have f9 : (8 : Int) ≤ (cap : Int) := by omega
    have q8 : IntKind.i64.wrap (8 + (n : Int)) = (m : Int) := by rw [IntKind.wrap_i64]; omega
    have hn2 : (n : Int) ≤ 65536 := by omega
    have hl2 : (12 : Int) + (n : Int) ≤ (zs.length : Int) := by omega
    by_cases hv2 : ((sumOf (zs.take m) : Nat) : Int) = fourV ((zs.drop m).take 4)
    · have g : decE zs = 0 := decE_good hh (by rw [hn]; exact h12) (by rw [hn, ← qm]; exact hv2)
      have HP : Hid (decP zs = (zs.drop 8).take n) := by show _ = _; rw [decP_good g, hn]
      have HN : Hid ((decN zs : Int) = 12 + (n : Int)) := by show _ = _; rw [decN_good g, hn]; omega
      have HE : Hid (decE zs = 0) := g
      have HPost : Hid (∀ w' ao cap, Ow w' w.heap.size (.slice ao n cap) ((zs.drop 8).take n) → Below w.heap.size w w' → DecPost w zs (.returned (.tuple #[.slice ao n cap, .int .i64 (12 + (n : Int)), .int .i64 0])) w') := by
        intro w' ao cap h1 h2
        refine ⟨ao, cap, ?_, ?_, h2⟩
        · rw [HP.out, HE.out, HN.out, lk]
        · rw [HP.out, lk]; exact h1
      rw [← hv2] at E1
      clear HP HN HE
      generalize (zs.drop 8).take n = ps at *
      generalize sumOf (zs.take 4) = s at *
      generalize sumOf (zs.take m) = s2 at *
      clear hv hv2 e1 e2 hr hx1 hf hg hh hn hf2 hg2 g
      have HL : Hid (ps.length = n) := lk
      have HQ : Hid (m = 8 + n) := qm
      clear lk qm
      go_enter Tryd.func15, Tryd.ntmps15
      go_wp2_with fail
      go_region_held3 (fun w' => True) (trivial)
        (first
          | (go_at_call 31; refine (D1 _ (by exact B0.drew)).mono ?_; rintro e w2 ⟨rfl, hB2⟩)
          | (go_at_call 27; refine (D2 _ (by first | exact hB2 | exact B0.drew)).mono ?_; rintro e w3 ⟨rfl, rfl⟩))
      all_goals
        go_wp2_with fail
        refine (D3 _ hB2).mono ?_
        rintro e w4 ⟨rfl, hB4⟩
        go_wp2_with fail
        go_region_held3 (fun w' => True) (trivial)
          (first
            | (go_at_call 31; refine (E1 _ (by exact hB4.drew)).mono ?_; rintro e w5 ⟨rfl, hB5⟩)
            | (go_at_call 27; refine (E2 _ (by first | exact hB5 | exact hB4.drew)).mono ?_; rintro e w6 ⟨rfl, rfl⟩))
        all_goals
          have hk5 := hk2.below (hB5.alloc hB5.size (.cells #[] 5)) (Nat.le_refl _)
          have ho5 : Ow (w5.alloc (.cells #[] 5)) w5.heap.size (.slice (some ⟨w5.heap.size, 0, none⟩) 0 0) [] := Ow_of_block (heap_alloc_new w5 _) (by simp) (Nat.le_refl _)
          go_wp2_with (at_builtin; refine wpList_append_bs _ rfl (.tmp 37) (.tmp 41) rfl w5.heap.size _ [] rfl ho5 _ ps rfl hk5 (by rw [HL.out]; simp; omega) (by simp) ?_)
          intro ao6 cap6 w6 ho6 hg6 hat6
          have B6 : Below w.heap.size w w6 := (hB5.alloc hB5.size _).trans (grown_below hg6 (by have := hB5.size; simp; omega) (fun k hk => by have := ho5.from k hk; have := hB5.size; omega))
          have ho6' : Ow w6 w.heap.size (.slice ao6 n cap6) ps := by
            have h1 := ho6.mono hB5.size
            rw [HL.out] at h1
            exact h1
          rw [HL.out]
          clear ho6 hg6 hat6 ho5 hk5
          go_wp2
          go_ret3
          exact HPost.out _ _ _ ho6' B6
    · have HE : Hid (decE zs = 4) := decE_sum hh (by rw [hn]; exact h12) (by rw [hn, ← qm]; exact hv2)
      generalize sumOf (zs.take 4) = s at *
      generalize sumOf (zs.take m) = s2 at *
      generalize fourV ((zs.drop m).take 4) = x2 at *
      have hv2' : ¬ x2 = (s2 : Int) := fun e => hv2 e.symm
      clear hv hv2 e1 e2 hr hx1 hf hg hh hn hf2 hg2 hk2 lk qm
      go_enter Tryd.func15, Tryd.ntmps15
      go_wp2_with fail
      go_region_held3 (fun w' => True) (trivial)
        (first
          | (go_at_call 31; refine (D1 _ (by exact B0.drew)).mono ?_; rintro e w2 ⟨rfl, hB2⟩)
          | (go_at_call 27; refine (D2 _ (by first | exact hB2 | exact B0.drew)).mono ?_; rintro e w3 ⟨rfl, rfl⟩))
      all_goals
        go_wp2_with fail
        refine (D3 _ hB2).mono ?_
        rintro e w4 ⟨rfl, hB4⟩
        go_wp2_with fail
        go_region_held3 (fun w' => True) (trivial)
          (first
            | (go_at_call 31; refine (E1 _ (by exact hB4.drew)).mono ?_; rintro e w5 ⟨rfl, hB5⟩)
            | (go_at_call 27; refine (E2 _ (by first | exact hB5 | exact hB4.drew)).mono ?_; rintro e w6 ⟨rfl, rfl⟩))
        all_goals
          go_wp2
          go_ret3
          exact DecPost.bad HE.out (by decide) hB5
  · have HE : Hid (decE zs = 4) := by show _ = _; rw [decE_head (by rw [headE_sum h8 hv]; decide), headE_sum h8 hv]
    generalize fourV ((zs.drop 4).take 4) = x at *
    generalize sumOf (zs.take 4) = s at *
    have hv' : ¬ x = (s : Int) := fun e => hv e.symm
    clear hv D3 hf hg
    go_enter Tryd.func15, Tryd.ntmps15
    go_wp2_with fail
    go_region_held3 (fun w' => True) (trivial)
      (first
        | (go_at_call 31; refine (D1 _ (by exact B0.drew)).mono ?_; rintro e w2 ⟨rfl, hB2⟩)
        | (go_at_call 27; refine (D2 _ (by first | exact hB2 | exact B0.drew)).mono ?_; rintro e w3 ⟨rfl, rfl⟩))
    all_goals
      go_wp2
      go_ret3
      exact DecPost.bad HE.out (by decide) hB2
end Go.Proofs.YteinhklopnlgbaaDoor
