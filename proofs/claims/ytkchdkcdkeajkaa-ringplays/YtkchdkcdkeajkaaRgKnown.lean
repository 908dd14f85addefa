/-
  The law's known: a ring of two.
-/
import Derived.Test.YtkchdkcdkeajkaaRgPut
import Derived.Test.YtkchdkcdkeajkaaRgFr
namespace Go.Proofs.Ytkchdkcdkeajkaa
open Go.RowKit
theorem built_f (x : Int) : Try.prog.built 35 [(0, .int .i64 x)] = some (stV ⟨x, zeros, 0, false, 0⟩).toArray := by kernel_rfl
theorem built_fs (x y : Int) : Try.prog.built 35 [(0, .int .i64 x), (2, .int .u32 y)] = some (stV ⟨x, zeros, y, false, 0⟩).toArray := by kernel_rfl
/-- What a law's own ring of states is: its blocks are new. -/
structure Lw (w W : World) (n a : Nat) (L : List Sp) : Prop where
  r : Rg W (w.heap.size + 1) w.heap.size n a L
  b : Below w.heap.size w W
theorem Lw.next {w W W' : World} {n a : Nat} {L : List Sp} (h : Lw w W n a L) (hb : Below W.heap.size W W') : Lw w W' n a L := ⟨h.r.below hb (Nat.le_refl _), h.b.trans (hb.mono h.b.size)⟩
theorem Lw.sm {w W W' : World} {n a : Nat} {L : List Sp} (h : Lw w W n a L) (hb : Sm W W') : Lw w W' n a L := h.next (hb.below _)
theorem Lw.put {w W W' : World} {n a : Nat} {L : List Sp} {s : Sp} (h : Lw w W n a L) (hp : PutP W W' (w.heap.size + 1) w.heap.size n a L s) : Lw w W' n (putA n a L s) (putL n a L s) :=
  ⟨hp.1, h.b.trans (hp.2.below h.b.size (fun k hk => by omega))⟩
def k0 : Nat → Int := fun _ => 0
def s9 : Sp := stF 1 9
theorem known_plain : putE (frA 2 3) (frL k0 2 3) s9 = 0 ∧ putL 2 (frA 2 3) (frL k0 2 3) s9 = [s9] ∧ putA 2 (frA 2 3) (frL k0 2 3) s9 = 1 := ⟨rfl, rfl, rfl⟩
theorem known_ends : lstF 1 [s9] = 1 ∧ gstF 1 [s9] = 1 ∧ gtS 1 [s9] 1 = s9 ∧ gtB 1 [s9] 1 = true := ⟨rfl, rfl, rfl, rfl⟩
set_option maxRecDepth 20000 in
set_option maxHeartbeats 4000000 in
theorem known_any (w : World) : Calls Try.prog 8 #[] w fun e w' => e = .returned (.bool true) ∧ Below w.heap.size w w' := by
  have HP : Hid (∀ W k, k < 3 → Lw w W 2 (frA 2 k) (frL k0 2 k) → Calls Try.prog 9 #[.pointer (some ⟨w.heap.size + 1, 0, none⟩), .agg (stV ⟨(k : Int), zeros, 0, false, 0⟩).toArray] W fun e w' => e = .returned (.int .i64 0) ∧ Lw w w' 2 (frA 2 (k + 1)) (frL k0 2 (k + 1))) := fun W k hk hW => by
    obtain ⟨e1, e2, e3⟩ := fr_step k0 (n := 2) (i := k) (by decide) (by omega)
    refine (put_any hW.r (stF k (k0 k)) (stF_gs (by omega) (by simp [k0]) (by simp [k0]))).mono ?_
    rintro e w' ⟨rfl, hp⟩
    have := hW.put hp
    rw [e2, e3] at this
    exact ⟨by rw [e1], this⟩
  have HQ : Hid (∀ W, Lw w W 2 (frA 2 3) (frL k0 2 3) → Calls Try.prog 9 #[.pointer (some ⟨w.heap.size + 1, 0, none⟩), .agg (stV ⟨1, zeros, 9, false, 0⟩).toArray] W fun e w' => e = .returned (.int .i64 0) ∧ Lw w w' 2 1 [s9]) := fun W hW => by
    obtain ⟨e1, e2, e3⟩ := known_plain
    refine (put_any hW.r s9 (stF_gs (by omega) (by decide) (by decide))).mono ?_
    rintro e w' ⟨rfl, hp⟩
    have := hW.put hp
    rw [e2, e3] at this
    exact ⟨by rw [e1], this⟩
  have HF : Hid (∀ W, Lw w W 2 1 [s9] → Calls Try.prog 11 #[.pointer (some ⟨w.heap.size + 1, 0, none⟩)] W fun e w' => e = .returned (.tuple #[.int .i64 1, .int .i64 1]) ∧ Sm W w') := fun W hW => frames_any hW.r
  have HW : Hid (∀ W, Lw w W 2 1 [s9] → Calls Try.prog 13 #[.pointer (some ⟨w.heap.size + 1, 0, none⟩)] W fun e w' => e = .returned (.tuple #[.agg (stV s9).toArray, .bool true]) ∧ Below W.heap.size W w') := fun W hW => newest_any hW.r
  have h9 : s9.Wf := (stF_gs (i := 1) (x := 9) (by omega) (by decide) (by decide)).1
  have CN := hid_into (new_any w 2 (by decide) (by decide))
  have HB := hid_into built_f
  have HB9 : Hid (Try.prog.built 35 [(0, .int .i64 1), (2, .int .u32 9)] = some (stV ⟨1, zeros, 9, false, 0⟩).toArray) := built_fs 1 9
  have HZ : Hid ((Try.prog.info? 35).bind (·.zero) = some (.agg zeroS.toArray)) := Try.zero35
  have ZS := zeroS_size
  have HL9 := st_len h9
  have HO9 := st_one h9
  have HX9 : Hid ((stV s9)[17]? = some (.int .u32 9)) := (stV_c h9).seed
  clear h9
  generalize stV s9 = c9 at *
  generalize (stV ⟨1, zeros, 9, false, 0⟩) = d9 at *
  go_enter Try.func8, Try.ntmps8
  go_wp2_with (go_at_call 6; refine CN.out.mono ?_; rintro e w1 ⟨rfl, hr1, hb1, hs1⟩; have HS : Hid (Lw w w1 2 (frA 2 0) (frL k0 2 0)) := ⟨hr1, hb1⟩; clear hr1 hb1 hs1)
  go_loopw [3] (fun x wr => ∃ k : Nat, k ≤ 3 ∧ x = .int .i64 (k : Int) ∧ Hid (Lw w wr 2 (frA 2 k) (frL k0 2 k))) (fun x _ => 3 - (intOf x).toNat)
  case atStart => exact ⟨0, by decide, rfl, HS⟩
  case round =>
    obtain ⟨k, hk, rfl, hL⟩ := hrel
    clear HS
    by_cases hk3 : k < 3
    · have hk3' : (k : Int) < 3 := by omega
      obtain ⟨cs, hcs⟩ : ∃ cs, cs = stV ⟨(k : Int), zeros, 0, false, 0⟩ := ⟨_, rfl⟩
      have HBk := hid_into (HB.out (k : Int))
      have HPk := hid_into (HP.out wr k hk3 hL.out)
      rw [← hcs] at HBk HPk
      clear hcs HB HP HQ HF HW CN hL
      go_wp2_with (first
        | (refine wpList_build_row rfl 35 #[(0, .tmp 23)] rfl cs _ rfl ?_ ?_; exact HBk.out)
        | (go_at_call 9; refine HPk.out.mono ?_; rintro e w2 ⟨rfl, h2⟩))
      go_roundw
      case rel => exact ⟨k + 1, by omega, by simp, h2⟩
      case measure => simp [intOf]; omega
    · have hk3' : ¬ (k : Int) < 3 := by omega
      obtain rfl : k = 3 := by omega
      clear HB HP CN hk3 hk
      go_wp2_with (first
        | (refine wpList_build_row rfl 35 #[(0, .const (.int .i64 1)), (2, .const (.int .u32 9))] rfl d9 _ rfl ?_ ?_; exact HB9.out)
        | (go_at_call 9; refine (HQ.out _ hL.out).mono ?_; rintro e w2 ⟨rfl, h2⟩; have H2 := hid_into h2; clear h2)
        | (go_at_call 11; refine (HF.out _ H2.out).mono ?_; rintro e w3 ⟨rfl, h3⟩; have H3 := hid_into (H2.out.sm h3); clear h3)
        | (go_at_call 13; refine (HW.out _ H3.out).mono ?_; rintro e w4 ⟨rfl, h4⟩; have H4 := hid_into (H3.out.next h4); clear h4)
        | (refine wpList_alloc_row rfl 35 rfl zeroS HZ.out ?_; intro W5 hc5 B5 HS5; have HB5 := hid_into (H4.out.b.trans (B5.mono H4.out.b.size)); have HW4 := hid_into H4.out.b.size; clear B5)
        | (refine wpList_store_rw rfl 35 (.tmp 6) (.tmp 39) rfl w4.heap.size zeroS c9 35 rfl rfl ?_ ZS HL9 HO9.out ?_; exact hc5; intro W6 hc6 O6; have HB6 := hid_into (HB5.out.trans (O6.below HW4.out)); have q6 := (hc6.cell 17).trans HX9.out))
      go_ret
      exact ⟨rfl, HB6.out⟩
end Go.Proofs.Ytkchdkcdkeajkaa
