/-
  The document's bytes of a field (the law's bytes), by contract.
-/
import Derived.Test.YtamifgaaalclcabDoorFieldRows
namespace Go.Proofs.YtamifgaaalclcabDoor
open Go.RowKit

theorem refTwo_any (x : Int) (w : World) : Calls Tryd.prog 17 #[.int .u16 x] w fun e w' => ∃ ao cap, e = .returned (.slice ao (twoB x).length cap) ∧ Ow w' w.heap.size (.slice ao (twoB x).length cap) (twoB x) ∧ Below w.heap.size w w' := by
  have ho : Ow (w.alloc (.cells #[.int .u8 (x % 256), .int .u8 (x / 256 % 256)] 5)) w.heap.size (.slice (some ⟨w.heap.size, 0, none⟩) 2 2) (twoB x) := Ow_of_block (zs := twoB x) (heap_alloc_new w _) (by simp [twoB, maxLen]) (Nat.le_refl _)
  go_enter Tryd.func17, Tryd.ntmps17
  go_wp2
  go_ret
  exact ⟨_, _, rfl, ho, (Below.refl _ _).alloc (Nat.le_refl _) _⟩
theorem refFour_any (x : Int) (w : World) : Calls Tryd.prog 18 #[.int .u32 x] w fun e w' => ∃ ao cap, e = .returned (.slice ao (fourB x).length cap) ∧ Ow w' w.heap.size (.slice ao (fourB x).length cap) (fourB x) ∧ Below w.heap.size w w' := by
  have ho : Ow (w.alloc (.cells #[.int .u8 (x % 256), .int .u8 (x / 256 % 256), .int .u8 (x / 65536 % 256), .int .u8 (x / 16777216 % 256)] 5)) w.heap.size (.slice (some ⟨w.heap.size, 0, none⟩) 4 4) (fourB x) := Ow_of_block (zs := fourB x) (heap_alloc_new w _) (by simp [fourB, maxLen]) (Nat.le_refl _)
  go_enter Tryd.func18, Tryd.ntmps18
  go_wp2
  go_ret
  exact ⟨_, _, rfl, ho, (Below.refl _ _).alloc (Nat.le_refl _) _⟩

set_option maxHeartbeats 800000 in
theorem refBytes_any (sv : Value) (zs : List Int) (w : World) (hb : Bs w sv zs) (hz : zs.length ≤ 100000000000000) :
    Calls Tryd.prog 20 #[sv] w fun e w' => ∃ ao cap, e = .returned (.slice ao (numOf zs.length ++ zs).length cap) ∧ Ow w' w.heap.size (.slice ao (numOf zs.length ++ zs).length cap) (numOf zs.length ++ zs) ∧ Below w.heap.size w w' := by
  obtain ⟨ao, cap, hsv, hm⟩ := hb.len
  subst hsv
  have hnl := numOf_length (zs.length : Int)
  have HA : Hid ((numOf zs.length ++ zs).length = (numOf zs.length).length + zs.length) := by show _ = _; rw [List.length_append]
  go_enter Tryd.func20, Tryd.ntmps20
  go_wp2_with fail
  refine (refNum_any _ _ (by omega) (by omega)).mono ?_
  rintro e w1 ⟨ao1, cap1, rfl, ho1, B1⟩
  have hb1 := hb.below B1 (Nat.le_refl _)
  go_wp2_with (at_builtin; refine wpList_append_bs _ rfl (.tmp 5) (.tmp 6) rfl w.heap.size _ _ rfl ho1 _ zs rfl hb1 (by omega) B1.size ?_)
  intro ao2 cap2 w2 ho2 hg2 hat2
  have B2 : Below w.heap.size w w2 := B1.grown hg2 B1.size (fun k hk => (World.ownsRow.lt ho1 k hk).1)
  clear ho1 hg2 hat2 hb1
  go_wp2
  go_ret
  rw [HA.out]
  exact ⟨ao2, cap2, rfl, ho2, B2⟩

/-- The document's bytes of a field. -/
def encF (f : Fd) : List Int := if f.kind = 1 then [f.n % 256] else if f.kind = 2 then twoB (f.n % 65536) else if f.kind = 3 then fourB (f.n % 4294967296) else if f.kind = 4 then numOf f.n else if f.kind = 5 then numOf f.bs.length ++ f.bs else f.h

set_option maxHeartbeats 3200000 in
theorem bytesF_core (f : Fd) (cs : List Value) (w : World) (HC : Hid (cs = f.cells)) (hf : f.ok w) (hz : f.bs.length ≤ 100000000000000) :
    Calls Tryd.prog 5 #[.agg cs.toArray] w fun e w' => ∃ ao cap, e = .returned (.slice ao (encF f).length cap) ∧ Ow w' w.heap.size (.slice ao (encF f).length cap) (encF f) ∧ Below w.heap.size w w' := by
  have hra : (w.alloc (.cells cs.toArray 30)).rangeAt w.heap.size 0 cs := range_of_block (heap_alloc_new w _)
  have hc0 : (w.alloc (.cells cs.toArray 30)).cell? ⟨w.heap.size, 0, none⟩ = some (.int .i64 f.kind) := hra 0 _ (by rw [HC.out]; rfl)
  have hc1 : (w.alloc (.cells cs.toArray 30)).cell? ⟨w.heap.size, 1, none⟩ = some (.int .i64 f.n) := hra 1 _ (by rw [HC.out]; rfl)
  have hc2 : (w.alloc (.cells cs.toArray 30)).cell? ⟨w.heap.size, 2, none⟩ = some f.bv := hra 2 _ (by rw [HC.out]; rfl)
  have B0 : Below w.heap.size w (w.alloc (.cells cs.toArray 30)) := (Below.refl _ _).alloc (Nat.le_refl _) _
  have hbs := hf.b.below B0 (Nat.le_refl _)
  obtain ⟨abv, cbv, hbv, _⟩ := hf.b.len
  have hn0 := hf.n0
  have hn1 := hf.n1
  have hs0 : cs[0]? = some (.int .i64 f.kind) := by rw [HC.out]; rfl
  have hs1 : cs[1]? = some (.int .i64 f.n) := by rw [HC.out]; rfl
  have hs2 : cs[2]? = some f.bv := by rw [HC.out]; rfl
  rw [hbv] at hs2 hc2 hbs
  have hr3 : (w.alloc (.cells cs.toArray 30)).rangeAt w.heap.size 3 (cellsOf f.h) := by
    intro j u hu
    have := hra (3 + j) u (by rw [HC.out]; show (Value.int .i64 f.kind :: .int .i64 f.n :: f.bv :: cellsOf f.h)[3 + j]? = some u; rw [show 3 + j = j + 1 + 1 + 1 by omega]; simpa using hu)
    simpa using this
  clear hra
  by_cases k1 : f.kind = 1
  · have HE : Hid (encF f = [f.n % 256]) := by show _ = _; simp [encF, k1]
    rw [k1] at hs0 hc0
    clear k1
    have ho : Ow ((w.alloc (.cells cs.toArray 30)).alloc (.cells #[.int .u8 (f.n % 256)] 5)) w.heap.size (.slice (some ⟨w.heap.size + 1, 0, none⟩) 1 1) [f.n % 256] := by
      have := Ow_of_block (zs := [f.n % 256]) (base := w.heap.size) (heap_alloc_new (w.alloc (.cells cs.toArray 30)) (.cells #[.int .u8 (f.n % 256)] 5)) (by simp [maxLen]) (by simp)
      rw [World.size_alloc] at this
      exact this
    go_enter Tryd.func5, Tryd.ntmps5
    go_wp2
    go_ret
    rw [HE.out]
    exact ⟨_, _, rfl, ho, B0.alloc (by simp) _⟩
  by_cases k2 : f.kind = 2
  · have HE : Hid (encF f = twoB (f.n % 65536)) := by show _ = _; simp [encF, k2]
    rw [k2] at hs0 hc0
    clear k2 k1
    go_enter Tryd.func5, Tryd.ntmps5
    go_wp2_with fail
    refine (refTwo_any _ _).mono ?_
    rintro e w1 ⟨ao1, cap1, rfl, ho1, B1⟩
    go_wp2
    go_ret
    rw [HE.out]
    exact ⟨ao1, cap1, rfl, ho1.mono (by simp), B0.trans (B1.mono (by simp))⟩
  by_cases k3 : f.kind = 3
  · have HE : Hid (encF f = fourB (f.n % 4294967296)) := by show _ = _; simp [encF, k3]
    rw [k3] at hs0 hc0
    clear k3 k1 k2
    go_enter Tryd.func5, Tryd.ntmps5
    go_wp2_with fail
    refine (refFour_any _ _).mono ?_
    rintro e w1 ⟨ao1, cap1, rfl, ho1, B1⟩
    go_wp2
    go_ret
    rw [HE.out]
    exact ⟨ao1, cap1, rfl, ho1.mono (by simp), B0.trans (B1.mono (by simp))⟩
  by_cases k4 : f.kind = 4
  · have HE : Hid (encF f = numOf f.n) := by show _ = _; simp [encF, k4]
    rw [k4] at hs0 hc0
    clear k4 k1 k2 k3
    go_enter Tryd.func5, Tryd.ntmps5
    go_wp2_with fail
    refine (refNum_any _ _ hn0 hn1).mono ?_
    rintro e w1 ⟨ao1, cap1, rfl, ho1, B1⟩
    go_wp2
    go_ret
    rw [HE.out]
    exact ⟨ao1, cap1, rfl, ho1.mono (by simp), B0.trans (B1.mono (by simp))⟩
  by_cases k5 : f.kind = 5
  · have HE : Hid (encF f = numOf f.bs.length ++ f.bs) := by show _ = _; simp [encF, k5]
    rw [k5] at hs0 hc0
    clear k5 k1 k2 k3 k4
    go_enter Tryd.func5, Tryd.ntmps5
    go_wp2_with fail
    refine (refBytes_any _ f.bs _ hbs hz).mono ?_
    rintro e w1 ⟨ao1, cap1, rfl, ho1, B1⟩
    go_wp2
    go_ret
    rw [HE.out, List.length_append]
    rw [List.length_append] at ho1
    exact ⟨ao1, cap1, rfl, ho1.mono (by simp), B0.trans (B1.mono (by simp))⟩
  have HE : Hid (encF f = f.h) := by show _ = _; simp [encF, k1, k2, k3, k4, k5]
  have e1 : (f.kind == 1) = false := by simp [k1]
  have e2 : (f.kind == 2) = false := by simp [k2]
  have e3 : (f.kind == 3) = false := by simp [k3]
  have e4 : (f.kind == 4) = false := by simp [k4]
  have e5 : (f.kind == 5) = false := by simp [k5]
  have hhl := hf.hl
  clear k1 k2 k3 k4 k5
  generalize f.kind = fk at *
  have ho0 : Ow ((w.alloc (.cells cs.toArray 30)).alloc (.cells #[] 5)) (w.heap.size + 1) (.slice (some ⟨w.heap.size + 1, 0, none⟩) 0 0) [] := by
    have := Ow_of_block (zs := []) (base := w.heap.size + 1) (heap_alloc_new (w.alloc (.cells cs.toArray 30)) (.cells #[] 5)) (by simp) (by simp)
    rw [World.size_alloc] at this
    exact this
  have hbh : Bs ((w.alloc (.cells cs.toArray 30)).alloc (.cells #[] 5)) (.slice (some ⟨w.heap.size, 3, none⟩) 32 32) f.h := by
    refine Or.inr ⟨fun e => by rw [e] at hhl; simp at hhl, w.heap.size, 3, 32, by rw [hhl], by omega, by simp [maxLen], fun i hi => ?_⟩
    rw [World.cell?_alloc_past _ _ _ (by simp)]
    exact hr3 i _ (cellsOf_get' f.h i hi)
  go_enter Tryd.func5, Tryd.ntmps5
  go_wp2_with (at_builtin; refine wpList_append_bs _ rfl (.tmp 33) (.tmp 35) rfl (w.heap.size + 1) _ [] rfl ho0 _ f.h rfl hbh (by simp; omega) (by simp) ?_)
  intro ao2 cap2 w2 ho2 hg2 hat2
  have B2 : Below w.heap.size w w2 := (B0.alloc (by simp) _).grown hg2 (by simp; omega) (fun k hk => by simp [Value.ownBlock] at hk; omega)
  have ho2' := ho2.mono (Nat.le_succ w.heap.size)
  clear ho0 hg2 hat2 hbh ho2
  go_wp2
  go_ret
  rw [HE.out, hhl]
  exact ⟨ao2, cap2, rfl, ho2', B2⟩
theorem bytesF_any (f : Fd) (w : World) (hf : f.ok w) (hz : f.bs.length ≤ 100000000000000) :
    Calls Tryd.prog 5 #[.agg f.cells.toArray] w fun e w' => ∃ ao cap, e = .returned (.slice ao (encF f).length cap) ∧ Ow w' w.heap.size (.slice ao (encF f).length cap) (encF f) ∧ Below w.heap.size w w' := bytesF_core f f.cells w rfl hf hz
end Go.Proofs.YtamifgaaalclcabDoor
