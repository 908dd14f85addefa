/-
  The document's Next, by contract.
-/
import Derived.Test.YtilaankipjcgaaaRefSet
import Derived.Deep.RegionHeld3
namespace Go.Proofs.Ytilaankipjcgaaa
open Go.RowKit Go.Maps
variable {w w' : World} {F : Nat → Prop} {rb : Nat} {v : Value} {L s : List Pr}
theorem Rt.below' (h : Rt w F rb v L s) (hb : Below w.heap.size w w') : Rt w' F rb v L s := h.keep fun k _ hk => hb.block k hk
set_option maxHeartbeats 800000 in
theorem rnext_nil (h : Rm w F rb []) : Calls Try.prog 17 #[.pointer (some ⟨rb, 0, none⟩)] w fun e w' => e = .returned (.tuple #[.int .i64 0, .int .i64 0, .bool false]) ∧ Below w.heap.size w w' := by
  obtain ⟨v, L, h⟩ := h
  have hl : L = [] := List.Perm.eq_nil h.perm
  subst hl
  obtain ⟨ao, cap, hv⟩ := h.slot
  have c0 := h.cell
  rw [hv] at c0
  simp only [List.length_nil] at c0
  go_enter Try.func17, Try.ntmps17
  go_wp2_with fail
  exact bodyPost_ret (v := .tuple #[.int .i64 0, .int .i64 0, .bool false]) (by simp [results, Try.results17, go_sem]) rfl ⟨rfl, Below.refl _ _⟩
/-- What Next holds when it has gone so far. -/
structure NextI (w : World) (F : Nat → Prop) (rb : Nat) (v : Value) (L s : List Pr) (wr : World) (k : Nat) (x : Pr) : Prop where
  blk : Cw wr w.heap.size [.int .i64 x.1, .int .i64 x.2] 58
  bel : Below w.heap.size w wr
  mem : x ∈ L
  min : ∀ (j : Nat) (p : Pr), j < k → L[j]? = some p → ¬ bef p x
theorem NextI.stay {wr w2 : World} {k : Nat} {x y : Pr} (h : NextI w F rb v L s wr k x) (hy : L[k]? = some y) (hn : ¬ bef y x) (hs : Sm wr w2) : NextI w F rb v L s w2 (k + 1) x :=
  ⟨hs.cw h.blk, h.bel.trans (hs.below _), h.mem, fun j p hj hp => by
    by_cases e : j = k
    · subst e; rw [hy] at hp; obtain rfl := Option.some.inj hp; exact hn
    · exact h.min j p (by omega) hp⟩
theorem NextI.take {wr w2 : World} {k : Nat} {x y : Pr} (h : NextI w F rb v L s wr k x) (hy : L[k]? = some y) (hb : bef y x) (hs : Sm wr w2) : NextI w F rb v L s ((w2.setCell ⟨w.heap.size, 0, none⟩ (.int .i64 y.1)).setCell ⟨w.heap.size, 1, none⟩ (.int .i64 y.2)) (k + 1) y :=
  ⟨((hs.cw h.blk).set 0 _).set 1 _, ((h.bel.trans (hs.below _)).setCell (Nat.le_refl _) _).setCell (Nat.le_refl _) _, List.mem_of_getElem? hy, fun j p hj hp hlt => by
    by_cases e : j = k
    · subst e; rw [hy] at hp; obtain rfl := Option.some.inj hp; exact bef_irrefl _ hlt
    · exact h.min j p (by omega) hp (bef_trans hlt hb)⟩
set_option maxRecDepth 20000 in
set_option maxHeartbeats 2000000 in
theorem rnext_cons {p : Pr} {r : List Pr} (h : Rm w F rb (p :: r)) : Calls Try.prog 17 #[.pointer (some ⟨rb, 0, none⟩)] w fun e w' => e = .returned (.tuple #[.int .i64 p.1, .int .i64 p.2, .bool true]) ∧ Below w.heap.size w w' := by
  obtain ⟨v, L, h⟩ := h
  have hl : 0 < L.length := by rw [h.perm.length_eq]; simp
  obtain ⟨g, cap, hv, hc1, hc2⟩ := h.form hl
  have few := h.few
  have c0 := h.cell
  rw [hv] at c0
  obtain ⟨x0, hx0⟩ : ∃ x, L[0]? = some x := ⟨_, List.getElem?_eq_getElem hl⟩
  obtain ⟨a1, a2⟩ := h.cells hv hx0
  simp only [Nat.zero_mul, Nat.zero_add] at a1 a2
  have hne : ((L.length : Int) == 0) = false := by simpa using Nat.ne_of_gt hl
  have H := hid_into h
  have HV := hid_into hv
  have HX0 := hid_into hx0
  unfold maxLen at hc2
  clear h hv hx0
  go_enter Try.func17, Try.ntmps17
  go_wp2_with fail
  go_loopw [6] (fun i wr => ∃ (k : Nat) (x : Pr), 1 ≤ k ∧ k ≤ L.length ∧ i = .int .i64 (k : Int) ∧ Hid (NextI w F rb v L (p :: r) wr k x)) (fun i _ => L.length - (intOf i).toNat)
  case atStart =>
    refine ⟨1, x0, Nat.le_refl _, hl, rfl, Cw.new w [_, _] 58, (Below.refl _ _).alloc (Nat.le_refl _) _, List.mem_of_getElem? HX0.out, fun j p hj hp => ?_⟩
    obtain rfl : j = 0 := by omega
    rw [HX0.out] at hp
    obtain rfl := Option.some.inj hp
    exact bef_irrefl _
  case round =>
    obtain ⟨k, x, hk1, hk, rfl, HI⟩ := hrel
    have hR := H.out.below' HI.out.bel
    have c1 := hR.cell
    rw [HV.out] at c1
    have x1 : wr.cell? ⟨w.heap.size, 0, none⟩ = some (.int .i64 x.1) := by rw [HI.out.blk.cell]; rfl
    have x2 : wr.cell? ⟨w.heap.size, 1, none⟩ = some (.int .i64 x.2) := by rw [HI.out.blk.cell]; rfl
    have fz0 := HI.out.blk.frozen 0
    have fz1 := HI.out.blk.frozen 1
    by_cases hlt : k < L.length
    · obtain ⟨y, hy⟩ : ∃ y, L[k]? = some y := ⟨_, List.getElem?_eq_getElem hlt⟩
      obtain ⟨b1, b2⟩ := hR.cells HV.out hy
      have HY := hid_into hy
      clear hy hR
      by_cases d1 : y.2 < x.2
      · have e1 : decide (y.2 < x.2) = true := by simp [d1]
        have HB : Hid (bef y x) := Or.inl d1
        go_wp2_with fail
        go_quiet (fail)
        go_wp2_with fail
        go_roundw
        case rel => exact ⟨k + 1, y, by omega, by omega, by go_num, HI.out.take HY.out HB.out (Sm.drewN _ _)⟩
        case measure => simp [intOf]; omega
      · have e1 : decide (y.2 < x.2) = false := by simpa using d1
        by_cases d2 : y.2 = x.2
        · have e2 : (y.2 == x.2) = true := by simp [d2]
          by_cases d3 : y.1 < x.1
          · have e3 : decide (y.1 < x.1) = true := by simp [d3]
            have HB : Hid (bef y x) := Or.inr ⟨d2, d3⟩
            clear d2
            go_wp2_with fail
            go_quiet (fail)
            go_wp2_with fail
            go_roundw
            case rel => exact ⟨k + 1, y, by omega, by omega, by go_num, HI.out.take HY.out HB.out (Sm.drewN _ _)⟩
            case measure => simp [intOf]; omega
          · have e3 : decide (y.1 < x.1) = false := by simpa using d3
            have HB : Hid (¬ bef y x) := fun h => by unfold bef at h; omega
            clear d2
            go_wp2_with fail
            go_quiet (fail)
            go_wp2_with fail
            go_roundw
            case rel => exact ⟨k + 1, x, by omega, by omega, by go_num, HI.out.stay HY.out HB.out (Sm.drewN _ _)⟩
            case measure => simp [intOf]; omega
        · have e2 : (y.2 == x.2) = false := by simp [d2]
          have HB : Hid (¬ bef y x) := fun h => by unfold bef at h; omega
          go_wp2_with fail
          go_quiet (fail)
          go_wp2_with fail
          go_roundw
          case rel => exact ⟨k + 1, x, by omega, by omega, by go_num, HI.out.stay HY.out HB.out (Sm.drewN _ _)⟩
          case measure => simp [intOf]; omega
    · have hkl : k = L.length := by omega
      have hmin : x = p := by
        apply srt_first H.out.srt (H.out.perm.mem_iff.1 HI.out.mem)
        intro y hy
        obtain ⟨j, hj⟩ := List.getElem?_of_mem (H.out.perm.mem_iff.2 hy)
        exact HI.out.min j y (by have := (List.getElem?_eq_some_iff.1 hj).1; omega) hj
      have HM := hid_into hmin
      clear hmin hR hkl
      go_wp2_with fail
      go_quiet (fail)
      go_wp2_with fail
      exact bodyPost_ret (v := .tuple #[.int .i64 x.1, .int .i64 x.2, .bool true]) (by simp [results, Try.results17, go_sem]) rfl ⟨by rw [HM.out], HI.out.bel.trans ((Sm.drewN _ _).below _)⟩
end Go.Proofs.Ytilaankipjcgaaa
