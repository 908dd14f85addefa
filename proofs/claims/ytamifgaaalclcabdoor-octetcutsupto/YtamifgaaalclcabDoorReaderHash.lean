/-
  The Reader's Hash and Bytes, by contracts.
-/
import Derived.Test.YtamifgaaalclcabDoorReaderRows
import Derived.Deep.MidRow
namespace Go.Proofs.YtamifgaaalclcabDoor
open Go.RowKit

theorem setCells_other (b k : Nat) (hk : k ≠ b) : ∀ (vs : List Value) (o : Nat) (w : World), (w.setCells b o vs).heap[k]? = w.heap[k]?
  | [], _, _ => rfl
  | v :: vs, o, w => by
    show ((w.setCell ⟨b, o, none⟩ v).setCells b (o + 1) vs).heap[k]? = _
    rw [setCells_other b k hk vs (o + 1) _, Below.heap_setCell _ _ _ _ hk]
theorem setCells_same (b : Nat) (t : TypeId) : ∀ (vs pre old : List Value) (w : World), w.heap[b]? = some (.cells (pre ++ old).toArray t (0, 0)) → old.length = vs.length → (w.setCells b pre.length vs).heap[b]? = some (.cells (pre ++ vs).toArray t (0, 0))
  | [], pre, old, w, h, hl => by
    have : old = [] := List.eq_nil_of_length_eq_zero hl
    subst this
    exact h
  | v :: vs, pre, [], w, h, hl => by simp at hl
  | v :: vs, pre, u :: old, w, h, hl => by
    have h1 : (w.setCell ⟨b, pre.length, none⟩ v).heap[b]? = some (.cells ((pre ++ [v]) ++ old).toArray t (0, 0)) := by
      simp only [World.setCell, Array.getElem?_modify, h]
      simp
    have h2 := setCells_same b t vs (pre ++ [v]) old _ h1 (by simpa using hl)
    show ((w.setCell ⟨b, pre.length, none⟩ v).setCells b (pre.length + 1) vs).heap[b]? = _
    simpa using h2
theorem setCells_rest (b : Nat) : ∀ (vs : List Value) (o : Nat) (w : World), (w.setCells b o vs).os = w.os ∧ (w.setCells b o vs).tape = w.tape ∧ (w.setCells b o vs).output = w.output ∧ (w.setCells b o vs).heap.size = w.heap.size
  | [], _, _ => ⟨rfl, rfl, rfl, rfl⟩
  | v :: vs, o, w => by
    have h := setCells_rest b vs (o + 1) (w.setCell ⟨b, o, none⟩ v)
    exact ⟨h.1, h.2.1, h.2.2.1, h.2.2.2.trans (by simp [World.setCell])⟩

def zero32 : List Int := [0, 0, 0, 0, 0, 0, 0, 0, 0, 0, 0, 0, 0, 0, 0, 0, 0, 0, 0, 0, 0, 0, 0, 0, 0, 0, 0, 0, 0, 0, 0, 0]
theorem Tryd.info28 : (Tryd.prog.info? 28).map (·.size) = some 32 := by kernel_rfl

theorem Rw.range {w : World} {g : Nat} {ys : List Int} {t : TypeId} (h : Rw w g ys t) : w.rangeAt g 0 (cellsOf ys) := by
  intro j u hu
  obtain ⟨hj, rfl⟩ := cellsOf_get ys j u hu
  rw [Nat.zero_add]
  exact h.cell j hj
theorem Rw.there {w : World} {g : Nat} {ys : List Int} {t : TypeId} (h : Rw w g ys t) : w.there g 0 ys.length := by
  intro j hj
  rw [Nat.zero_add, h.cell j hj]
  exact ⟨rfl, h.frozen j⟩
theorem Rw.put {w : World} {g : Nat} {ys zs : List Int} {t : TypeId} (h : Rw w g ys t) (hl : ys.length = zs.length) : Rw (w.setCells g 0 (cellsOf zs)) g zs t :=
  setCells_same g t (cellsOf zs) [] (cellsOf ys) w h (by simp [cellsOf, hl])

set_option maxHeartbeats 1600000 in
theorem rhash_any (b : Nat) (v : Value) (zs : List Int) (e : Int) (w : World) (hr : Rd w b v zs e) (hv : ∀ k, v.ownBlock = some k → k < w.heap.size) :
    Calls Tryd.prog 14 #[.pointer (some ⟨b, 0, none⟩)] w fun r w' => r = .returned (.agg (cellsOf (rowR zero32 zs e).1).toArray) ∧ Rleft w b v w' (rowR zero32 zs e).2.1 (rowR zero32 zs e).2.2 := by
  have hlen : (rowR zero32 zs e).1.length = 32 := rowR_len zero32 zs e
  have hlt := hr.lt
  have hr0 := (hr.alloc (.cells (cellsOf zero32).toArray 28)).alloc (.cells (cellsOf zero32).toArray 28)
  have hg0 : Rw ((w.alloc (.cells (cellsOf zero32).toArray 28)).alloc (.cells (cellsOf zero32).toArray 28)) (w.heap.size + 1) zero32 28 := by
    have := Rw_new (w.alloc (.cells (cellsOf zero32).toArray 28)) zero32 28
    rwa [World.size_alloc] at this
  have hq0 : Rw ((w.alloc (.cells (cellsOf zero32).toArray 28)).alloc (.cells (cellsOf zero32).toArray 28)) w.heap.size zero32 28 := by
    unfold Rw
    rw [Below.heap_alloc _ _ _ (by simp)]
    exact Rw_new w zero32 28
  have B0 : Below w.heap.size w ((w.alloc (.cells (cellsOf zero32).toArray 28)).alloc (.cells (cellsOf zero32).toArray 28)) := ((Below.refl _ _).alloc (Nat.le_refl _) _).alloc (by simp) _
  generalize hres : rowR zero32 zs e = R at *
  obtain ⟨row, zs2, e2⟩ := R
  have HR : Hid (rowR zero32 zs e = (row, zs2, e2)) := hres
  clear hres
  go_enter Tryd.func14, Tryd.ntmps14
  go_wp2_with fail
  refine (fill_any b (w.heap.size + 1) v zs zero32 e 28 ((w.alloc (.cells (cellsOf zero32).toArray 28)).alloc (.cells (cellsOf zero32).toArray 28)) hr0 hg0 (by omega) (fun h => by have := hv _ h; omega) (by decide)).mono ?_
  rintro e w2 ⟨rfl, v2, hv2, hr2, hg2, hs2⟩
  rw [HR.out] at hr2 hg2
  have hq2 : Rw w2 w.heap.size zero32 28 := by
    unfold Rw
    rw [hs2.block w.heap.size hq0.lt (by omega) (by omega)]
    exact hq0
  have hsz : (cellsOf row).toArray.size = 32 := by simp [cellsOf, hlen]
  have hth : w2.there w.heap.size 0 (cellsOf row).toArray.size := by rw [hsz]; exact hq2.there
  have hif : (Tryd.prog.info? 28).map (·.size) = some (cellsOf row).toArray.size := by rw [hsz]; exact Tryd.info28
  have hif2 : (Tryd.prog.info? 28).map (·.size) = some (cellsOf row).length := by rw [cellsOf_length, hlen]; exact Tryd.info28
  have HSZ : Hid ((cellsOf row).toArray.size = 32) := hsz
  have HI : Hid ((Tryd.prog.info? 28).map (·.size) = some (cellsOf row).toArray.size) := hif
  have HI2 : Hid ((Tryd.prog.info? 28).map (·.size) = some (cellsOf row).length) := hif2
  have hq3 := hq2.put (zs := row) (by rw [hlen]; rfl)
  have hrest := setCells_rest w.heap.size (cellsOf row) 0 w2
  have hr3 : Rd (w2.setCells w.heap.size 0 (cellsOf row)) b v2 zs2 e2 := hr2.keep (setCells_other _ _ (by omega) _ _ _) (fun k hk _ => setCells_other _ _ (by
    rcases hv2 with h | h
    · have := hv k (by rw [← h]; exact hk); omega
    · rw [h] at hk; cases hk) _ _ _)
  have S : Rleft w b v (w2.setCells w.heap.size 0 (cellsOf row)) zs2 e2 := by
    refine ⟨v2, hr3, ⟨?_, ?_, ?_, ?_, ?_⟩, hv2⟩
    · exact hrest.1.trans (hs2.os.trans B0.os)
    · exact hrest.2.1.trans (hs2.tape.trans B0.tape)
    · exact hrest.2.2.1.trans (hs2.output.trans B0.output)
    · rw [hrest.2.2.2]; exact Nat.le_trans B0.size hs2.size
    · intro k hk hkb
      rw [setCells_other _ _ (by omega), hs2.block k (Nat.lt_of_lt_of_le hk B0.size) hkb (by omega)]
      exact B0.block k hk
  clear hr0 hg0 hq0 hsz hif hif2 hrest hr3 hr2 hs2
  go_wp2_with (first
    | (refine wpList_load_mid rfl 28 (.tmp 3) rfl (w.heap.size + 1) 0 rfl (cellsOf row) _ hg2.range Tryd.underlying28 rfl HI2.out ?_)
    | (refine wpList_store_mid rfl 28 (.tmp 2) (.tmp 7) rfl w.heap.size 0 (cellsOf row).toArray rfl rfl hth HI.out (all_oneCell_toArray (cellsOf_one row)) ?_))
  exact bodyPost_ret (results_cell_row rfl _ _ w.heap.size 28 (cellsOf row).toArray (0, 0) _ rfl hq3 Tryd.underlying28 rfl HI.out) rfl ⟨rfl, S⟩

set_option maxHeartbeats 1600000 in
theorem rhash_nil (w : World) : Calls Tryd.prog 14 #[.pointer none] w fun r w' => r = .returned (.agg (cellsOf zero32).toArray) ∧ Below w.heap.size w w' := by
  have hg0 : Rw ((w.alloc (.cells (cellsOf zero32).toArray 28)).alloc (.cells (cellsOf zero32).toArray 28)) (w.heap.size + 1) zero32 28 := by
    have := Rw_new (w.alloc (.cells (cellsOf zero32).toArray 28)) zero32 28
    rwa [World.size_alloc] at this
  have hq0 : Rw ((w.alloc (.cells (cellsOf zero32).toArray 28)).alloc (.cells (cellsOf zero32).toArray 28)) w.heap.size zero32 28 := by
    unfold Rw
    rw [Below.heap_alloc _ _ _ (by simp)]
    exact Rw_new w zero32 28
  have B0 : Below w.heap.size w ((w.alloc (.cells (cellsOf zero32).toArray 28)).alloc (.cells (cellsOf zero32).toArray 28)) := ((Below.refl _ _).alloc (Nat.le_refl _) _).alloc (by simp) _
  have hbs : Bs ((w.alloc (.cells (cellsOf zero32).toArray 28)).alloc (.cells (cellsOf zero32).toArray 28)) (.slice (some ⟨w.heap.size + 1, 0, none⟩) 32 32) zero32 := Bs_of_block hg0 (by simp [zero32, maxLen])
  have HI : Hid ((Tryd.prog.info? 28).map (·.size) = some (cellsOf zero32).toArray.size) := Tryd.info28
  have HI2 : Hid ((Tryd.prog.info? 28).map (·.size) = some (cellsOf zero32).length) := Tryd.info28
  go_enter Tryd.func14, Tryd.ntmps14
  go_wp2_with fail
  refine (fill_nil _ zero32 ((w.alloc (.cells (cellsOf zero32).toArray 28)).alloc (.cells (cellsOf zero32).toArray 28)) hbs).mono ?_
  rintro e W ⟨rfl, hW⟩
  rw [hW] at hg0 hq0 B0
  have hq3 := hq0.put (zs := zero32) rfl
  have hrest := setCells_rest w.heap.size (cellsOf zero32) 0 W
  have B3 : Below w.heap.size w (W.setCells w.heap.size 0 (cellsOf zero32)) :=
    ⟨hrest.1.trans B0.os, hrest.2.1.trans B0.tape, hrest.2.2.1.trans B0.output, by rw [hrest.2.2.2]; exact B0.size, fun k hk => (setCells_other _ _ (by omega) _ _ _).trans (B0.block k hk)⟩
  have hth : W.there w.heap.size 0 (cellsOf zero32).toArray.size := hq0.there
  have hra := hg0.range
  clear hrest hW hbs hg0 hq0 B0
  obtain ⟨row, hrow⟩ : ∃ row, row = zero32 := ⟨_, rfl⟩
  rw [← hrow] at HI HI2 hq3 B3 hth hra
  have HR : Hid (row = zero32) := hrow
  clear hrow
  go_wp2_with (first
    | (refine wpList_load_mid rfl 28 (.tmp 3) rfl (w.heap.size + 1) 0 rfl (cellsOf row) _ hra Tryd.underlying28 rfl HI2.out ?_)
    | (refine wpList_store_mid rfl 28 (.tmp 2) (.tmp 7) rfl w.heap.size 0 (cellsOf row).toArray rfl rfl hth HI.out (all_oneCell_toArray (cellsOf_one row)) ?_))
  exact bodyPost_ret (results_cell_row rfl _ _ w.heap.size 28 (cellsOf row).toArray (0, 0) _ rfl hq3 Tryd.underlying28 rfl HI.out) rfl ⟨by rw [HR.out], B3⟩

theorem rbytes_nil (w : World) : Calls Tryd.prog 13 #[.pointer none] w fun r w' => r = .returned (.slice none 0 0) ∧ w = w' := by
  go_enter Tryd.func13, Tryd.ntmps13
  go_wp2_with fail
  refine (rnum_nil _).mono ?_
  rintro e w2 ⟨rfl, rfl⟩
  go_wp2_with fail
  refine (has_nil _ _).mono ?_
  rintro e w2 ⟨rfl, rfl⟩
  go_wp2
  go_ret
  exact ⟨rfl, rfl⟩
end Go.Proofs.YtamifgaaalclcabDoor
