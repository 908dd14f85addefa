/-
  The document's own Reader's Hash, by contract.
-/
import Derived.Test.YtamifgaaalclcaaDoorRefReaderBytes
import Derived.Laws.CopyOwn
namespace Go.Proofs.YtamifgaaalclcaaDoor
open Go.RowKit

theorem Tryd.info5s : (Tryd.prog.info? 5).map (·.size) = some 1 := by kernel_rfl
theorem splice_all {α : Type} (L cs : List α) (h : cs.length = L.length) : splice L 0 cs = cs := by simp [splice, h]

theorem Bs.of32 {w : World} {x : Value} {row : List Int} (h : Bs w x row) (hl : row.length = 32) : ∃ b2 off cap, x = .slice (some ⟨b2, off, none⟩) 32 cap ∧ ∀ j u, (cellsOf row)[j]? = some u → w.cell? ((⟨b2, off, none⟩ : Addr).add j) = some u := by
  rcases h with ⟨h0, _⟩ | ⟨_, b2, off, cap, hx, h1, h2, hcell⟩
  · subst h0; cases hl
  · refine ⟨b2, off, cap, by rw [hx, hl], fun j u hu => ?_⟩
    obtain ⟨hj, rfl⟩ := cellsOf_get row j u hu
    rw [Addr.add_lit]
    exact hcell j hj

set_option maxHeartbeats 1600000 in
theorem fhash_any (b : Nat) (v : Value) (zs : List Int) (e : Int) (w : World) (hr : Rf w b v zs e) (hi : Inv zs e) (hv : ∀ k, v.ownBlock = some k → k < w.heap.size) :
    Calls Tryd.prog 37 #[.pointer (some ⟨b, 0, none⟩)] w fun r w' => r = .returned (.agg (cellsOf (rowR zero32 zs e).1).toArray) ∧ Fleft w b v w' (rowR zero32 zs e).2.1 (rowR zero32 zs e).2.2 := by
  have hlen : (rowR zero32 zs e).1.length = 32 := rowR_len zero32 zs e
  have hlt := hr.lt
  have hr0 := (hr.alloc (.cells (cellsOf zero32).toArray 28)).alloc (.cells (cellsOf zero32).toArray 28)
  have hg0 : Rw ((w.alloc (.cells (cellsOf zero32).toArray 28)).alloc (.cells (cellsOf zero32).toArray 28)) (w.heap.size + 1) zero32 28 := by
    have := Rw_new (w.alloc (.cells (cellsOf zero32).toArray 28)) zero32 28
    rwa [World.size_alloc] at this
  have hq0 : Rw ((w.alloc (.cells (cellsOf zero32).toArray 28)).alloc (.cells (cellsOf zero32).toArray 28)) w.heap.size zero32 28 := by
    unfold Rw
    rw [Below.heap_alloc _ _ _ (by simp)]
    exact Rw_new w zero32 28
  have B0 : Below w.heap.size w ((w.alloc (.cells (cellsOf zero32).toArray 28)).alloc (.cells (cellsOf zero32).toArray 28)) := ((Below.refl _ _).alloc (Nat.le_refl _) _).alloc (by simp) _
  have RR : ∀ W, Rf W b v zs e → Calls Tryd.prog 54 #[.pointer (some ⟨b, 0, none⟩), .int .i64 32] W fun r w' => ∃ x, r = .returned x ∧ Bs w' x (rowR zero32 zs e).1 ∧ Fleft W b v w' (rowR zero32 zs e).2.1 (rowR zero32 zs e).2.2 := fun W hW => raw_row zero32 zs e W b v 32 rfl (by decide) hW hi (raw_no32 b v zs e W hW)
  generalize rowR zero32 zs e = R at *
  obtain ⟨row, zs2, e2⟩ := R
  have HR : Hid (∀ W, Rf W b v zs e → Calls Tryd.prog 54 #[.pointer (some ⟨b, 0, none⟩), .int .i64 32] W fun r w' => ∃ x, r = .returned x ∧ Bs w' x row ∧ Fleft W b v w' zs2 e2) := RR
  clear RR
  have hlen' : row.length = 32 := hlen
  have HL : Hid (row.length = 32) := hlen'
  have HCL : Hid ((cellsOf row).length = 32) := by show _ = _; rw [cellsOf_length]; exact hlen'
  clear hlen hlen'
  have hzl : Hid ((cellsOf zero32).length = 32) := rfl
  go_enter Tryd.func37, Tryd.ntmps37
  go_wp2_with fail
  go_region_held3 (fun w' => True) (trivial)
    (first
      | (go_at_call 54; refine (HR.out _ (by exact hr0)).mono ?_; rintro r w2 ⟨x, rfl, hbx, v2, hr2, hs2, hv2⟩; obtain ⟨b2, off, cap, hx, hcl⟩ := hbx.of32 HL.out; have hg2 : Rw w2 (w.heap.size + 1) zero32 28 := (by unfold Rw; rw [hs2.block (w.heap.size + 1) (by exact hg0.lt) (by omega)]; exact hg0); have hq2 : Rw w2 w.heap.size zero32 28 := (by unfold Rw; rw [hs2.block w.heap.size (by exact hq0.lt) (by omega)]; exact hq0); subst hx)
      | (refine step_copy_splice rfl (.tmp 4) (.tmp 6) 24 24 rfl 5 Tryd.underlying24 Tryd.info5s _ _ 32 32 32 _ rfl rfl (w.heap.size + 1) 0 (cellsOf zero32) 28 (by exact hg2) (cellsOf row) HCL.out (fun _ => ⟨rfl, _, rfl, hcl⟩) (by rw [HCL.out]; exact Nat.le_refl _) (cellsOf_one row) (w.heap.size + 1) _ (Below.refl _ _) (Nat.le_refl _) ?_; intro w3 HG3 B3))
  have hg3 : Rw w3 (w.heap.size + 1) row 28 := by
    have h := HG3.out
    rw [splice_all _ _ (HCL.out.trans hzl.out.symm)] at h
    exact h
  have hq3 : Rw w3 w.heap.size zero32 28 := by
    unfold Rw
    rw [B3.block _ (by omega)]
    exact hq2
  have hs2' : Rstep b w w2 := (Rstep.of_below B0.drew (Nat.le_refl _)).trans hs2
  have hs3 : Rstep b w w3 := ⟨B3.os.trans hs2'.os, B3.tape.trans hs2'.tape, B3.output.trans hs2'.output, Nat.le_trans hs2'.size B3.size, fun k hk hb => (B3.block k (by omega)).trans (hs2'.block k hk hb)⟩
  have hr3 : Rf w3 b v2 zs2 e2 := hr2.keep (B3.block b (by omega)) (fun k hk _ => B3.block k (by
    rcases hv2 with h | h
    · have := hv k (by rw [← h]; exact hk); omega
    · rw [h] at hk; cases hk))
  clear HG3 B3 hg2 hq2 hcl hbx hr2 hs2 hs2' HR hr0 hg0 hq0 B0
  have hsz : (cellsOf row).toArray.size = 32 := by simp [cellsOf, HL.out]
  have hth : w3.there w.heap.size 0 (cellsOf row).toArray.size := by rw [hsz]; exact hq3.there
  have HI : Hid ((Tryd.prog.info? 28).map (·.size) = some (cellsOf row).toArray.size) := by show _ = _; rw [hsz]; exact Tryd.info28
  have HI2 : Hid ((Tryd.prog.info? 28).map (·.size) = some (cellsOf row).length) := by show _ = _; rw [HCL.out]; exact Tryd.info28
  have hq4 := hq3.put (zs := row) (by rw [HL.out]; rfl)
  have hrest := setCells_rest w.heap.size (cellsOf row) 0 w3
  have hr4 : Rf (w3.setCells w.heap.size 0 (cellsOf row)) b v2 zs2 e2 := hr3.keep (setCells_other _ _ (by omega) _ _ _) (fun k hk _ => setCells_other _ _ (by
    rcases hv2 with h | h
    · have := hv k (by rw [← h]; exact hk); omega
    · rw [h] at hk; cases hk) _ _ _)
  have S : Fleft w b v (w3.setCells w.heap.size 0 (cellsOf row)) zs2 e2 := by
    refine ⟨v2, hr4, ⟨?_, ?_, ?_, ?_, ?_⟩, hv2⟩
    · exact hrest.1.trans hs3.os
    · exact hrest.2.1.trans hs3.tape
    · exact hrest.2.2.1.trans hs3.output
    · rw [hrest.2.2.2]; exact hs3.size
    · intro k hk hkb
      rw [setCells_other _ _ (by omega)]
      exact hs3.block k hk hkb
  clear hsz hrest hr4 hr3 hs3
  go_wp2_with (first
    | (refine wpList_load_mid rfl 28 (.tmp 3) rfl (w.heap.size + 1) 0 rfl (cellsOf row) _ hg3.range Tryd.underlying28 rfl HI2.out ?_)
    | (refine wpList_store_mid rfl 28 (.tmp 2) (.tmp 8) rfl w.heap.size 0 (cellsOf row).toArray rfl rfl hth HI.out (all_oneCell_toArray (cellsOf_one row)) ?_))
  exact bodyPost_ret (results_cell_row rfl _ _ w.heap.size 28 (cellsOf row).toArray (0, 0) _ rfl hq4 Tryd.underlying28 rfl HI.out) rfl ⟨rfl, S⟩
end Go.Proofs.YtamifgaaalclcaaDoor
