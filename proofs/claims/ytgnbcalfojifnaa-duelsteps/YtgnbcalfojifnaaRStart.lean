/-
  The document's Start.
-/
import Derived.Test.YtgnbcalfojifnaaLaw
namespace Go.Proofs.Ytgnbcalfojifnaa
open Go.RowKit
set_option maxRecDepth 20000 in
set_option maxHeartbeats 1000000 in
theorem rStart_any (seed : Int) (w : World) : Calls Try.prog 20 #[.int .u32 seed] w fun e w' => e = .returned (.agg (stV (startS seed)).toArray) ∧ Below w.heap.size w w' := by
  obtain ⟨os, hos⟩ : ∃ os, os = zeroS := ⟨_, rfl⟩
  have HZ : Hid ((Try.prog.info? 30).bind (·.zero) = some (.agg os.toArray)) := by rw [hos]; exact Try.zero30
  have hol : os.length = 20 := by rw [hos]; rfl
  have HSo : Hid ((Try.prog.info? 30).map (·.size) = some os.length) := by rw [hol]; exact Try.size30
  obtain ⟨ds, hds⟩ : ∃ ds, ds = stV (startS seed) := ⟨_, rfl⟩
  have hdl : ds.length = 20 := by rw [hds]; rfl
  have HSd : Hid ((Try.prog.info? 30).map (·.size) = some ds.length) := by rw [hdl]; exact Try.size30
  have HSl : Hid (os.length = ds.length) := by rw [hol, hdl]; exact hid_into rfl
  have HDo : Hid (∀ v ∈ ds, v.oneCell' = true) := by rw [hds]; exact hid_into (by intro v hv; simp only [stV, startS, zeros, List.map_cons, List.map_nil, List.cons_append, List.nil_append, List.mem_cons, List.not_mem_nil, or_false] at hv; rcases hv with rfl | rfl | rfl | rfl | rfl | rfl | rfl | rfl | rfl | rfl | rfl | rfl | rfl | rfl | rfl | rfl | rfl | rfl | rfl | rfl <;> rfl)
  rw [← hds]
  by_cases h0 : seed = 0
  · subst h0
    have HB : Hid (Try.prog.built 30 [(2, .int .u32 1)] = some ds.toArray) := by rw [hds]; exact built28 1
    clear hds hos hol hdl
    go_enter Try.func20, Try.ntmps20
    go_wp2_with (first
      | (refine wpList_alloc_row rfl 30 rfl os HZ.out ?_; intro W2 hr2 B2 HS2)
      | (refine wpList_build_row rfl 30 #[(2, .tmp 5)] rfl ds [(2, .int .u32 1)] rfl HB.out ?_)
      | (refine wpList_store_rw rfl 30 (.tmp 2) (.tmp 6) rfl w.heap.size os ds 30 rfl rfl hr2 HSo HSl HDo.out ?_; intro W4 hr4 O4))
    exact ret_row rfl rfl rfl hr4 Try.underlying30 rfl HSd ⟨rfl, B2.trans (O4.below (Nat.le_refl _))⟩
  · have HB : Hid (Try.prog.built 30 [(2, .int .u32 seed)] = some ds.toArray) := by rw [hds, startS, if_neg h0]; exact built28 seed
    have hb : (seed == 0) = false := by simp [h0]
    clear hds hos hol hdl
    go_enter Try.func20, Try.ntmps20
    go_wp2_with (first
      | (refine wpList_alloc_row rfl 30 rfl os HZ.out ?_; intro W2 hr2 B2 HS2)
      | (refine wpList_build_row rfl 30 #[(2, .tmp 5)] rfl ds [(2, .int .u32 seed)] rfl HB.out ?_)
      | (refine wpList_store_rw rfl 30 (.tmp 2) (.tmp 6) rfl w.heap.size os ds 30 rfl rfl hr2 HSo HSl HDo.out ?_; intro W4 hr4 O4))
    exact ret_row rfl rfl rfl hr4 Try.underlying30 rfl HSd ⟨rfl, B2.trans (O4.below (Nat.le_refl _))⟩
end Go.Proofs.Ytgnbcalfojifnaa
