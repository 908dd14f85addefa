/-
  DiskPlays: the document's Write, by contract: of a file that is there, and of a new one.
-/
import Derived.Test.YthkgmnmdojmfgaaPlayWrt
namespace Go.Proofs.Ythkgmnmdojmfgaa
open Go.RowKit Go.Maps Go.Sort

set_option maxHeartbeats 3200000 in
set_option maxRecDepth 20000 in
theorem write3_old (base wb g cap : Nat) (room left : Int) (L : List Fl3) (x : List UInt8) (ap : Option Addr) (cp : Nat) (ps : List Int) (f : Fl3) (w : World) (h : Rk w base wb (.slice (some ⟨g, 0, none⟩) L.length cap) room left L) (hf : L[spotN (names3 L) x]? = some f) (hx : f.nm = x) (hm : mayE left [x] = 0) (hxl : x.length ≤ 140737488355328) (hT : tot3 L ≤ 1099511627776) (hp : ps.length ≤ 1099511627776) (hfit : (tot3 L : Int) + (ps.length : Int) ≤ room) (hb : Bs w (.slice ap ps.length cp) ps) (hby : ∀ z ∈ ps, 0 ≤ z ∧ z < 256) (h0 : -9223372036854775807 ≤ left) (h1 : left ≤ 9223372036854775807) :
    Calls Try.prog 35 #[.pointer (some ⟨wb, 0, none⟩), encStr x, .slice ap ps.length cp] w fun e w' => e = .returned (.int .i64 0) ∧ ∃ v',
      Rk w' base wb (.slice (some ⟨g, 0, none⟩) (L.set (spotN (names3 L) x) ⟨f.nm, v', f.zs ++ ps, f.l⟩).length cap) room (didL left) (L.set (spotN (names3 L) x) ⟨f.nm, v', f.zs ++ ps, f.l⟩) ∧ (∀ q, v'.ownBlock = some q → w.heap.size ≤ q) ∧ Rg w wb (.slice (some ⟨g, 0, none⟩) L.length cap) w' := by
  have hA : Below w.heap.size w (w.alloc (.cells #[encStr x] 9)) := (Below.refl _ _).alloc (Nat.le_refl _) _
  have hr := h.below hA
  have hxs : ∀ n ∈ [x], n.length ≤ 140737488355328 := by
    intro n hn
    have e : n = x := by simpa using hn
    rw [e]; exact hxl
  have hxc := one_str w x
  have C1 := may_any wb w.heap.size 1 room _ left [x] _ hr.blk (by simp) hxs hxc
  rw [hm] at C1
  have C2 := spot_any base wb _ room left L x _ hr
  have few := h.few
  have CU := fun (W : World) (hW : Rk W base wb (.slice (some ⟨g, 0, none⟩) L.length cap) room left L) => used_any base wb _ room left L W hW hT
  rw [decide_eq_true (show (names3 L)[spotN (names3 L) x]? = some x by simp [names3] at hf ⊢; exact ⟨f, hf, hx⟩)] at C2
  have hft : f.zs.length ≤ tot3 L := by
    have := tot3_take hf
    have := tot3_le L (spotN (names3 L) x + 1)
    omega
  have q1 : IntKind.i64.wrap ((tot3 L : Int) + (ps.length : Int)) = (tot3 L : Int) + (ps.length : Int) := by rw [IntKind.wrap_i64]; omega
  have g1 : decide ((tot3 L : Int) + (ps.length : Int) > room) = false := by rw [decide_eq_false_iff_not]; omega
  generalize spotN (names3 L) x = k at *
  have hk : k < L.length := (List.getElem?_eq_some_iff.1 hf).1
  obtain ⟨af5, cf5, ef5, hform⟩ := ((h.each f (List.mem_of_getElem? hf)).1).form
  clear hform
  have f1 : (0 : Int) ≤ (k : Int) := by omega
  have f2 : (k : Int) < (L.length : Int) := by omega
  generalize tot3 L = tt at *
  go_enter Try.func35, Try.ntmps35
  go_wp2_with (first | (refine wpList_made_str _ rfl (.tmp 12) rfl x rfl ?_) | (go_at_call 58; refine C1.mono ?_; rintro e w1 ⟨rfl, rfl⟩) | (go_at_call 59; refine C2.mono ?_; rintro e w2 ⟨rfl, hs⟩; have h2 := hr.sm hs; have hcb := h2.blk.cell 1; simp at hcb; have hcr := h2.blk.cell 0; simp at hcr))
  go_quiet ((go_at_call 46; refine Calls.quiet_of_same ((CU _ (h2.sm (Sm.drewN _ _))).mono fun _ _ h => ⟨h.1, h.2.symm⟩)))
  go_wp2_with fail
  have hf5 := hf
  have hb2 : Bs (w2.drewN nq) (.slice ap ps.length cp) ps := (hb.below hA (Nat.le_refl _)).below ((hs.trans (Sm.drewN _ _)).below _) (Nat.le_refl _)
  have h5 := h2.sm (Sm.drewN w2 nq)
  have hB5 : Below w.heap.size w (w2.drewN nq) := hA.trans ((hs.trans (Sm.drewN _ _)).below _)
  clear C1 C2 hxs hxc CU h2 hcb hcr hr hs hb h
  generalize w2.drewN nq = W at *
  have hcb5 := h5.blk.cell 1
  simp at hcb5
  have hcf5 := (h5.at k f hf5).2.1
  have hof5 := (h5.each f (List.mem_of_getElem? hf5)).1
  rw [ef5] at hcf5 hof5
  have hg5 := h5.glt
  have hwb5 := h5.lt
  have hA5 : Below W.heap.size W (W.alloc (.cells #[] 5)) := (Below.refl _ _).alloc (Nat.le_refl _) _
  have hO5 : Ow (W.alloc (.cells #[] 5)) W.heap.size (.slice (some ⟨W.heap.size, 0, none⟩) 0 0) [] := Ow_of_block (heap_alloc_new W _) (by simp) (Nat.le_refl _)
  have hS : W.drew.cell? ⟨wb, 1, none⟩ = some (.slice (some ⟨g, 0, none⟩) L.length cap) ∧ W.drew.cell? ⟨g, k * 3 + 1, none⟩ = some (.slice af5 f.zs.length cf5) := ⟨hcb5, hcf5⟩
  refine wp_region_L 19 (fun w' => w'.cell? ⟨wb, 1, none⟩ = some (.slice (some ⟨g, 0, none⟩) L.length cap) ∧ w'.cell? ⟨g, k * 3 + 1, none⟩ = some (.slice af5 f.zs.length cf5)) (by kernel_rfl) ?_
  refine' wpL_take 0 72 rfl rfl (by kernel_rfl) (by kernel_rfl) (by kernel_rfl) (by kernel_rfl) (fun _ _ _ h => h) (by rfl) hS ?y72 ?r72
  case y72 => (intro u hSu; obtain ⟨hSu1, hSu2⟩ := hSu; go_simp; try with_reducible rfl)
  simp only [Act.put, List.setIfInBounds_toArray, List.set_cons_zero, List.set_cons_succ]
  refine' wpL_take 1 73 rfl rfl (by kernel_rfl) (by kernel_rfl) (by kernel_rfl) (by kernel_rfl) (fun _ _ _ h => h) (by rfl) hS ?y73 ?r73
  case y73 => (intro u hSu; obtain ⟨hSu1, hSu2⟩ := hSu; go_simp; try with_reducible rfl)
  simp only [Act.put, List.setIfInBounds_toArray, List.set_cons_zero, List.set_cons_succ]
  refine' wpL_take 2 74 rfl rfl (by kernel_rfl) (by kernel_rfl) (by kernel_rfl) (by kernel_rfl) (fun _ _ _ h => h) (by rfl) hS ?y74 ?r74
  case y74 => (intro u hSu; obtain ⟨hSu1, hSu2⟩ := hSu; go_simp; try with_reducible rfl)
  simp only [Act.put, List.setIfInBounds_toArray, List.set_cons_zero, List.set_cons_succ]
  refine' wpL_take 3 75 rfl rfl (by kernel_rfl) (by kernel_rfl) (by kernel_rfl) (by kernel_rfl) (fun _ _ _ h => h) (by rfl) hS ?y75 ?r75
  case y75 => (intro u hSu; obtain ⟨hSu1, hSu2⟩ := hSu; go_simp; try with_reducible rfl)
  simp only [Act.put, List.setIfInBounds_toArray, List.set_cons_zero, List.set_cons_succ]
  refine' wpL_take 4 76 rfl rfl (by kernel_rfl) (by kernel_rfl) (by kernel_rfl) (by kernel_rfl) (fun _ _ _ h => h) (by rfl) hS ?y76 ?r76
  case y76 => (intro u hSu; obtain ⟨hSu1, hSu2⟩ := hSu; go_simp; try with_reducible rfl)
  simp only [Act.put, List.setIfInBounds_toArray, List.set_cons_zero, List.set_cons_succ]
  refine' wpL_take 6 78 rfl rfl (by kernel_rfl) (by kernel_rfl) (by kernel_rfl) (by kernel_rfl) (fun _ _ _ h => h) (by rfl) hS ?y78 ?r78
  case y78 => (intro u hSu; obtain ⟨hSu1, hSu2⟩ := hSu; go_simp; try with_reducible rfl)
  simp only [Act.put, List.setIfInBounds_toArray, List.set_cons_zero, List.set_cons_succ]
  refine' wpL_take 7 79 rfl rfl (by kernel_rfl) (by kernel_rfl) (by kernel_rfl) (by kernel_rfl) (fun _ _ _ h => h) (by rfl) hS ?y79 ?r79
  case y79 => (intro u hSu; obtain ⟨hSu1, hSu2⟩ := hSu; go_simp; try with_reducible rfl)
  simp only [Act.put, List.setIfInBounds_toArray, List.set_cons_zero, List.set_cons_succ]
  refine' wpL_take 8 80 rfl rfl (by kernel_rfl) (by kernel_rfl) (by kernel_rfl) (by kernel_rfl) (fun _ _ _ h => h) (by rfl) hS ?y80 ?r80
  case y80 => (intro u hSu; obtain ⟨hSu1, hSu2⟩ := hSu; go_simp; try with_reducible rfl)
  simp only [Act.put, List.setIfInBounds_toArray, List.set_cons_zero, List.set_cons_succ]
  refine' wpL_take 9 81 rfl rfl (by kernel_rfl) (by kernel_rfl) (by kernel_rfl) (by kernel_rfl) (fun _ _ _ h => h) (by rfl) hS ?y81 ?r81
  case y81 => (intro u hSu; obtain ⟨hSu1, hSu2⟩ := hSu; go_simp; try with_reducible rfl)
  simp only [Act.put, List.setIfInBounds_toArray, List.set_cons_zero, List.set_cons_succ]
  refine' wpL_take 10 82 rfl rfl (by kernel_rfl) (by kernel_rfl) (by kernel_rfl) (by kernel_rfl) (fun _ _ _ h => h) (by rfl) hS ?y82 ?r82
  case y82 => (intro u hSu; obtain ⟨hSu1, hSu2⟩ := hSu; go_simp; try with_reducible rfl)
  simp only [Act.put, List.setIfInBounds_toArray, List.set_cons_zero, List.set_cons_succ]
  refine' wpL_take 11 83 rfl rfl (by kernel_rfl) (by kernel_rfl) (by kernel_rfl) (by kernel_rfl) (fun _ _ _ h => h) (by rfl) hS ?y83 ?r83
  case y83 => (intro u hSu; obtain ⟨hSu1, hSu2⟩ := hSu; go_simp; try with_reducible rfl)
  simp only [Act.put, List.setIfInBounds_toArray, List.set_cons_zero, List.set_cons_succ]
  refine' wpL_take 12 84 rfl rfl (by kernel_rfl) (by kernel_rfl) (by kernel_rfl) (by kernel_rfl) (fun _ _ _ h => h) (by rfl) hS ?y84 ?r84
  case y84 => (intro u hSu; obtain ⟨hSu1, hSu2⟩ := hSu; go_simp; try with_reducible rfl)
  simp only [Act.put, List.setIfInBounds_toArray, List.set_cons_zero, List.set_cons_succ]
  refine' wpL_take 13 85 rfl rfl (by kernel_rfl) (by kernel_rfl) (by kernel_rfl) (by kernel_rfl) (fun _ _ _ h => h) (by rfl) hS ?y85 ?r85
  case y85 => (intro u hSu; obtain ⟨hSu1, hSu2⟩ := hSu; go_simp; try with_reducible rfl)
  simp only [Act.put, List.setIfInBounds_toArray, List.set_cons_zero, List.set_cons_succ]
  refine' wpL_take 15 87 rfl rfl (by kernel_rfl) (by kernel_rfl) (by kernel_rfl) (by kernel_rfl) (fun _ _ _ h => h) (by rfl) hS ?y87 ?r87
  case y87 => (intro u hSu; obtain ⟨hSu1, hSu2⟩ := hSu; go_simp; try with_reducible rfl)
  simp only [Act.put, List.setIfInBounds_toArray, List.set_cons_zero, List.set_cons_succ]
  refine wpL_one (i := 5) (by kernel_rfl) rfl (fun K hK => ?_)
  rw [if_pos (by rfl)]
  go_simp
  refine hK.out _ _ (fun _ => ⟨by exact (h5.below hA5).blk.cell 1, by exact ef5 ▸ ((h5.below hA5).at k f hf5).2.1⟩) ?_
  clear hK K
  refine wpL_one (i := 14) (by kernel_rfl) rfl (fun K hK => ?_)
  refine step_append_bs rfl (.tmp 77) (.tmp 85) rfl W.heap.size (.slice (some ⟨W.heap.size, 0, none⟩) 0 0) [] rfl (by exact hO5) (.slice af5 f.zs.length cf5) f.zs rfl (by exact hof5.bs.below hA5.drew (Nat.le_refl _)) (by simp; omega) (by simp) ?_
  intro ao6 cap6 w6 ho6 hg6 _
  have hB6 : Below W.heap.size W w6 := hA5.drew.trans (grown_below hg6 (by exact hO5) (by simp))
  have h6 := h5.below hB6
  refine hK.out _ _ (fun _ => ⟨by exact h6.blk.cell 1, by exact ef5 ▸ (h6.at k f hf5).2.1⟩) ?_
  change wpL Try.prog _ _ _ _ _ _ _ (Act.put _ (some 86) _) _
  simp only [List.nil_append, List.length_nil, Nat.zero_add] at ho6 ⊢
  simp only [Act.put, List.setIfInBounds_toArray, List.set_cons_zero, List.set_cons_succ]
  clear hK K hg6
  refine wpL_one (i := 16) (by kernel_rfl) rfl (fun K hK => ?_)
  refine step_append_bs rfl (.tmp 86) (.tmp 87) rfl W.heap.size (.slice ao6 f.zs.length cap6) f.zs rfl ho6 (.slice ap ps.length cp) ps rfl (hb2.below hB6 (Nat.le_refl _)) (by omega) hB6.size ?_
  intro ao7 cap7 w7 ho7 hg7 _
  have hB7 : Below W.heap.size W w7 := hB6.trans (grown_below hg7 ho6 hB6.size)
  have h7 := h5.below hB7
  have hc7 := h7.blk.cell 1
  simp at hc7
  have hc7f := (h7.at k f hf5).2.1
  rw [ef5] at hc7f
  have hfr := h7.frz (k * 3 + 1)
  refine hK.out _ _ (fun _ => ⟨hc7, hc7f⟩) ?_
  change wpL Try.prog _ _ _ _ _ _ _ (Act.put _ (some 88) _) _
  simp only [Act.put, List.setIfInBounds_toArray, List.set_cons_zero, List.set_cons_succ]
  clear hK K hg7
  have hv7 : ∀ b, (Value.slice ao7 (f.zs.length + ps.length) cap7).ownBlock = some b → W.heap.size ≤ b := fun b hb => (World.ownsRow.lt ho7 b hb).1
  refine wpL_one (i := 17) (by kernel_rfl) rfl (fun K hK => ?_)
  rw [if_pos (by rfl)]
  go_simp
  refine hK.out _ _ (fun _ => ⟨hc7, hc7f⟩) ?_
  clear hK K
  refine wpL_one (i := 18) (by kernel_rfl) rfl (fun K hK => ?_)
  rw [if_pos (by rfl)]
  go_simp
  refine hK.out _ _ (fun _ => ⟨hc7, hc7f⟩) ?_
  clear hK K
  refine wpL_one (i := 19) (by kernel_rfl) rfl (fun K hK => ?_)
  rw [if_pos (by rfl)]
  go_simp
  refine hK.out _ _ (fun e => absurd rfl e) ?_
  clear hK K
  refine wpL_done (by kernel_rfl) ?_ _
  have hmk := h7.setB hf5 (ho7.mono (Nat.le_trans h5.wbb (Nat.le_of_lt hwb5))) (fun z hz => by
    rcases List.mem_append.1 hz with hz | hz
    · exact (h5.each f (List.mem_of_getElem? hf5)).2.1 z hz
    · exact hby z hz) (by have := (h5.each f (List.mem_of_getElem? hf5)).2.2.1; simp; omega) (fun b hb => by have := hv7 b hb; omega)
  have C3 := did_any wb room _ left _ hmk.blk h0 h1
  have hdid := hmk.did
  have hrg7 := (((Rg.of_below (wb := wb) (v := .slice (some ⟨g, 0, none⟩) L.length cap) hB7).set g (k * 3 + 1) (.slice ao7 (f.zs.length + ps.length) cap7) (Or.inr (by simp [Value.ownBlock])))).did left
  clear hmk h7 h6 ho7 ho6 hof5 hS hO5 hcb5 hcf5 hc7 hc7f hfr
  go_wp2_with fail
  refine C3.mono ?_
  rintro e w8 ⟨rfl, rfl⟩
  go_wp2
  go_ret
  exact ⟨rfl, _, hdid, fun q hq => Nat.le_trans hB5.size (hv7 q hq), ⟨hrg7.os.trans hB5.os, hrg7.tape.trans hB5.tape, hrg7.output.trans hB5.output, Nat.le_trans hB5.size hrg7.size, fun q hq h1 h2 => (hrg7.block q (Nat.lt_of_lt_of_le hq hB5.size) h1 h2).trans (hB5.block q hq)⟩⟩
end Go.Proofs.Ythkgmnmdojmfgaa
