/-
  Joined from: PlayOld, PlayNew, PlayRen.
-/
import Derived.Test.YtnkjhooeklodcaaGreatDoorM17
section
/-
  DiskPlays: the document's Write, by contract: of a file that is there, and of a new one.
-/
namespace Go.Proofs.YtnkjhooeklodcaaGreatDoor
open Go.RowKit Go.Maps Go.Sort

set_option maxHeartbeats 3200000 in
set_option maxRecDepth 20000 in
theorem write3_old (base wb g cap : Nat) (room left : Int) (L : List Fl3) (x : List UInt8) (ap : Option Addr) (cp : Nat) (ps : List Int) (f : Fl3) (w : World) (h : Rk w base wb (.slice (some ⟨g, 0, none⟩) L.length cap) room left L) (hf : L[spotN (names3 L) x]? = some f) (hx : f.nm = x) (hm : mayE left [x] = 0) (hxl : x.length ≤ 140737488355328) (hT : tot3 L ≤ 1099511627776) (hp : ps.length ≤ 1099511627776) (hfit : (tot3 L : Int) + (ps.length : Int) ≤ room) (hb : Bs w (.slice ap ps.length cp) ps) (hby : ∀ z ∈ ps, 0 ≤ z ∧ z < 256) (h0 : -9223372036854775807 ≤ left) (h1 : left ≤ 9223372036854775807) :
    Calls Tryz.prog 30 #[.pointer (some ⟨wb, 0, none⟩), encStr x, .slice ap ps.length cp] w fun e w' => e = .returned (.int .i64 0) ∧ ∃ v',
      Rk w' base wb (.slice (some ⟨g, 0, none⟩) (L.set (spotN (names3 L) x) ⟨f.nm, v', f.zs ++ ps, f.l⟩).length cap) room (didL left) (L.set (spotN (names3 L) x) ⟨f.nm, v', f.zs ++ ps, f.l⟩) ∧ (∀ q, v'.ownBlock = some q → w.heap.size ≤ q) ∧ Rg w wb (.slice (some ⟨g, 0, none⟩) L.length cap) w' := by
  have hA : Below w.heap.size w (w.alloc (.cells #[encStr x] 9)) := (Below.refl _ _).alloc (Nat.le_refl _) _
  have hr := h.below hA
  have hxs : ∀ n ∈ [x], n.length ≤ 140737488355328 := by
    intro n hn
    have e : n = x := by simpa using hn
    rw [e]; exact hxl
  have hxc := one_str w x
  have C1 := may_any wb w.heap.size 1 room _ left [x] _ hr.blk (by simp) hxs hxc
  rw [hm] at C1
  have C2 := spot_any base wb _ room left L x _ hr
  have few := h.few
  have CU := fun (W : World) (hW : Rk W base wb (.slice (some ⟨g, 0, none⟩) L.length cap) room left L) => used_any base wb _ room left L W hW hT
  rw [decide_eq_true (show (names3 L)[spotN (names3 L) x]? = some x by simp [names3] at hf ⊢; exact ⟨f, hf, hx⟩)] at C2
  have hft : f.zs.length ≤ tot3 L := by
    have := tot3_take hf
    have := tot3_le L (spotN (names3 L) x + 1)
    omega
  have q1 : IntKind.i64.wrap ((tot3 L : Int) + (ps.length : Int)) = (tot3 L : Int) + (ps.length : Int) := by rw [IntKind.wrap_i64]; omega
  have g1 : decide ((tot3 L : Int) + (ps.length : Int) > room) = false := by rw [decide_eq_false_iff_not]; omega
  generalize spotN (names3 L) x = k at *
  have hk : k < L.length := (List.getElem?_eq_some_iff.1 hf).1
  obtain ⟨af5, cf5, ef5, hform⟩ := ((h.each f (List.mem_of_getElem? hf)).1).form
  clear hform
  have f1 : (0 : Int) ≤ (k : Int) := by omega
  have f2 : (k : Int) < (L.length : Int) := by omega
  generalize tot3 L = tt at *
  go_enter Tryz.func30, Tryz.ntmps30
  go_wp2_with (first | (refine wpList_made_str _ rfl (.tmp 12) rfl x rfl ?_) | (go_at_call 68; refine C1.mono ?_; rintro e w1 ⟨rfl, rfl⟩) | (go_at_call 69; refine C2.mono ?_; rintro e w2 ⟨rfl, hs⟩; have h2 := hr.sm hs; have hcb := h2.blk.cell 1; simp at hcb; have hcr := h2.blk.cell 0; simp at hcr))
  go_quiet ((go_at_call 70; refine Calls.quiet_of_same ((CU _ (h2.sm (Sm.drewN _ _))).mono fun _ _ h => ⟨h.1, h.2.symm⟩)))
  go_wp2_with fail
  have hf5 := hf
  have hb2 : Bs (w2.drewN nq) (.slice ap ps.length cp) ps := (hb.below hA (Nat.le_refl _)).below ((hs.trans (Sm.drewN _ _)).below _) (Nat.le_refl _)
  have h5 := h2.sm (Sm.drewN w2 nq)
  have hB5 : Below w.heap.size w (w2.drewN nq) := hA.trans ((hs.trans (Sm.drewN _ _)).below _)
  clear C1 C2 hxs hxc CU h2 hcb hcr hr hs hb h
  generalize w2.drewN nq = W at *
  have hcb5 := h5.blk.cell 1
  simp at hcb5
  have hcf5 := (h5.at k f hf5).2.1
  have hof5 := (h5.each f (List.mem_of_getElem? hf5)).1
  rw [ef5] at hcf5 hof5
  have hg5 := h5.glt
  have hwb5 := h5.lt
  have hA5 : Below W.heap.size W (W.alloc (.cells #[] 5)) := (Below.refl _ _).alloc (Nat.le_refl _) _
  have hO5 : Ow (W.alloc (.cells #[] 5)) W.heap.size (.slice (some ⟨W.heap.size, 0, none⟩) 0 0) [] := Ow_of_block (heap_alloc_new W _) (by simp) (Nat.le_refl _)
  have hS : W.drew.cell? ⟨wb, 1, none⟩ = some (.slice (some ⟨g, 0, none⟩) L.length cap) ∧ W.drew.cell? ⟨g, k * 3 + 1, none⟩ = some (.slice af5 f.zs.length cf5) := ⟨hcb5, hcf5⟩
  refine wp_region_L 19 (fun w' => w'.cell? ⟨wb, 1, none⟩ = some (.slice (some ⟨g, 0, none⟩) L.length cap) ∧ w'.cell? ⟨g, k * 3 + 1, none⟩ = some (.slice af5 f.zs.length cf5)) (by kernel_rfl) ?_
  refine' wpL_take 0 72 rfl rfl (by kernel_rfl) (by kernel_rfl) (by kernel_rfl) (by kernel_rfl) (fun _ _ _ h => h) (by rfl) hS ?y72 ?r72
  case y72 => (intro u hSu; obtain ⟨hSu1, hSu2⟩ := hSu; go_simp; try with_reducible rfl)
  simp only [Act.put, List.setIfInBounds_toArray, List.set_cons_zero, List.set_cons_succ]
  refine' wpL_take 1 73 rfl rfl (by kernel_rfl) (by kernel_rfl) (by kernel_rfl) (by kernel_rfl) (fun _ _ _ h => h) (by rfl) hS ?y73 ?r73
  case y73 => (intro u hSu; obtain ⟨hSu1, hSu2⟩ := hSu; go_simp; try with_reducible rfl)
  simp only [Act.put, List.setIfInBounds_toArray, List.set_cons_zero, List.set_cons_succ]
  refine' wpL_take 2 74 rfl rfl (by kernel_rfl) (by kernel_rfl) (by kernel_rfl) (by kernel_rfl) (fun _ _ _ h => h) (by rfl) hS ?y74 ?r74
  case y74 => (intro u hSu; obtain ⟨hSu1, hSu2⟩ := hSu; go_simp; try with_reducible rfl)
  simp only [Act.put, List.setIfInBounds_toArray, List.set_cons_zero, List.set_cons_succ]
  refine' wpL_take 3 75 rfl rfl (by kernel_rfl) (by kernel_rfl) (by kernel_rfl) (by kernel_rfl) (fun _ _ _ h => h) (by rfl) hS ?y75 ?r75
  case y75 => (intro u hSu; obtain ⟨hSu1, hSu2⟩ := hSu; go_simp; try with_reducible rfl)
  simp only [Act.put, List.setIfInBounds_toArray, List.set_cons_zero, List.set_cons_succ]
  refine' wpL_take 4 76 rfl rfl (by kernel_rfl) (by kernel_rfl) (by kernel_rfl) (by kernel_rfl) (fun _ _ _ h => h) (by rfl) hS ?y76 ?r76
  case y76 => (intro u hSu; obtain ⟨hSu1, hSu2⟩ := hSu; go_simp; try with_reducible rfl)
  simp only [Act.put, List.setIfInBounds_toArray, List.set_cons_zero, List.set_cons_succ]
  refine' wpL_take 6 78 rfl rfl (by kernel_rfl) (by kernel_rfl) (by kernel_rfl) (by kernel_rfl) (fun _ _ _ h => h) (by rfl) hS ?y78 ?r78
  case y78 => (intro u hSu; obtain ⟨hSu1, hSu2⟩ := hSu; go_simp; try with_reducible rfl)
  simp only [Act.put, List.setIfInBounds_toArray, List.set_cons_zero, List.set_cons_succ]
  refine' wpL_take 7 79 rfl rfl (by kernel_rfl) (by kernel_rfl) (by kernel_rfl) (by kernel_rfl) (fun _ _ _ h => h) (by rfl) hS ?y79 ?r79
  case y79 => (intro u hSu; obtain ⟨hSu1, hSu2⟩ := hSu; go_simp; try with_reducible rfl)
  simp only [Act.put, List.setIfInBounds_toArray, List.set_cons_zero, List.set_cons_succ]
  refine' wpL_take 8 80 rfl rfl (by kernel_rfl) (by kernel_rfl) (by kernel_rfl) (by kernel_rfl) (fun _ _ _ h => h) (by rfl) hS ?y80 ?r80
  case y80 => (intro u hSu; obtain ⟨hSu1, hSu2⟩ := hSu; go_simp; try with_reducible rfl)
  simp only [Act.put, List.setIfInBounds_toArray, List.set_cons_zero, List.set_cons_succ]
  refine' wpL_take 9 81 rfl rfl (by kernel_rfl) (by kernel_rfl) (by kernel_rfl) (by kernel_rfl) (fun _ _ _ h => h) (by rfl) hS ?y81 ?r81
  case y81 => (intro u hSu; obtain ⟨hSu1, hSu2⟩ := hSu; go_simp; try with_reducible rfl)
  simp only [Act.put, List.setIfInBounds_toArray, List.set_cons_zero, List.set_cons_succ]
  refine' wpL_take 10 82 rfl rfl (by kernel_rfl) (by kernel_rfl) (by kernel_rfl) (by kernel_rfl) (fun _ _ _ h => h) (by rfl) hS ?y82 ?r82
  case y82 => (intro u hSu; obtain ⟨hSu1, hSu2⟩ := hSu; go_simp; try with_reducible rfl)
  simp only [Act.put, List.setIfInBounds_toArray, List.set_cons_zero, List.set_cons_succ]
  refine' wpL_take 11 83 rfl rfl (by kernel_rfl) (by kernel_rfl) (by kernel_rfl) (by kernel_rfl) (fun _ _ _ h => h) (by rfl) hS ?y83 ?r83
  case y83 => (intro u hSu; obtain ⟨hSu1, hSu2⟩ := hSu; go_simp; try with_reducible rfl)
  simp only [Act.put, List.setIfInBounds_toArray, List.set_cons_zero, List.set_cons_succ]
  refine' wpL_take 12 84 rfl rfl (by kernel_rfl) (by kernel_rfl) (by kernel_rfl) (by kernel_rfl) (fun _ _ _ h => h) (by rfl) hS ?y84 ?r84
  case y84 => (intro u hSu; obtain ⟨hSu1, hSu2⟩ := hSu; go_simp; try with_reducible rfl)
  simp only [Act.put, List.setIfInBounds_toArray, List.set_cons_zero, List.set_cons_succ]
  refine' wpL_take 13 85 rfl rfl (by kernel_rfl) (by kernel_rfl) (by kernel_rfl) (by kernel_rfl) (fun _ _ _ h => h) (by rfl) hS ?y85 ?r85
  case y85 => (intro u hSu; obtain ⟨hSu1, hSu2⟩ := hSu; go_simp; try with_reducible rfl)
  simp only [Act.put, List.setIfInBounds_toArray, List.set_cons_zero, List.set_cons_succ]
  refine' wpL_take 15 87 rfl rfl (by kernel_rfl) (by kernel_rfl) (by kernel_rfl) (by kernel_rfl) (fun _ _ _ h => h) (by rfl) hS ?y87 ?r87
  case y87 => (intro u hSu; obtain ⟨hSu1, hSu2⟩ := hSu; go_simp; try with_reducible rfl)
  simp only [Act.put, List.setIfInBounds_toArray, List.set_cons_zero, List.set_cons_succ]
  refine wpL_one (i := 5) (by kernel_rfl) rfl (fun K hK => ?_)
  rw [if_pos (by rfl)]
  go_simp
  refine hK.out _ _ (fun _ => ⟨by exact (h5.below hA5).blk.cell 1, by exact ef5 ▸ ((h5.below hA5).at k f hf5).2.1⟩) ?_
  clear hK K
  refine wpL_one (i := 14) (by kernel_rfl) rfl (fun K hK => ?_)
  refine step_append_bs rfl (.tmp 77) (.tmp 85) rfl W.heap.size (.slice (some ⟨W.heap.size, 0, none⟩) 0 0) [] rfl (by exact hO5) (.slice af5 f.zs.length cf5) f.zs rfl (by exact hof5.bs.below hA5.drew (Nat.le_refl _)) (by simp; omega) (by simp) ?_
  intro ao6 cap6 w6 ho6 hg6 _
  have hB6 : Below W.heap.size W w6 := hA5.drew.trans (grown_below hg6 (by exact hO5) (by simp))
  have h6 := h5.below hB6
  refine hK.out _ _ (fun _ => ⟨by exact h6.blk.cell 1, by exact ef5 ▸ (h6.at k f hf5).2.1⟩) ?_
  change wpL Tryz.prog _ _ _ _ _ _ _ (Act.put _ (some 86) _) _
  simp only [List.nil_append, List.length_nil, Nat.zero_add] at ho6 ⊢
  simp only [Act.put, List.setIfInBounds_toArray, List.set_cons_zero, List.set_cons_succ]
  clear hK K hg6
  refine wpL_one (i := 16) (by kernel_rfl) rfl (fun K hK => ?_)
  refine step_append_bs rfl (.tmp 86) (.tmp 87) rfl W.heap.size (.slice ao6 f.zs.length cap6) f.zs rfl ho6 (.slice ap ps.length cp) ps rfl (hb2.below hB6 (Nat.le_refl _)) (by omega) hB6.size ?_
  intro ao7 cap7 w7 ho7 hg7 _
  have hB7 : Below W.heap.size W w7 := hB6.trans (grown_below hg7 ho6 hB6.size)
  have h7 := h5.below hB7
  have hc7 := h7.blk.cell 1
  simp at hc7
  have hc7f := (h7.at k f hf5).2.1
  rw [ef5] at hc7f
  have hfr := h7.frz (k * 3 + 1)
  refine hK.out _ _ (fun _ => ⟨hc7, hc7f⟩) ?_
  change wpL Tryz.prog _ _ _ _ _ _ _ (Act.put _ (some 88) _) _
  simp only [Act.put, List.setIfInBounds_toArray, List.set_cons_zero, List.set_cons_succ]
  clear hK K hg7
  have hv7 : ∀ b, (Value.slice ao7 (f.zs.length + ps.length) cap7).ownBlock = some b → W.heap.size ≤ b := fun b hb => (World.ownsRow.lt ho7 b hb).1
  refine wpL_one (i := 17) (by kernel_rfl) rfl (fun K hK => ?_)
  rw [if_pos (by rfl)]
  go_simp
  refine hK.out _ _ (fun _ => ⟨hc7, hc7f⟩) ?_
  clear hK K
  refine wpL_one (i := 18) (by kernel_rfl) rfl (fun K hK => ?_)
  rw [if_pos (by rfl)]
  go_simp
  refine hK.out _ _ (fun _ => ⟨hc7, hc7f⟩) ?_
  clear hK K
  refine wpL_one (i := 19) (by kernel_rfl) rfl (fun K hK => ?_)
  rw [if_pos (by rfl)]
  go_simp
  refine hK.out _ _ (fun e => absurd rfl e) ?_
  clear hK K
  refine wpL_done (by kernel_rfl) ?_ _
  have hmk := h7.setB hf5 (ho7.mono (Nat.le_trans h5.wbb (Nat.le_of_lt hwb5))) (fun z hz => by
    rcases List.mem_append.1 hz with hz | hz
    · exact (h5.each f (List.mem_of_getElem? hf5)).2.1 z hz
    · exact hby z hz) (by have := (h5.each f (List.mem_of_getElem? hf5)).2.2.1; simp; omega) (fun b hb => by have := hv7 b hb; omega)
  have C3 := did_any wb room _ left _ hmk.blk h0 h1
  have hdid := hmk.did
  have hrg7 := (((Rg.of_below (wb := wb) (v := .slice (some ⟨g, 0, none⟩) L.length cap) hB7).set g (k * 3 + 1) (.slice ao7 (f.zs.length + ps.length) cap7) (Or.inr (by simp [Value.ownBlock])))).did left
  clear hmk h7 h6 ho7 ho6 hof5 hS hO5 hcb5 hcf5 hc7 hc7f hfr
  go_wp2_with fail
  refine C3.mono ?_
  rintro e w8 ⟨rfl, rfl⟩
  go_wp2
  go_ret
  exact ⟨rfl, _, hdid, fun q hq => Nat.le_trans hB5.size (hv7 q hq), ⟨hrg7.os.trans hB5.os, hrg7.tape.trans hB5.tape, hrg7.output.trans hB5.output, Nat.le_trans hB5.size hrg7.size, fun q hq h1 h2 => (hrg7.block q (Nat.lt_of_lt_of_le hq hB5.size) h1 h2).trans (hB5.block q hq)⟩⟩
end Go.Proofs.YtnkjhooeklodcaaGreatDoor
end

section
/-
  DiskPlays: the document's Write, by contract: of a new file.
-/
namespace Go.Proofs.YtnkjhooeklodcaaGreatDoor
open Go.RowKit Go.Maps Go.Sort

theorem Bs.keep0 {w w' : World} {v : Value} {zs : List Int} (h : Bs w v zs) (hk : zs ≠ [] → ∀ k, v.ownBlock = some k → k < w.heap.size → w'.heap[k]? = w.heap[k]?) : Bs w' v zs := by
  by_cases hz : zs = []
  · rcases h with h | ⟨e, _⟩
    · exact Or.inl h
    · exact absurd hz e
  · exact h.keep (hk hz)
theorem spotN_le (ns : List (List UInt8)) (x : List UInt8) : spotN ns x ≤ ns.length := by
  unfold spotN
  exact (List.takeWhile_sublist _).length_le
set_option maxHeartbeats 3200000 in
set_option maxRecDepth 20000 in
theorem write3_new (base wb : Nat) (v : Value) (room left : Int) (L : List Fl3) (x : List UInt8) (ap : Option Addr) (cp : Nat) (ps : List Int) (w : World) (h : Rk w base wb v room left L) (hx : (names3 L)[spotN (names3 L) x]? ≠ some x) (hcnt : L.length < 4096) (hm : mayE left [x] = 0) (hxl : x.length ≤ 140737488355328) (hT : tot3 L ≤ 1099511627776) (hp : ps.length ≤ 1099511627776) (hfit : (tot3 L : Int) + (ps.length : Int) ≤ room) (hb : Bs w (.slice ap ps.length cp) ps) (hby : ∀ z ∈ ps, 0 ≤ z ∧ z < 256) (h0 : -9223372036854775807 ≤ left) (h1 : left ≤ 9223372036854775807) (hapb : ps ≠ [] → ∀ k, (Value.slice ap ps.length cp).ownBlock = some k → k ≠ wb) :
    Calls Tryz.prog 30 #[.pointer (some ⟨wb, 0, none⟩), encStr x, .slice ap ps.length cp] w fun e w' => e = .returned (.int .i64 0) ∧ ∃ v' v1,
      Rk w' base wb v' room (didL left) (L.take (spotN (names3 L) x) ++ ⟨x, v1, ps, 0⟩ :: L.drop (spotN (names3 L) x)) ∧ (∀ q, v'.ownBlock = some q → w.heap.size ≤ q) ∧ (∀ q, v1.ownBlock = some q → w.heap.size ≤ q) ∧ Rg w wb (.slice none 0 0) w' := by
  have hA : Below w.heap.size w (w.alloc (.cells #[encStr x] 9)) := (Below.refl _ _).alloc (Nat.le_refl _) _
  have hr := h.below hA
  have hxs : ∀ n ∈ [x], n.length ≤ 140737488355328 := by
    intro n hn
    have e : n = x := by simpa using hn
    rw [e]; exact hxl
  have hxc := one_str w x
  have C1 := may_any wb w.heap.size 1 room _ left [x] _ hr.blk (by simp) hxs hxc
  rw [hm] at C1
  have C2 := spot_any base wb _ room left L x _ hr
  have few := h.few
  have CU := fun (W : World) (hW : Rk W base wb v room left L) => used_any base wb v room left L W hW hT
  rw [decide_eq_false hx] at C2
  have q1 : IntKind.i64.wrap ((tot3 L : Int) + (ps.length : Int)) = (tot3 L : Int) + (ps.length : Int) := by rw [IntKind.wrap_i64]; omega
  have g1 : decide ((tot3 L : Int) + (ps.length : Int) > room) = false := by rw [decide_eq_false_iff_not]; omega
  have g2 : ¬ ((4096 : Int) ≤ (L.length : Int)) := by omega
  have hk : spotN (names3 L) x ≤ L.length := by
    have := spotN_le (names3 L) x
    simpa [names3] using this
  generalize spotN (names3 L) x = k at *
  have f1 : (0 : Int) ≤ (k : Int) := by omega
  have hv : ∃ ao cap, v = .slice ao L.length cap := by
    rcases h.shape with ⟨rfl, rfl⟩ | ⟨g, cap, rfl, _⟩
    · exact ⟨none, 0, rfl⟩
    · exact ⟨_, cap, rfl⟩
  obtain ⟨av, cv, rfl⟩ := hv
  generalize tot3 L = tt at *
  go_enter Tryz.func30, Tryz.ntmps30
  go_wp2_with (first | (refine wpList_made_str _ rfl (.tmp 12) rfl x rfl ?_) | (go_at_call 68; refine C1.mono ?_; rintro e w1 ⟨rfl, rfl⟩) | (go_at_call 69; refine C2.mono ?_; rintro e w2 ⟨rfl, hs⟩; have h2 := hr.sm hs; have hcb := h2.blk.cell 1; simp at hcb; have hcr := h2.blk.cell 0; simp at hcr))
  go_quiet ((go_at_call 70; refine Calls.quiet_of_same ((CU _ (h2.sm (Sm.drewN _ _))).mono fun _ _ h => ⟨h.1, h.2.symm⟩)))
  have hb2 : Bs (w2.drewN nq) (.slice ap ps.length cp) ps := (hb.below hA (Nat.le_refl _)).below ((hs.trans (Sm.drewN _ _)).below _) (Nat.le_refl _)
  have h5 := h2.sm (Sm.drewN w2 nq)
  have hB5 : Below w.heap.size w (w2.drewN nq) := hA.trans ((hs.trans (Sm.drewN _ _)).below _)
  clear C1 C2 hxs hxc CU h2 hcb hcr hr hs hb h hx
  generalize w2.drewN nq = W at *
  have hcbW := h5.blk.cell 1
  simp at hcbW
  have hltW := h5.lt
  have hAW : Below W.heap.size W (W.alloc (.cells #[] 110)) := (Below.refl _ _).alloc (Nat.le_refl _) _
  have hO1 : O3 (W.alloc (.cells #[] 110)) base (.slice av L.length cv) L := ownsRow_below h5.row hAW
  have hO2 := O3.new W
  have hsl := h5.sl
  go_wp2_with (first
    | (refine wpList_slice_hi3 _ rfl (.tmp 52) (.tmp 53) rfl base (.slice av L.length cv) L rfl hO1 k rfl hk ?_; intro u8 hb8)
    | (at_builtin; refine wpList_append_3 _ rfl (.tmp 48) (.tmp 54) rfl W.heap.size (.slice (some ⟨W.heap.size, 0, none⟩) 0 0) [] rfl hO2 u8 (L.take k) rfl hb8 (hsl.of fun q hq => List.mem_of_mem_take hq) (by simp; omega) (by simp) ?_; intro ao9 cap9 w9 ho9 hg9 _; have hB9 : Below W.heap.size W w9 := hAW.trans (O3.grown hO2 hg9 (by simp)); simp only [List.nil_append] at ho9; generalize Value.slice ao9 (([] : List Fl3).length + (L.take k).length) cap9 = v9 at ho9 ⊢; clear hg9)
    | (refine wpList_made_row3 _ rfl (.tmp 58) rfl x none 0 0 0 rfl ?_)
    | (at_builtin; refine wpList_append_3 _ rfl (.tmp 56) (.tmp 59) rfl W.heap.size v9 (L.take k) rfl (ownsRow_below ho9 ((Below.refl _ _).alloc (Nat.le_refl _) _)) (.slice (some ⟨w9.heap.size, 0, none⟩) 1 1) [⟨x, .slice none 0 0, [], 0⟩] rfl (made_b3 w9 ⟨x, .slice none 0 0, [], 0⟩ none 0 0 rfl) (fun q hq => ⟨none, 0, by simp at hq; rw [hq]; rfl⟩) (by simp; omega) (by simp; have := hB9.size; omega) ?_; intro ao10 cap10 w10 ho10 hg10 _; have hB10 : Below W.heap.size W w10 := (hB9.alloc hB9.size _).trans (O3.grown (ownsRow_below ho9 ((Below.refl _ _).alloc (Nat.le_refl _) _)) hg10 (by simp; have := hB9.size; omega)); generalize Value.slice ao10 ((L.take k).length + [(⟨x, .slice none 0 0, [], 0⟩ : Fl3)].length) cap10 = v10 at ho10 ⊢; clear hg10; have hc10 := (h5.below hB10).blk.cell 1; simp at hc10)
    | (refine wpList_slice_lo3 _ rfl (.tmp 66) (.tmp 67) rfl base (.slice av L.length cv) L rfl (ownsRow_below h5.row hB10) k rfl hk ?_; intro u11 hb11)
    | (at_builtin; refine wpList_append_3 _ rfl (.tmp 62) (.tmp 68) rfl W.heap.size v10 (L.take k ++ [⟨x, .slice none 0 0, [], 0⟩]) rfl ho10 u11 (L.drop k) rfl hb11 (hsl.of fun q hq => List.mem_of_mem_drop hq) (by simp; omega) hB10.size ?_; intro ao11 cap11 w11 ho11 hg11 _; have hB11 : Below W.heap.size W w11 := hB10.trans (O3.grown ho10 hg11 hB10.size); have hc11 := (h5.below hB11).blk.cell 1; simp at hc11; have hfr11 := (h5.below hB11).blk.frozen 1; generalize HN11 : (L.take k ++ [(⟨x, .slice none 0 0, [], 0⟩ : Fl3)]).length + (L.drop k).length = n11 at ho11 ⊢; have HN := hid_into HN11; clear HN11 hg11))
  have hbl11 : ∀ q, (Value.slice ao11 n11 cap11).ownBlock = some q → W.heap.size ≤ q := fun q hq => (World.ownsRow.lt ho11 q hq).1
  have hwbase : base ≤ W.heap.size := Nat.le_trans h5.wbb (Nat.le_of_lt hltW)
  have hlen5 : Hid (n11 = (L.take k ++ ⟨x, .slice none 0 0, [], 0⟩ :: L.drop k).length) := by
    show _ = _
    rw [← HN.out]
    simp
    omega
  have h12 : Rk (w11.setCell ⟨wb, 1, none⟩ (.slice ao11 n11 cap11)) base wb (.slice ao11 n11 cap11) room left (L.take k ++ ⟨x, .slice none 0 0, [], 0⟩ :: L.drop k) := by
    have hassoc : L.take k ++ [(⟨x, .slice none 0 0, [], 0⟩ : Fl3)] ++ L.drop k = L.take k ++ ⟨x, .slice none 0 0, [], 0⟩ :: L.drop k := by simp
    rw [hassoc] at ho11
    refine Rk.make (h5.below hB11).blk (O3.base ho11 hwbase) (fun q hq => ?_) (by rw [← hlen5.out, ← HN.out]; simp; omega) h5.wbb (fun e => by have := hbl11 _ e; omega)
    have key : q ∈ L → Ow w11 base q.v q.zs ∧ (∀ z ∈ q.zs, 0 ≤ z ∧ z < 256) ∧ q.l ≤ q.zs.length ∧ ∀ b, q.v.ownBlock = some b → b ≠ wb ∧ (Value.slice ao11 n11 cap11).ownBlock ≠ some b := fun hm => by
      obtain ⟨h3, h4, h6, h7⟩ := (h5.below hB11).each q hm
      exact ⟨h3, h4, h6, fun b hb => ⟨(h7 b hb).1, fun e => by
        have h8 := hbl11 b e
        have h9 := (World.ownsRow.lt (h5.each q hm).1 b hb).2
        omega⟩⟩
    rcases List.mem_append.1 hq with hq | hq
    · exact key (List.mem_of_mem_take hq)
    · rcases List.mem_cons.1 hq with hq | hq
      · rw [hq]
        exact ⟨World.ownsRow_nil _ _ _ _, fun z hz => (by cases hz), Nat.le_refl _, fun b hb => (by cases hb)⟩
      · exact key (List.mem_of_mem_drop hq)
  have hf12 : (L.take k ++ (⟨x, .slice none 0 0, [], 0⟩ : Fl3) :: L.drop k)[k]? = some ⟨x, .slice none 0 0, [], 0⟩ := by
    rw [List.getElem?_append_right (by simp; omega), List.length_take, Nat.min_eq_left hk, Nat.sub_self]
    rfl
  have hset : ∀ f' : Fl3, Hid ((L.take k ++ (⟨x, .slice none 0 0, [], 0⟩ : Fl3) :: L.drop k).set k f' = L.take k ++ f' :: L.drop k) := fun f' => by
    show _ = _
    rw [List.set_append_right _ _ (by simp; omega), List.length_take, Nat.min_eq_left hk, Nat.sub_self]
    rfl
  obtain ⟨g5, hg5⟩ : ∃ g5, ao11 = some ⟨g5, 0, none⟩ := by
    rcases h12.shape with ⟨_, e⟩ | ⟨g5, c5, e, _⟩
    · simp at e
    · simp only [Value.slice.injEq] at e
      exact ⟨g5, e.1⟩
  subst hg5
  have hkL : k < (L.take k ++ (⟨x, .slice none 0 0, [], 0⟩ : Fl3) :: L.drop k).length := (List.getElem?_eq_some_iff.1 hf12).1
  have hn11 : n11 = (L.take k ++ (⟨x, .slice none 0 0, [], 0⟩ : Fl3) :: L.drop k).length := hlen5.out
  have few5 := h12.few
  have hgW : W.heap.size ≤ g5 := hbl11 g5 rfl
  have hB12 : Below W.heap.size W w11 := hB11
  have hrg12 : Rg w wb (.slice none 0 0) (w11.setCell ⟨wb, 1, none⟩ (.slice (some ⟨g5, 0, none⟩) n11 cap11)) := (Rg.of_below (hB5.trans (hB11.mono hB5.size))).set wb 1 _ (Or.inl rfl)
  have hb12 : Bs (w11.setCell ⟨wb, 1, none⟩ (.slice (some ⟨g5, 0, none⟩) n11 cap11)) (.slice ap ps.length cp) ps := (hb2.below hB11 (Nat.le_refl _)).keep0 fun hne q hq _ => Below.heap_setCell _ _ _ _ (fun e => hapb hne q hq e)
  have hsz12 : W.heap.size ≤ (w11.setCell ⟨wb, 1, none⟩ (.slice (some ⟨g5, 0, none⟩) n11 cap11)).heap.size := by simpa [World.setCell] using hB11.size
  obtain ⟨f5, hf50⟩ : ∃ f5 : Fl3, f5 = ⟨x, .slice none 0 0, [], 0⟩ := ⟨_, rfl⟩
  rw [← hf50] at h12 hf12 hset hn11 hkL few5
  have HF := hid_into hf50
  have ef5 : f5.v = .slice none f5.zs.length 0 := by rw [hf50]; rfl
  have hz5 : f5.zs.length ≤ 0 := by rw [hf50]; exact Nat.le_refl _
  clear hf50 ho11 ho10 ho9 hO1 hO2 hb8 hb11 hlen5 HN hfr11 hc11 hc10 hsl hcbW
  generalize L.take k ++ f5 :: L.drop k = L5 at *
  subst hn11
  generalize w11.setCell ⟨wb, 1, none⟩ (.slice (some ⟨g5, 0, none⟩) L5.length cap11) = W5 at *
  have hf5 := hf12
  have f2 : (k : Int) < (L5.length : Int) := by omega
  have hcb5 := h12.blk.cell 1
  simp at hcb5
  have hcf5 := (h12.at k f5 hf5).2.1
  have hof5 := (h12.each f5 (List.mem_of_getElem? hf5)).1
  rw [ef5] at hcf5 hof5
  have hg5 := h12.glt
  have hwb5 := h12.lt
  have hA5 : Below W5.heap.size W5 (W5.alloc (.cells #[] 5)) := (Below.refl _ _).alloc (Nat.le_refl _) _
  have hO5 : Ow (W5.alloc (.cells #[] 5)) W5.heap.size (.slice (some ⟨W5.heap.size, 0, none⟩) 0 0) [] := Ow_of_block (heap_alloc_new W5 _) (by simp) (Nat.le_refl _)
  have hS : W5.drew.cell? ⟨wb, 1, none⟩ = some (.slice (some ⟨g5, 0, none⟩) L5.length cap11) ∧ W5.drew.cell? ⟨g5, k * 3 + 1, none⟩ = some (.slice none f5.zs.length 0) := ⟨hcb5, hcf5⟩
  refine wp_region_L 19 (fun w' => w'.cell? ⟨wb, 1, none⟩ = some (.slice (some ⟨g5, 0, none⟩) L5.length cap11) ∧ w'.cell? ⟨g5, k * 3 + 1, none⟩ = some (.slice none f5.zs.length 0)) (by kernel_rfl) ?_
  refine' wpL_take 0 72 rfl rfl (by kernel_rfl) (by kernel_rfl) (by kernel_rfl) (by kernel_rfl) (fun _ _ _ h => h) (by rfl) hS ?y72 ?r72
  case y72 => (intro u hSu; obtain ⟨hSu1, hSu2⟩ := hSu; go_simp; try with_reducible rfl)
  simp only [Act.put, List.setIfInBounds_toArray, List.set_cons_zero, List.set_cons_succ]
  refine' wpL_take 1 73 rfl rfl (by kernel_rfl) (by kernel_rfl) (by kernel_rfl) (by kernel_rfl) (fun _ _ _ h => h) (by rfl) hS ?y73 ?r73
  case y73 => (intro u hSu; obtain ⟨hSu1, hSu2⟩ := hSu; go_simp; try with_reducible rfl)
  simp only [Act.put, List.setIfInBounds_toArray, List.set_cons_zero, List.set_cons_succ]
  refine' wpL_take 2 74 rfl rfl (by kernel_rfl) (by kernel_rfl) (by kernel_rfl) (by kernel_rfl) (fun _ _ _ h => h) (by rfl) hS ?y74 ?r74
  case y74 => (intro u hSu; obtain ⟨hSu1, hSu2⟩ := hSu; go_simp; try with_reducible rfl)
  simp only [Act.put, List.setIfInBounds_toArray, List.set_cons_zero, List.set_cons_succ]
  refine' wpL_take 3 75 rfl rfl (by kernel_rfl) (by kernel_rfl) (by kernel_rfl) (by kernel_rfl) (fun _ _ _ h => h) (by rfl) hS ?y75 ?r75
  case y75 => (intro u hSu; obtain ⟨hSu1, hSu2⟩ := hSu; go_simp; try with_reducible rfl)
  simp only [Act.put, List.setIfInBounds_toArray, List.set_cons_zero, List.set_cons_succ]
  refine' wpL_take 4 76 rfl rfl (by kernel_rfl) (by kernel_rfl) (by kernel_rfl) (by kernel_rfl) (fun _ _ _ h => h) (by rfl) hS ?y76 ?r76
  case y76 => (intro u hSu; obtain ⟨hSu1, hSu2⟩ := hSu; go_simp; try with_reducible rfl)
  simp only [Act.put, List.setIfInBounds_toArray, List.set_cons_zero, List.set_cons_succ]
  refine' wpL_take 6 78 rfl rfl (by kernel_rfl) (by kernel_rfl) (by kernel_rfl) (by kernel_rfl) (fun _ _ _ h => h) (by rfl) hS ?y78 ?r78
  case y78 => (intro u hSu; obtain ⟨hSu1, hSu2⟩ := hSu; go_simp; try with_reducible rfl)
  simp only [Act.put, List.setIfInBounds_toArray, List.set_cons_zero, List.set_cons_succ]
  refine' wpL_take 7 79 rfl rfl (by kernel_rfl) (by kernel_rfl) (by kernel_rfl) (by kernel_rfl) (fun _ _ _ h => h) (by rfl) hS ?y79 ?r79
  case y79 => (intro u hSu; obtain ⟨hSu1, hSu2⟩ := hSu; go_simp; try with_reducible rfl)
  simp only [Act.put, List.setIfInBounds_toArray, List.set_cons_zero, List.set_cons_succ]
  refine' wpL_take 8 80 rfl rfl (by kernel_rfl) (by kernel_rfl) (by kernel_rfl) (by kernel_rfl) (fun _ _ _ h => h) (by rfl) hS ?y80 ?r80
  case y80 => (intro u hSu; obtain ⟨hSu1, hSu2⟩ := hSu; go_simp; try with_reducible rfl)
  simp only [Act.put, List.setIfInBounds_toArray, List.set_cons_zero, List.set_cons_succ]
  refine' wpL_take 9 81 rfl rfl (by kernel_rfl) (by kernel_rfl) (by kernel_rfl) (by kernel_rfl) (fun _ _ _ h => h) (by rfl) hS ?y81 ?r81
  case y81 => (intro u hSu; obtain ⟨hSu1, hSu2⟩ := hSu; go_simp; try with_reducible rfl)
  simp only [Act.put, List.setIfInBounds_toArray, List.set_cons_zero, List.set_cons_succ]
  refine' wpL_take 10 82 rfl rfl (by kernel_rfl) (by kernel_rfl) (by kernel_rfl) (by kernel_rfl) (fun _ _ _ h => h) (by rfl) hS ?y82 ?r82
  case y82 => (intro u hSu; obtain ⟨hSu1, hSu2⟩ := hSu; go_simp; try with_reducible rfl)
  simp only [Act.put, List.setIfInBounds_toArray, List.set_cons_zero, List.set_cons_succ]
  refine' wpL_take 11 83 rfl rfl (by kernel_rfl) (by kernel_rfl) (by kernel_rfl) (by kernel_rfl) (fun _ _ _ h => h) (by rfl) hS ?y83 ?r83
  case y83 => (intro u hSu; obtain ⟨hSu1, hSu2⟩ := hSu; go_simp; try with_reducible rfl)
  simp only [Act.put, List.setIfInBounds_toArray, List.set_cons_zero, List.set_cons_succ]
  refine' wpL_take 12 84 rfl rfl (by kernel_rfl) (by kernel_rfl) (by kernel_rfl) (by kernel_rfl) (fun _ _ _ h => h) (by rfl) hS ?y84 ?r84
  case y84 => (intro u hSu; obtain ⟨hSu1, hSu2⟩ := hSu; go_simp; try with_reducible rfl)
  simp only [Act.put, List.setIfInBounds_toArray, List.set_cons_zero, List.set_cons_succ]
  refine' wpL_take 13 85 rfl rfl (by kernel_rfl) (by kernel_rfl) (by kernel_rfl) (by kernel_rfl) (fun _ _ _ h => h) (by rfl) hS ?y85 ?r85
  case y85 => (intro u hSu; obtain ⟨hSu1, hSu2⟩ := hSu; go_simp; try with_reducible rfl)
  simp only [Act.put, List.setIfInBounds_toArray, List.set_cons_zero, List.set_cons_succ]
  refine' wpL_take 15 87 rfl rfl (by kernel_rfl) (by kernel_rfl) (by kernel_rfl) (by kernel_rfl) (fun _ _ _ h => h) (by rfl) hS ?y87 ?r87
  case y87 => (intro u hSu; obtain ⟨hSu1, hSu2⟩ := hSu; go_simp; try with_reducible rfl)
  simp only [Act.put, List.setIfInBounds_toArray, List.set_cons_zero, List.set_cons_succ]
  refine wpL_one (i := 5) (by kernel_rfl) rfl (fun K hK => ?_)
  rw [if_pos (by rfl)]
  go_simp
  refine hK.out _ _ (fun _ => ⟨by exact (h12.below hA5).blk.cell 1, by exact ef5 ▸ ((h12.below hA5).at k f5 hf5).2.1⟩) ?_
  clear hK K
  refine wpL_one (i := 14) (by kernel_rfl) rfl (fun K hK => ?_)
  refine step_append_bs rfl (.tmp 77) (.tmp 85) rfl W5.heap.size (.slice (some ⟨W5.heap.size, 0, none⟩) 0 0) [] rfl (by exact hO5) (.slice none f5.zs.length 0) f5.zs rfl (by exact hof5.bs.below hA5.drew (Nat.le_refl _)) (by simp; omega) (by simp) ?_
  intro ao6 cap6 w6 ho6 hg6 _
  have hB6 : Below W5.heap.size W5 w6 := hA5.drew.trans (grown_below hg6 (by exact hO5) (by simp))
  have h6 := h12.below hB6
  refine hK.out _ _ (fun _ => ⟨by exact h6.blk.cell 1, by exact ef5 ▸ (h6.at k f5 hf5).2.1⟩) ?_
  change wpL Tryz.prog _ _ _ _ _ _ _ (Act.put _ (some 86) _) _
  simp only [List.nil_append, List.length_nil, Nat.zero_add] at ho6 ⊢
  simp only [Act.put, List.setIfInBounds_toArray, List.set_cons_zero, List.set_cons_succ]
  clear hK K hg6
  refine wpL_one (i := 16) (by kernel_rfl) rfl (fun K hK => ?_)
  refine step_append_bs rfl (.tmp 86) (.tmp 87) rfl W5.heap.size (.slice ao6 f5.zs.length cap6) f5.zs rfl ho6 (.slice ap ps.length cp) ps rfl (hb12.below hB6 (Nat.le_refl _)) (by omega) hB6.size ?_
  intro ao7 cap7 w7 ho7 hg7 _
  have hB7 : Below W5.heap.size W5 w7 := hB6.trans (grown_below hg7 ho6 hB6.size)
  have h7 := h12.below hB7
  have hc7 := h7.blk.cell 1
  simp at hc7
  have hc7f := (h7.at k f5 hf5).2.1
  rw [ef5] at hc7f
  have hfr := h7.frz (k * 3 + 1)
  refine hK.out _ _ (fun _ => ⟨hc7, hc7f⟩) ?_
  change wpL Tryz.prog _ _ _ _ _ _ _ (Act.put _ (some 88) _) _
  simp only [Act.put, List.setIfInBounds_toArray, List.set_cons_zero, List.set_cons_succ]
  clear hK K hg7
  have hv7 : ∀ b, (Value.slice ao7 (f5.zs.length + ps.length) cap7).ownBlock = some b → W5.heap.size ≤ b := fun b hb => (World.ownsRow.lt ho7 b hb).1
  refine wpL_one (i := 17) (by kernel_rfl) rfl (fun K hK => ?_)
  rw [if_pos (by rfl)]
  go_simp
  refine hK.out _ _ (fun _ => ⟨hc7, hc7f⟩) ?_
  clear hK K
  refine wpL_one (i := 18) (by kernel_rfl) rfl (fun K hK => ?_)
  rw [if_pos (by rfl)]
  go_simp
  refine hK.out _ _ (fun _ => ⟨hc7, hc7f⟩) ?_
  clear hK K
  refine wpL_one (i := 19) (by kernel_rfl) rfl (fun K hK => ?_)
  rw [if_pos (by rfl)]
  go_simp
  refine hK.out _ _ (fun e => absurd rfl e) ?_
  clear hK K
  refine wpL_done (by kernel_rfl) ?_ _
  have hmk := h7.setB hf5 (ho7.mono (Nat.le_trans h12.wbb (Nat.le_of_lt hwb5))) (fun z hz => by
    rcases List.mem_append.1 hz with hz | hz
    · exact (h12.each f5 (List.mem_of_getElem? hf5)).2.1 z hz
    · exact hby z hz) (by have := (h12.each f5 (List.mem_of_getElem? hf5)).2.2.1; simp; omega) (fun b hb => by have := hv7 b hb; omega)
  have C3 := did_any wb room _ left _ hmk.blk h0 h1
  have hdid := hmk.did
  have hrg7 := (((Rg.of_below (wb := wb) (v := .slice (some ⟨g5, 0, none⟩) L5.length cap11) hB7).set g5 (k * 3 + 1) (.slice ao7 (f5.zs.length + ps.length) cap7) (Or.inr (by simp [Value.ownBlock])))).did left
  clear hmk h7 h6 ho7 ho6 hof5 hS hO5 hcb5 hcf5 hc7 hc7f hfr
  go_wp2_with fail
  refine C3.mono ?_
  rintro e w8 ⟨rfl, rfl⟩
  go_wp2
  go_ret
  have hx5 : f5.nm = x ∧ f5.zs = [] ∧ f5.l = 0 := by rw [HF.out]; exact ⟨rfl, rfl, rfl⟩
  have hLL : ∀ V : Value, L5.set k ⟨f5.nm, V, f5.zs ++ ps, f5.l⟩ = L.take k ++ ⟨x, V, ps, 0⟩ :: L.drop k := fun V => by
    rw [(hset _).out, hx5.1, hx5.2.1, hx5.2.2, List.nil_append]
  rw [hLL] at hdid
  refine ⟨rfl, _, _, hdid, fun q hq => ?_, fun q hq => ?_, ?_⟩
  · have : q = g5 := by simpa [Value.ownBlock] using hq.symm
    rw [this]; exact Nat.le_trans hB5.size hgW
  · exact Nat.le_trans hB5.size (Nat.le_trans hsz12 (hv7 q hq))
  · refine ⟨hrg7.os.trans hrg12.os, hrg7.tape.trans hrg12.tape, hrg7.output.trans hrg12.output, Nat.le_trans hrg12.size hrg7.size, fun q hq h1 h2 => (hrg7.block q (Nat.lt_of_lt_of_le hq hrg12.size) h1 (fun e => ?_)).trans (hrg12.block q hq h1 h2)⟩
    have : q = g5 := by simpa [Value.ownBlock] using e.symm
    have := hB5.size
    omega
end Go.Proofs.YtnkjhooeklodcaaGreatDoor
end

section
/-
  DiskPlays: the document's Rename, by contract.
-/
namespace Go.Proofs.YtnkjhooeklodcaaGreatDoor
open Go.RowKit Go.Maps Go.Sort

theorem mk_str2 (W : World) (s r : ByteArray) : (Instr.buildSlice 69 2 #[(0, .string s), (1, .string r)]).run Tryz.prog W = .ok (.slice (some ⟨W.heap.size, 0, none⟩) 2 2) (W.alloc (.cells #[.string s, .string r] 9)) := by kernel_rfl
theorem wpList_made_str2 (w : World) {ops : Array Oper} {rest : List Oper} {o : Oper} {a : Act} {Q : Exit → Act → World → Prop} (hgd : o.guard = none) (x y : Operand) (ho : o.op = .buildSlice 69 2 #[(0, x), (1, y)]) (s r : List UInt8) (hx : a.eval x = encStr s) (hy : a.eval y = encStr r)
    (h : wpList Tryz.prog ops Q rest (a.put o.dst (.slice (some ⟨w.heap.size, 0, none⟩) 2 2)) (w.alloc (.cells #[encStr s, encStr r] 9))) : wpList Tryz.prog ops Q (o :: rest) a w := by
  refine wpList_plain hgd fun _ hK => ?_
  unfold Oper.wp execOp
  simp only [ho, Sem.run_bind, List.map_toArray, List.map_cons, List.map_nil, hx, hy, mk_str2, Result.andThen_ok]
  exact hK _ _ h
theorem two_str (w : World) (x y : List UInt8) : ∀ i n, ([x, y] : List (List UInt8))[i]? = some n → (w.alloc (.cells #[encStr x, encStr y] 9)).cell? ⟨w.heap.size, i, none⟩ = some (encStr n) := by
  intro i n hi
  rw [cell_of_row _ _ _ _ _ _ (heap_alloc_new w _)]
  match i, hi with
  | 0, hi => simp at hi; rw [hi]; rfl
  | 1, hi => simp at hi; rw [hi]; rfl
  | _ + 2, hi => simp at hi
def rmL (L : List Fl3) (x : List UInt8) : List Fl3 := if (names3 L)[spotN (names3 L) x]? = some x then L.eraseIdx (spotN (names3 L) x) else L
theorem rem3_any (base wb : Nat) (v : Value) (room left : Int) (L : List Fl3) (x : List UInt8) (w : World) (h : Rk w base wb v room left L) :
    Calls Tryz.prog 92 #[.pointer (some ⟨wb, 0, none⟩), encStr x] w fun e w' => e = .returned (.tuple #[]) ∧ ∃ v', Rk w' base wb v' room left (rmL L x) ∧ (∀ q, v'.ownBlock = some q → v.ownBlock = some q ∨ w.heap.size ≤ q) ∧ Rg w wb (.slice none 0 0) w' := by
  by_cases hx : (names3 L)[spotN (names3 L) x]? = some x
  · obtain ⟨f, hf, hfx⟩ : ∃ f, L[spotN (names3 L) x]? = some f ∧ f.nm = x := by
      simp only [names3, List.getElem?_map, Option.map_eq_some_iff] at hx
      exact hx
    rcases h.shape with ⟨_, e⟩ | ⟨g, cap, rfl, _⟩
    · rw [e] at hf; simp at hf
    · refine (rem3_some base wb g cap room left L x f w h hf hfx).mono ?_
      rintro e w' ⟨he, v', h1, h2, h3⟩
      refine ⟨he, v', ?_, fun q hq => Or.inr (h2 q hq), h3⟩
      unfold rmL
      rw [if_pos hx]
      exact h1
  · refine (rem3_none base wb v room left L x w h hx).mono ?_
    rintro e w' ⟨he, hs⟩
    refine ⟨he, v, ?_, fun q hq => Or.inl hq, Rg.of_below (hs.below _)⟩
    unfold rmL
    rw [if_neg hx]
    exact h.sm hs
theorem rmL_mem {L : List Fl3} {x : List UInt8} {f : Fl3} (h : f ∈ rmL L x) : f ∈ L := by
  unfold rmL at h
  split at h
  · exact List.mem_of_mem_eraseIdx h
  · exact h
theorem rmL_len (L : List Fl3) (x : List UInt8) : (rmL L x).length ≤ L.length := by
  unfold rmL
  split
  · exact List.length_eraseIdx_le _ _
  · exact Nat.le_refl _
theorem Rg.trans {w w1 w2 : World} {wb : Nat} {v : Value} (h : Rg w wb v w1) (k : Rg w1 wb v w2) : Rg w wb v w2 :=
  ⟨k.os.trans h.os, k.tape.trans h.tape, k.output.trans h.output, Nat.le_trans h.size k.size, fun q hq h1 h2 => (k.block q (Nat.lt_of_lt_of_le hq h.size) h1 h2).trans (h.block q hq h1 h2)⟩
end Go.Proofs.YtnkjhooeklodcaaGreatDoor
end
