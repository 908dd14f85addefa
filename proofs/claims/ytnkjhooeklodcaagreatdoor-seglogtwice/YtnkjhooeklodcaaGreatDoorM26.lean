/-
  Joined from: PlayCr, PlayCp.
-/
import Derived.Test.YtnkjhooeklodcaaGreatDoorM18
import Derived.Test.YtnkjhooeklodcaaGreatDoorM25
section
/-
  DiskPlays: the document's Crash, by contract.
-/
namespace Go.Proofs.YtnkjhooeklodcaaGreatDoor
open Go.RowKit Go.Maps Go.Sort

def abs3 (L : List Fl3) : Us := L.map fun f => (f.nm, f.zs, f.l)
theorem abs3_get (L : List Fl3) (i : Nat) : (abs3 L)[i]? = L[i]?.map fun f => (f.nm, f.zs, f.l) := by simp [abs3]
theorem abs3_set (L : List Fl3) (i : Nat) (f : Fl3) : abs3 (L.set i f) = (abs3 L).set i (f.nm, f.zs, f.l) := by simp [abs3, List.map_set]
theorem abs3_len (L : List Fl3) : (abs3 L).length = L.length := by simp [abs3]
theorem abs3_names (L : List Fl3) : (abs3 L).map (·.1) = names3 L := by simp [abs3, names3, List.map_map, Function.comp_def]
theorem xb_zero (z : Int) (h : 0 ≤ z ∧ z < 256) : xb z 0 = z := by
  obtain ⟨a, rfl⟩ := Int.eq_ofNat_of_zero_le h.1
  have e : xb (a : Int) ((0 : Nat) : Int) = ((a ^^^ 0 : Nat) : Int) := u8_xor_nat a 0 (by omega) (by omega)
  simpa using e
theorem crB_zero {zs : List Int} (h : ∀ z ∈ zs, 0 ≤ z ∧ z < 256) (l k : Nat) : crB zs l k 0 = zs.take (crN zs l k) := by
  unfold crB xq
  apply List.ext_getElem (by simp)
  intro j h1 h2
  simp only [List.getElem_mapIdx]
  split
  · exact xb_zero _ (h _ (List.mem_of_mem_take (List.getElem_mem h2)))
  · rfl
theorem crB_none {zs : List Int} (l k : Nat) (t : Int) (h : crN zs l k = 0) : crB zs l k t = [] := by
  unfold crB
  rw [h]
  rfl
structure Cr3 (w : World) (base wb g cap : Nat) (room left : Int) (L : List Fl3) (K : Nat) (t : Int) (i : Nat) (L' : List Fl3) (wr : World) : Prop where
  rk : Rk wr base wb (.slice (some ⟨g, 0, none⟩) L.length cap) room left L'
  len : L'.length = L.length
  ab : abs3 L' = crI K t i (abs3 L)
  fr : ∀ f ∈ L', ∀ q, f.v.ownBlock = some q → (∃ f0 ∈ L, f0.v.ownBlock = some q) ∨ w.heap.size ≤ q
  rg : Rg w wb (.slice (some ⟨g, 0, none⟩) L.length cap) wr
theorem ownsRow_keep3 {w w' : World} {base : Nat} {t : TypeId} {sz g n cap : Nat} {cs : List Value} (h : w.ownsRow base t sz (.slice (some ⟨g, 0, none⟩) n cap) n cs) (hk : w'.heap[g]? = w.heap[g]?) : w'.ownsRow base t sz (.slice (some ⟨g, 0, none⟩) n cap) n cs := by
  refine ⟨h.1, ?_⟩
  rcases h.2 with ⟨h2, _⟩ | ⟨g', cap', cur, he, hg0, hg, rest⟩
  · simp at h2
  · simp only [Value.slice.injEq, Option.some.injEq, Addr.mk.injEq, and_true, true_and] at he
    obtain ⟨rfl, rfl⟩ := he
    exact Or.inr ⟨g, cap, cur, rfl, hg0, hk.trans hg, rest⟩
theorem Rk.redo {W wF : World} {base wb g cap i n : Nat} {room left : Int} {L : List Fl3} {f : Fl3} {v' : Value} {ys : List Int} (h : Rk W base wb (.slice (some ⟨g, 0, none⟩) L.length cap) room left L) (hf : L[i]? = some f) (hrow : wF.heap[g]? = (W.setCell ⟨g, i * 3 + 1, none⟩ v').heap[g]?) (hkeep : ∀ q, q < W.heap.size → q ≠ g → wF.heap[q]? = W.heap[q]?) (ho : Ow wF W.heap.size v' ys) (hz : ∀ z ∈ ys, 0 ≤ z ∧ z < 256) (hn : n ≤ ys.length) :
    Rk (wF.setCell ⟨g, i * 3 + 2, none⟩ (.int .i64 (n : Int))) base wb (.slice (some ⟨g, 0, none⟩) L.length cap) room left (L.set i ⟨f.nm, v', ys, n⟩) := by
  have hgw : g ≠ wb := fun e => h.sep (by simp [Value.ownBlock]; exact e)
  have hg := h.glt
  have hw := h.lt
  have hbase : base ≤ W.heap.size := Nat.le_trans h.wbb (Nat.le_of_lt hw)
  have hv : ∀ b, v'.ownBlock = some b → W.heap.size ≤ b := fun b hb => (World.ownsRow.lt ho b hb).1
  refine ⟨?_, ?_, ?_, by simpa using h.few, h.wbb, by simpa [Value.ownBlock] using hgw⟩
  · have := h.blk
    unfold Cw at this ⊢
    rw [Below.heap_setCell _ _ _ _ (fun e => hgw e.symm), hkeep wb hw (fun e => hgw e.symm)]
    exact this
  · rw [cells3_setF L i f ⟨f.nm, v', ys, n⟩ hf rfl, List.length_set]
    exact ownsRow_set (ownsRow_keep3 (ownsRow_set h.row _ _) hrow) _ _
  · intro q hq
    rcases List.mem_or_eq_of_mem_set hq with hm | rfl
    · obtain ⟨h1, h2, h3, h4⟩ := h.each q hm
      have hne : ∀ b, q.v.ownBlock = some b → b ≠ g := fun b hb e => (h4 b hb).2 (by simp [Value.ownBlock]; exact e.symm)
      have h1' : Ow wF base q.v q.zs := by
        refine ⟨h1.1, ?_⟩
        rcases h1.2 with k2 | ⟨g', c', cur, e1, e2, e3, e4⟩
        · exact Or.inl k2
        · exact Or.inr ⟨g', c', cur, e1, e2, (hkeep g' (Array.getElem?_eq_some_iff.1 e3).1 (hne g' (by rw [e1]; rfl))).trans e3, e4⟩
      exact ⟨ownsRow_other h1' g _ _ (fun e => hne g e rfl), h2, h3, fun b hb => ⟨(h4 b hb).1, (h4 b hb).2⟩⟩
    · refine ⟨ownsRow_other (ho.mono hbase) g _ _ (fun e => by have := hv g e; omega), hz, hn, fun b hb => ⟨fun e => by have := hv b hb; omega, fun e => ?_⟩⟩
      have h5 : g = b := by simpa [Value.ownBlock] using e
      have := hv b hb
      omega
theorem cell_below {w w' : World} {B b i : Nat} {v : Value} (hb : Below B w w') (hc : w.cell? ⟨b, i, none⟩ = some v) (h : b < B) : w'.cell? ⟨b, i, none⟩ = some v := by
  rw [World.cell?_of_block (w := w) (hb.block b h)]
  exact hc
theorem frozen_below {w w' : World} {B b i : Nat} (hb : Below B w w') (hc : w.frozen? ⟨b, i, none⟩ = false) (h : b < B) : w'.frozen? ⟨b, i, none⟩ = false := by
  simp only [World.frozen?, hb.block b h] at hc ⊢
  exact hc
set_option maxHeartbeats 6400000 in
set_option maxRecDepth 20000 in
theorem crash3_some (base wb g cap : Nat) (room left : Int) (L : List Fl3) (keep t : Int) (w : World) (h : Rk w base wb (.slice (some ⟨g, 0, none⟩) L.length cap) room left L) (hz : ∀ f ∈ L, f.zs.length ≤ 1073741824) (hk : keep < 9223372036854775808) (ht : 0 ≤ t ∧ t < 256) :
    Calls Tryz.prog 21 #[.pointer (some ⟨wb, 0, none⟩), .int .i64 keep, .int .u8 t] w fun e w' => e = .returned (.tuple #[]) ∧ ∃ L', Rk w' base wb (.slice (some ⟨g, 0, none⟩) L.length cap) room (-1) L' ∧ abs3 L' = (abs3 L).map (crA keep.toNat t) ∧ (∀ f ∈ L', ∀ q, f.v.ownBlock = some q → (∃ f0 ∈ L, f0.v.ownBlock = some q) ∨ w.heap.size ≤ q) ∧ Rg w wb (.slice (some ⟨g, 0, none⟩) L.length cap) w' := by
  have hmax : max 0 keep = ((keep.toNat : Nat) : Int) := by omega
  have hkn : keep.toNat < 9223372036854775808 := by omega
  generalize keep.toNat = K at *
  have few := h.few
  have start : Cr3 w base wb g cap room left L K t 0 L w := ⟨h, rfl, (crI_zero K t _).symm, fun f hf q hq => Or.inl ⟨f, hf, hq⟩, ⟨rfl, rfl, rfl, Nat.le_refl _, fun _ _ _ _ => rfl⟩⟩
  have HZ := hid_into hz
  have HH := hid_into h
  have HS := hid_into start
  clear hz h start
  go_enter Tryz.func21, Tryz.ntmps21
  go_wp2
  go_loopw [6, 7, 8, 9, 10] (fun iv _ _ _ _ wr => ∃ i L', i ≤ L.length ∧ iv = .int .i64 ((i : Nat) : Int) ∧ Cr3 w base wb g cap room left L K t i L' wr) (fun iv _ _ _ _ _ => L.length - (intOf iv).toNat)
  case atStart => exact ⟨0, L, Nat.zero_le _, rfl, HS.out⟩
  case round =>
    clear HS
    obtain ⟨i, L', hi, rfl, hc⟩ := hrel
    have hcb := hc.rk.blk.cell 1
    simp at hcb
    by_cases hlt : i < L.length
    · obtain ⟨f, hf⟩ : ∃ f, L'[i]? = some f := ⟨_, List.getElem?_eq_getElem (by rw [hc.len]; exact hlt)⟩
      have hfl := hc.rk.each f (List.mem_of_getElem? hf)
      have hab : (abs3 L)[i]? = some (f.nm, f.zs, f.l) := by
        have e1 := abs3_get L' i
        rw [hc.ab, crI_get, hf] at e1
        exact e1
      have hzf : f.zs.length ≤ 1073741824 := by
        rw [abs3_get] at hab
        obtain ⟨f0, h01, h02⟩ := Option.map_eq_some_iff.1 hab
        have := HZ.out f0 (List.mem_of_getElem? h01)
        simp only [Prod.mk.injEq] at h02
        rw [← h02.2.1]
        exact this
      have hat := hc.rk.at i f hf
      have hcf := hat.2.1
      have hcl := hat.2.2
      obtain ⟨af, cf, ef, hform⟩ := hfl.1.form
      have hcap2 : f.zs.length ≤ cf := by
        rcases hform with ⟨_, _, e⟩ | ⟨_, _, _, _, _, _, e, _⟩
        · rw [e]; simp
        · exact e
      rw [ef] at hcf
      have f1 : (0 : Int) ≤ (i : Int) := by omega
      have f2 : (i : Int) < (L.length : Int) := by omega
      have hll : f.l ≤ f.zs.length := hfl.2.2.1
      have HBY := hid_into hfl.2.1
      have hsub : IntKind.i64.wrap ((f.zs.length : Int) - (f.l : Int)) = ((f.zs.length - f.l : Nat) : Int) := by rw [IntKind.wrap_i64]; omega
      clear hform hat
      go_wp2_with fail
      go_quiet (fail)
      go_wp2_with fail
      have hnl := crN_le f.zs f.l K hll
      have hN : f.l + K % (f.zs.length - f.l + 1) = crN f.zs f.l K := rfl
      have hBn : crB f.zs f.l K t = xq (crM f.zs f.l K) (crN f.zs f.l K) t (f.zs.take (crN f.zs f.l K)) := rfl
      have hMn : crM f.zs f.l K = max f.l (secN (crN f.zs f.l K)) := rfl
      have hml := crM_le f.zs f.l K
      obtain ⟨U, hU⟩ : ∃ U, U = f.zs.length - f.l := ⟨_, rfl⟩
      rw [← hU] at hN ⊢
      have hKU := Nat.mod_lt K (show 0 < U + 1 by omega)
      have q1 : IntKind.i64.wrap ((U : Int) + 1) = ((U + 1 : Nat) : Int) := by rw [IntKind.wrap_i64]; omega
      have q2 : (K : Int) % ((U + 1 : Nat) : Int) = ((K % (U + 1) : Nat) : Int) := by omega
      have q3 : IntKind.i64.wrap ((f.l : Int) + ((K % (U + 1) : Nat) : Int)) = (crN f.zs f.l K : Int) := by rw [IntKind.wrap_i64]; omega
      have q4 : (K : Int).tmod ((U : Int) + 1) = ((K % (U + 1) : Nat) : Int) := by rw [Int.tmod_eq_emod_of_nonneg (by omega)]; simp
      have q5 : ¬ ((U : Int) + 1 = 0) := by omega
      have HU := hid_into hU
      clear hU q2
      obtain ⟨n, hnn⟩ : ∃ n, crN f.zs f.l K = n := ⟨_, rfl⟩
      obtain ⟨m, hmm⟩ : ∃ m, crM f.zs f.l K = m := ⟨_, rfl⟩
      rw [hnn] at hnl hN hBn hMn hml q3
      rw [hmm] at hBn hMn hml
      have HNN := hid_into hnn
      have HBN := hid_into hBn
      have HMN := hid_into hMn
      have HML := hid_into hml
      have HNL : Hid (f.l ≤ n) := by show _ ≤ _; omega
      clear hnn hmm hBn hMn hml
      generalize K % (U + 1) = r at *
      have f5 : (0 : Int) ≤ (n : Int) := by omega
      have f6 : (n : Int) ≤ (cf : Int) := by omega
      have hrk := hc.rk.sm (Sm.drewN wr nq)
      have hrgW : Rg w wb (.slice (some ⟨g, 0, none⟩) L.length cap) (wr.drewN nq) := ⟨hc.rg.os, hc.rg.tape, hc.rg.output, hc.rg.size, hc.rg.block⟩
      have hlen' := hc.len
      have habs := hc.ab
      have hfr' := hc.fr
      clear hc hcb hcf hcl hsub
      generalize wr.drewN nq = W at *
      have hcb := hrk.blk.cell 1
      simp at hcb
      have hcf := (hrk.at i f hf).2.1
      have hcl := (hrk.at i f hf).2.2
      have hof := (hrk.each f (List.mem_of_getElem? hf)).1
      rw [ef] at hcf hof
      have hgW := hrk.glt
      have hwbW := hrk.lt
      have hA2 : Below W.heap.size W (W.alloc (.cells #[] 5)) := (Below.refl _ _).alloc (Nat.le_refl _) _
      have hO0 : Ow (W.alloc (.cells #[] 5)) W.heap.size (.slice (some ⟨W.heap.size, 0, none⟩) 0 0) [] := Ow_of_block (heap_alloc_new W _) (by simp) (Nat.le_refl _)
      have hS : W.drew.cell? ⟨g, i * 3 + 1, none⟩ = some (.slice af f.zs.length cf) ∧ W.drew.cell? ⟨g, i * 3 + 2, none⟩ = some (.int .i64 (f.l : Int)) := ⟨hcf, hcl⟩
      refine wp_region_L 19 (fun w' => w'.cell? ⟨g, i * 3 + 1, none⟩ = some (.slice af f.zs.length cf) ∧ w'.cell? ⟨g, i * 3 + 2, none⟩ = some (.int .i64 (f.l : Int))) (by kernel_rfl) ?_
      refine' wpL_take 0 38 rfl rfl (by kernel_rfl) (by kernel_rfl) (by kernel_rfl) (by kernel_rfl) (fun _ _ _ h => h) (by rfl) hS ?y38 ?r38
      case y38 => (intro u hSu; obtain ⟨hSu1, hSu2⟩ := hSu; go_simp; try with_reducible rfl)
      simp only [Act.put, List.setIfInBounds_toArray, List.set_cons_zero, List.set_cons_succ]
      refine' wpL_take 2 40 rfl rfl (by kernel_rfl) (by kernel_rfl) (by kernel_rfl) (by kernel_rfl) (fun _ _ _ h => h) (by rfl) hS ?y40 ?r40
      case y40 => (intro u hSu; obtain ⟨hSu1, hSu2⟩ := hSu; go_simp; try with_reducible rfl)
      simp only [Act.put, List.setIfInBounds_toArray, List.set_cons_zero, List.set_cons_succ]
      refine' wpL_take 3 41 rfl rfl (by kernel_rfl) (by kernel_rfl) (by kernel_rfl) (by kernel_rfl) (fun _ _ _ h => h) (by rfl) hS ?y41 ?r41
      case y41 => (intro u hSu; obtain ⟨hSu1, hSu2⟩ := hSu; go_simp; try with_reducible rfl)
      simp only [Act.put, List.setIfInBounds_toArray, List.set_cons_zero, List.set_cons_succ]
      refine' wpL_take 4 42 rfl rfl (by kernel_rfl) (by kernel_rfl) (by kernel_rfl) (by kernel_rfl) (fun _ _ _ h => h) (by rfl) hS ?y42 ?r42
      case y42 => (intro u hSu; obtain ⟨hSu1, hSu2⟩ := hSu; go_simp; try with_reducible rfl)
      simp only [Act.put, List.setIfInBounds_toArray, List.set_cons_zero, List.set_cons_succ]
      refine' wpL_take 5 43 rfl rfl (by kernel_rfl) (by kernel_rfl) (by kernel_rfl) (by kernel_rfl) (fun _ _ _ h => h) (by rfl) hS ?y43 ?r43
      case y43 => (intro u hSu; obtain ⟨hSu1, hSu2⟩ := hSu; go_simp; try with_reducible rfl)
      simp only [Act.put, List.setIfInBounds_toArray, List.set_cons_zero, List.set_cons_succ]
      refine' wpL_take 6 44 rfl rfl (by kernel_rfl) (by kernel_rfl) (by kernel_rfl) (by kernel_rfl) (fun _ _ _ h => h) (by rfl) hS ?y44 ?r44
      case y44 => (intro u hSu; obtain ⟨hSu1, hSu2⟩ := hSu; go_simp; try with_reducible rfl)
      simp only [Act.put, List.setIfInBounds_toArray, List.set_cons_zero, List.set_cons_succ]
      refine' wpL_take 7 45 rfl rfl (by kernel_rfl) (by kernel_rfl) (by kernel_rfl) (by kernel_rfl) (fun _ _ _ h => h) (by rfl) hS ?y45 ?r45
      case y45 => (intro u hSu; obtain ⟨hSu1, hSu2⟩ := hSu; go_simp; try with_reducible rfl)
      simp only [Act.put, List.setIfInBounds_toArray, List.set_cons_zero, List.set_cons_succ]
      refine' wpL_take 8 46 rfl rfl (by kernel_rfl) (by kernel_rfl) (by kernel_rfl) (by kernel_rfl) (fun _ _ _ h => h) (by rfl) hS ?y46 ?r46
      case y46 => (intro u hSu; obtain ⟨hSu1, hSu2⟩ := hSu; go_simp; try with_reducible rfl)
      simp only [Act.put, List.setIfInBounds_toArray, List.set_cons_zero, List.set_cons_succ]
      refine' wpL_take 9 47 rfl rfl (by kernel_rfl) (by kernel_rfl) (by kernel_rfl) (by kernel_rfl) (fun _ _ _ h => h) (by rfl) hS ?y47 ?r47
      case y47 => (intro u hSu; obtain ⟨hSu1, hSu2⟩ := hSu; go_simp; try with_reducible rfl)
      simp only [Act.put, List.setIfInBounds_toArray, List.set_cons_zero, List.set_cons_succ]
      refine' wpL_take 10 48 rfl rfl (by kernel_rfl) (by kernel_rfl) (by kernel_rfl) (by kernel_rfl) (fun _ _ _ h => h) (by rfl) hS ?y48 ?r48
      case y48 => (intro u hSu; obtain ⟨hSu1, hSu2⟩ := hSu; go_simp; try with_reducible rfl)
      simp only [Act.put, List.setIfInBounds_toArray, List.set_cons_zero, List.set_cons_succ]
      refine' wpL_take 11 49 rfl rfl (by kernel_rfl) (by kernel_rfl) (by kernel_rfl) (by kernel_rfl) (fun _ _ _ h => h) (by rfl) hS ?y49 ?r49
      case y49 => (intro u hSu; obtain ⟨hSu1, hSu2⟩ := hSu; go_simp; try with_reducible rfl)
      simp only [Act.put, List.setIfInBounds_toArray, List.set_cons_zero, List.set_cons_succ]
      refine' wpL_take (v := .int .i64 ((U + 1 : Nat) : Int)) 12 50 rfl rfl (by kernel_rfl) (by kernel_rfl) (by kernel_rfl) (by kernel_rfl) (fun _ _ _ h => h) (by rfl) hS ?y50 ?r50
      case y50 => (intro u hSu; obtain ⟨hSu1, hSu2⟩ := hSu; go_simp; try with_reducible rfl)
      simp only [Act.put, List.setIfInBounds_toArray, List.set_cons_zero, List.set_cons_succ]
      refine' wpL_take (v := .int .i64 (r : Int)) 13 51 rfl rfl (by kernel_rfl) (by kernel_rfl) (by kernel_rfl) (by kernel_rfl) (fun _ _ _ h => h) (by rfl) hS ?y51 ?r51
      case y51 => (intro u hSu; obtain ⟨hSu1, hSu2⟩ := hSu; go_simp; first | done | (rw [if_neg q5, q4]) | (simp only [if_neg q5, q4]))
      simp only [Act.put, List.setIfInBounds_toArray, List.set_cons_zero, List.set_cons_succ]
      refine' wpL_take (v := .int .i64 (n : Int)) 14 52 rfl rfl (by kernel_rfl) (by kernel_rfl) (by kernel_rfl) (by kernel_rfl) (fun _ _ _ h => h) (by rfl) hS ?y52 ?r52
      case y52 => (intro u hSu; obtain ⟨hSu1, hSu2⟩ := hSu; go_simp; try with_reducible rfl)
      simp only [Act.put, List.setIfInBounds_toArray, List.set_cons_zero, List.set_cons_succ]
      refine' wpL_take 15 53 rfl rfl (by kernel_rfl) (by kernel_rfl) (by kernel_rfl) (by kernel_rfl) (fun _ _ _ h => h) (by rfl) hS ?y53 ?r53
      case y53 => (intro u hSu; obtain ⟨hSu1, hSu2⟩ := hSu; go_simp; try with_reducible rfl)
      simp only [Act.put, List.setIfInBounds_toArray, List.set_cons_zero, List.set_cons_succ]
      refine wpL_one (i := 1) (by kernel_rfl) rfl (fun K hK => ?_)
      rw [if_pos (by rfl)]
      go_simp
      refine hK.out _ _ (fun _ => ⟨by exact ef ▸ ((hrk.below hA2).at i f hf).2.1, by exact ((hrk.below hA2).at i f hf).2.2⟩) ?_
      clear hK K
      refine wpL_one (i := 16) (by kernel_rfl) rfl (fun K hK => ?_)
      refine step_append_bs rfl (.tmp 39) (.tmp 53) rfl W.heap.size (.slice (some ⟨W.heap.size, 0, none⟩) 0 0) [] rfl (by exact hO0) (.slice af n cf) (f.zs.take n) rfl (by exact (hof.bs.take n hnl).below hA2.drew (Nat.le_refl _)) (by simp; omega) (by simp) ?_
      intro ao3 cap3 w3 ho3 hg3 _
      have hB3 : Below W.heap.size W w3 := hA2.drew.trans (grown_below hg3 (by exact hO0) (by simp))
      have h3 := hrk.below hB3
      have hc3f := (h3.at i f hf).2.1
      have hc3l := (h3.at i f hf).2.2
      rw [ef] at hc3f
      have hfr := h3.frz (i * 3 + 1)
      refine hK.out _ _ (fun _ => ⟨hc3f, hc3l⟩) ?_
      change wpL Tryz.prog _ _ _ _ _ _ _ (Act.put _ (some 54) _) _
      simp only [List.nil_append, List.length_nil, Nat.zero_add] at ho3 ⊢
      simp only [Act.put, List.setIfInBounds_toArray, List.set_cons_zero, List.set_cons_succ]
      clear hK K hg3
      have hv3 : ∀ b, (Value.slice ao3 (f.zs.take n).length cap3).ownBlock = some b → W.heap.size ≤ b := fun b hb => (World.ownsRow.lt ho3 b hb).1
      have htn : (f.zs.take n).length = n := by simp [hnl]
      rw [htn] at ho3 hv3 ⊢
      refine wpL_one (i := 17) (by kernel_rfl) rfl (fun K hK => ?_)
      rw [if_pos (by rfl)]
      go_simp
      refine hK.out _ _ (fun _ => ⟨hc3f, hc3l⟩) ?_
      clear hK K
      refine wpL_one (i := 18) (by kernel_rfl) rfl (fun K hK => ?_)
      rw [if_pos (by rfl)]
      go_simp
      refine hK.out _ _ (fun _ => ⟨hc3f, hc3l⟩) ?_
      clear hK K
      refine wpL_one (i := 19) (by kernel_rfl) rfl (fun K hK => ?_)
      rw [if_pos (by rfl)]
      go_simp
      refine hK.out _ _ (fun e => absurd rfl e) ?_
      clear hK K
      refine wpL_done (by kernel_rfl) ?_ _
      have hg3 : (w3.setCell ⟨g, i * 3 + 1, none⟩ (.slice ao3 n cap3)).heap[g]? = (W.setCell ⟨g, i * 3 + 1, none⟩ (.slice ao3 n cap3)).heap[g]? := by
        simp only [World.setCell, Array.getElem?_modify, hB3.block g hgW]
      have hk3 : ∀ q, q < W.heap.size → q ≠ g → (w3.setCell ⟨g, i * 3 + 1, none⟩ (.slice ao3 n cap3)).heap[q]? = W.heap[q]? := fun q hq hne => (Below.heap_setCell _ _ _ _ hne).trans (hB3.block q hq)
      have ho4 : Ow (w3.setCell ⟨g, i * 3 + 1, none⟩ (.slice ao3 n cap3)) W.heap.size (.slice ao3 n cap3) (f.zs.take n) := ownsRow_other ho3 g _ _ (fun e => by have := hv3 g e; omega)
      have c1 : (w3.setCell ⟨g, i * 3 + 1, none⟩ (.slice ao3 n cap3)).cell? ⟨g, i * 3 + 1, none⟩ = some (.slice ao3 n cap3) := World.cell?_setCell_same _ _ _ hc3f
      have c2 : (w3.setCell ⟨g, i * 3 + 1, none⟩ (.slice ao3 n cap3)).cell? ⟨g, i * 3 + 2, none⟩ = some (.int .i64 (f.l : Int)) := by
        refine (World.cell?_setCell_other w3 _ _ _ ?_).trans hc3l
        intro e
        simp only [Addr.mk.injEq] at e
        omega
      have c3 : (w3.setCell ⟨g, i * 3 + 1, none⟩ (.slice ao3 n cap3)).frozen? ⟨g, i * 3 + 2, none⟩ = false := (World.frozen?_setCell w3 _ _ _).trans (h3.frz (i * 3 + 2))
      have hrg4 : Rg w wb (.slice (some ⟨g, 0, none⟩) L.length cap) (w3.setCell ⟨g, i * 3 + 1, none⟩ (.slice ao3 n cap3)) := by
        have k1 : Rg W wb (.slice (some ⟨g, 0, none⟩) L.length cap) (w3.setCell ⟨g, i * 3 + 1, none⟩ (.slice ao3 n cap3)) := (Rg.of_below hB3).set g (i * 3 + 1) _ (Or.inr (by simp [Value.ownBlock]))
        exact ⟨k1.os.trans hrgW.os, k1.tape.trans hrgW.tape, k1.output.trans hrgW.output, Nat.le_trans hrgW.size k1.size, fun q hq h1 h2 => (k1.block q (Nat.lt_of_lt_of_le hq hrgW.size) h1 h2).trans (hrgW.block q hq h1 h2)⟩
      have hszW : W.heap.size ≤ (w3.setCell ⟨g, i * 3 + 1, none⟩ (.slice ao3 n cap3)).heap.size := by simpa [World.setCell] using hB3.size
      have hbyt : ∀ z ∈ f.zs.take n, 0 ≤ z ∧ z < 256 := fun z hz => hfl.2.1 z (List.mem_of_mem_take hz)
      -- what is left to do behind the last byte, in whatever world
      have FIN : Hid (∀ (wF : World), Below W.heap.size (w3.setCell ⟨g, i * 3 + 1, none⟩ (.slice ao3 n cap3)) wF → Ow wF W.heap.size (.slice ao3 n cap3) (crB f.zs f.l K t) → Cr3 w base wb g cap room left L K t (i + 1) (L'.set i ⟨f.nm, .slice ao3 n cap3, crB f.zs f.l K t, n⟩) (wF.setCell ⟨g, i * 3 + 2, none⟩ (.int .i64 (n : Int)))) := by
        intro wF hBF hoF
        have hlenB : (crB f.zs f.l K t).length = n := by rw [crB_length f.zs f.l K t hll]; exact HNN.out
        have hbB : ∀ z ∈ crB f.zs f.l K t, 0 ≤ z ∧ z < 256 := crB_byt hfl.2.1 ht
        have hrk' := hrk
        rw [← hlen'] at hrk'
        refine ⟨?_, by simpa using hlen', ?_, ?_, ?_⟩
        · have := hrk'.redo (n := n) hf ((hBF.block g hgW).trans hg3) (fun q hq hne => (hBF.block q hq).trans (hk3 q hq hne)) hoF hbB (by rw [hlenB]; exact Nat.le_refl _)
          rw [hlen'] at this
          exact this
        · rw [abs3_set, habs]
          have e1 := crI_step K t i (abs3 L) (f.nm, f.zs, f.l) hab
          unfold crA at e1
          rw [HNN.out] at e1
          exact e1
        · intro q hq b hb
          rcases List.mem_or_eq_of_mem_set hq with hm | rfl
          · exact hfr' q hm b hb
          · exact Or.inr (Nat.le_trans hrgW.size (hv3 b hb))
        · have k2 : Rg w wb (.slice (some ⟨g, 0, none⟩) L.length cap) wF := ⟨hBF.os.trans hrg4.os, hBF.tape.trans hrg4.tape, hBF.output.trans hrg4.output, Nat.le_trans hrg4.size hBF.size, fun q hq h1 h2 => (hBF.block q (Nat.lt_of_lt_of_le hq hrgW.size)).trans (hrg4.block q hq h1 h2)⟩
          exact k2.set g (i * 3 + 2) _ (Or.inr (by simp [Value.ownBlock]))
      clear hg3 hk3 hrg4 ho3 hc3f hc3l hfr h3 hS hO0 hA2 hof hcb hcf hcl hrgW hB3 hfr' habs hrk hN q1 q3 q4 q5 hfl hab
      generalize w3.setCell ⟨g, i * 3 + 1, none⟩ (.slice ao3 n cap3) = W3 at *
      by_cases hcase : 0 < n ∧ t ≠ 0
      · obtain ⟨hn0, ht0⟩ := hcase
        have g1 : (0 : Int) < (n : Int) := by omega
        have g2 : (t != 0) = true := by simpa using ht0
        have q6 : IntKind.i64.wrap ((n : Int) - 1) = ((n - 1 : Nat) : Int) := by rw [IntKind.wrap_i64]; omega
        have q7 : max (((n - 1 : Nat) : Int) / 32 * 32) (f.l : Int) = (m : Int) := by
          have e1 := HMN.out
          unfold secN at e1
          omega
        have HO4 : Hid (Ow W3 W.heap.size (.slice ao3 n cap3) (xq m m t (f.zs.take n))) := by
          show Ow _ _ _ _
          rw [xq_start]
          exact ho4
        have HTN := hid_into htn
        clear ho4 htn
        go_wp2_with fail
        go_loopw [10] (fun kv wx => ∃ k : Nat, m ≤ k ∧ k ≤ n ∧ kv = .int .i64 (k : Int) ∧ Ow wx W.heap.size (.slice ao3 n cap3) (xq m k t (f.zs.take n)) ∧ Below W.heap.size W3 wx) (fun kv _ => n - (intOf kv).toNat)
        case atStart => exact ⟨m, Nat.le_refl _, HML.out, by first | rfl | (rw [← q7]; rfl) | (rw [← q7]; simp), HO4.out, Below.refl _ _⟩
        case round =>
          clear HO4
          obtain ⟨k, hmk, hkn', rfl, hoi, hBi⟩ := hrel
          have d1 := cell_below hBi c1 hgW
          by_cases hklt : k < n
          · have hxl : (xq m k t (f.zs.take n)).length = n := by rw [xq_length]; exact HTN.out
            obtain ⟨a5, c5, he5, hor⟩ := hoi.form
            rcases hor with ⟨_, _, h0⟩ | ⟨g5, cur, rfl, hg0, hg1, -⟩
            · rw [h0] at hxl
              simp at hxl
              omega
            · simp only [Value.slice.injEq] at he5
              obtain ⟨rfl, -, rfl⟩ := he5
              have hcB := hoi.cell k (by rw [hxl]; exact hklt)
              rw [xq_get] at hcB
              have hfz := hoi.frozen k
              have hset := hoi.set k (xb ((f.zs.take n).getD k 0) t)
              rw [xq_set m k t (f.zs.take n) hmk (by rw [HTN.out]; exact hklt)] at hset
              have hBs := hBi.setCell (p := ⟨g5, k, none⟩) hg0 (.int .u8 (xb ((f.zs.take n).getD k 0) t))
              generalize (f.zs.take n).getD k 0 = z at *
              replace hset := hid_into hset
              replace hBs := hid_into hBs
              have f7 : (0 : Int) ≤ (k : Int) := by omega
              have f8 : (k : Int) < (n : Int) := by omega
              clear hoi hBi hxl FIN
              go_wp2_with fail
              go_roundw
              case rel => exact ⟨k + 1, by omega, by omega, by go_num, hset.out, hBs.out⟩
              case measure => simp [intOf]; omega
          · have hkn2 : k = n := by omega
            subst hkn2
            have d3 := frozen_below hBi c3 hgW
            have d2 := cell_below hBi c2 hgW
            rw [← HBN.out] at hoi
            have HF := hid_into (FIN.out _ hBi hoi)
            clear FIN hoi hBi
            go_wp2_with fail
            go_roundw
            case rel => exact ⟨i + 1, _, by omega, by go_num, HF.out⟩
            case measure => simp [intOf]; omega
      · have HYS : Hid (f.zs.take n = crB f.zs f.l K t) := by
          show _ = _
          by_cases hn0 : n = 0
          · rw [crB_none f.l K t (by rw [HNN.out]; exact hn0), hn0]
            rfl
          · have ht0 : t = 0 := by
              refine Classical.byContradiction fun e => hcase ⟨by omega, e⟩
            rw [ht0, crB_zero HBY.out, HNN.out]
        have HO4 : Hid (Ow W3 W.heap.size (.slice ao3 n cap3) (crB f.zs f.l K t)) := by
          show Ow _ _ _ _
          rw [← HYS.out]
          exact ho4
        clear ho4
        by_cases hn0 : n = 0
        · have g1 : ¬ ((0 : Int) < (n : Int)) := by omega
          clear hcase hn0
          go_wp2_with fail
          go_roundw
          case rel => exact ⟨i + 1, _, by omega, by go_num, FIN.out W3 (Below.refl _ _) HO4.out⟩
          case measure => simp [intOf]; omega
        · have ht0 : t = 0 := Classical.byContradiction fun e => hcase ⟨by omega, e⟩
          have g1 : (0 : Int) < (n : Int) := by omega
          have g2 : (t != 0) = false := by simpa using ht0
          clear hcase ht0
          go_wp2_with fail
          go_roundw
          case rel => exact ⟨i + 1, _, by omega, by go_num, FIN.out W3 (Below.refl _ _) HO4.out⟩
          case measure => simp [intOf]; omega
    · have hil : i = L.length := by omega
      have hab : abs3 L' = (abs3 L).map (crA K t) := by
        rw [hc.ab, hil, ← abs3_len L, crI_all]
      have HL := hid_into (hc.rk.setF (left' := -1))
      have hrg := hc.rg.set wb 2 (.int .i64 (-1)) (Or.inl rfl)
      have hfrz := hc.rk.blk.frozen 2
      have hc2 := hc.rk.blk.cell 2
      simp at hc2
      have hfr' := hc.fr
      have f2 : ¬ ((i : Int) < (L.length : Int)) := by omega
      clear hc hil
      go_wp2_with fail
      go_end0
      exact ⟨rfl, L', HL.out, hab, hfr', hrg⟩
end Go.Proofs.YtnkjhooeklodcaaGreatDoor
end

section
/-
  DiskPlays: the document's Copy, by contract.
-/
namespace Go.Proofs.YtnkjhooeklodcaaGreatDoor
open Go.RowKit Go.Maps Go.Sort

set_option maxHeartbeats 800000 in
theorem crash3_nil (base wb : Nat) (room left : Int) (keep : Int) (t : Value) (w : World) (h : Rk w base wb (.slice none 0 0) room left []) :
    Calls Tryz.prog 21 #[.pointer (some ⟨wb, 0, none⟩), .int .i64 keep, t] w fun e w' => e = .returned (.tuple #[]) ∧ Rk w' base wb (.slice none 0 0) room (-1) [] ∧ Rg w wb (.slice none 0 0) w' := by
  have hcb := h.blk.cell 1
  simp at hcb
  have hc2 := h.blk.cell 2
  simp at hc2
  have hfz := h.blk.frozen 2
  have HL := hid_into (h.setF (left' := -1))
  have HG : Hid (Rg w wb (.slice none 0 0) (w.setCell ⟨wb, 2, none⟩ (.int .i64 (-1)))) := (Rg.of_below (Below.refl _ _)).set wb 2 _ (Or.inl rfl)
  clear h
  go_enter Tryz.func21, Tryz.ntmps21
  go_wp2
  go_loop [6] (fun i => i = .int .i64 0) (fun _ => 0)
  case atStart => rfl
  case round =>
    obtain rfl := hrel
    go_wp2_with fail
    go_end0
    exact ⟨rfl, HL.out, HG.out⟩
theorem wp_made_row3 {o : Oper} {a : Act} {w : World} {K : Act → World → Prop} {Q : Exit → Act → World → Prop} (x : Operand) (ho : o.op = .buildSlice 89 1 #[(0, x)]) (s : List UInt8) (ao : Option Addr) (n c : Nat) (l : Int) (hx : a.eval x = .agg #[encStr s, .slice ao n c, .int .i64 l])
    (h : K (a.put o.dst (.slice (some ⟨w.heap.size, 0, none⟩) 1 1)) (w.alloc (.cells #[encStr s, .slice ao n c, .int .i64 l] 110))) : Oper.wp Tryz.prog o a w K Q := by
  unfold Oper.wp execOp
  simp only [ho, Sem.run_bind, List.map_toArray, List.map_cons, List.map_nil, hx, mk_row1, Result.andThen_ok]
  exact h
structure Cp3 (w : World) (room : Int) (L : List Fl3) (k : Nat) (vO : Value) (LO : List Fl3) (wr : World) : Prop where
  rk : Rk wr w.heap.size w.heap.size vO room (-1) LO
  ab : abs3 LO = (abs3 L).take k
  bel : Below w.heap.size w wr
end Go.Proofs.YtnkjhooeklodcaaGreatDoor
end
