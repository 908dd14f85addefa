/-
  Joined from: VmTab, VmLoop.
-/
import Derived.Test.YtlknolbfhfcflaaGreatM06
import Derived.Laws.EntriesVeiled
section
/-
  The table of the instructions' functions (doings), store, each instruction by its number (meth_any), and a run of the program.
-/
namespace Go.Proofs.YtlknolbfhfcflaaGreat
open Go.RowKit
variable {cv : Value} {i0 i1 fr : Int} {p : Pm} {w w' : World} {g : Nat}
def doR : List Value := [.nilFunc, .func (.func 68) #[] #[], .func (.func 69) #[] #[], .func (.func 70) #[] #[], .func (.func 71) #[] #[], .func (.func 72) #[] #[], .func (.func 73) #[] #[], .func (.func 74) #[] #[], .func (.func 75) #[] #[], .func (.func 76) #[] #[], .func (.func 77) #[] #[], .func (.func 78) #[] #[], .func (.func 79) #[] #[], .func (.func 80) #[] #[], .func (.func 81) #[] #[], .func (.func 82) #[] #[], .func (.func 83) #[] #[], .func (.func 84) #[] #[], .func (.func 85) #[] #[], .func (.func 86) #[] #[], .func (.func 87) #[] #[], .func (.func 88) #[] #[], .func (.func 89) #[] #[]]
def zeroD : List Value := [.nilFunc, .nilFunc, .nilFunc, .nilFunc, .nilFunc, .nilFunc, .nilFunc, .nilFunc, .nilFunc, .nilFunc, .nilFunc, .nilFunc, .nilFunc, .nilFunc, .nilFunc, .nilFunc, .nilFunc, .nilFunc, .nilFunc, .nilFunc, .nilFunc, .nilFunc, .nilFunc]
/-- The function that does an op. -/
def methF : Nat → Nat
  | 1 => 68
  | 2 => 69
  | 3 => 70
  | 4 => 71
  | 5 => 72
  | 6 => 73
  | 7 => 74
  | 8 => 75
  | 9 => 76
  | 10 => 77
  | 11 => 78
  | 12 => 79
  | 13 => 80
  | 14 => 81
  | 15 => 82
  | 16 => 83
  | 17 => 84
  | 18 => 85
  | 19 => 86
  | 20 => 87
  | 21 => 88
  | _ => 89
theorem doR_at : ∀ (n : Nat), 1 ≤ n → n ≤ 22 → doR[n]? = some (.func (.func (methF n)) #[] #[])
  | 1, _, _ => rfl
  | 2, _, _ => rfl
  | 3, _, _ => rfl
  | 4, _, _ => rfl
  | 5, _, _ => rfl
  | 6, _, _ => rfl
  | 7, _, _ => rfl
  | 8, _, _ => rfl
  | 9, _, _ => rfl
  | 10, _, _ => rfl
  | 11, _, _ => rfl
  | 12, _, _ => rfl
  | 13, _, _ => rfl
  | 14, _, _ => rfl
  | 15, _, _ => rfl
  | 16, _, _ => rfl
  | 17, _, _ => rfl
  | 18, _, _ => rfl
  | 19, _, _ => rfl
  | 20, _, _ => rfl
  | 21, _, _ => rfl
  | 22, _, _ => rfl
  | 0, h, _ => absurd h (by omega)
  | n + 23, _, h => absurd h (by omega)
theorem enters_meth (n : Nat) : ∀ args w, (callFunc (methF n) args).run Tryz.prog w = .ok (.enter (methF n) args) w := by
  unfold methF
  split
  · exact enters_of Tryz.func68 (by kernel_rfl) rfl
  · exact enters_of Tryz.func69 (by kernel_rfl) rfl
  · exact enters_of Tryz.func70 (by kernel_rfl) rfl
  · exact enters_of Tryz.func71 (by kernel_rfl) rfl
  · exact enters_of Tryz.func72 (by kernel_rfl) rfl
  · exact enters_of Tryz.func73 (by kernel_rfl) rfl
  · exact enters_of Tryz.func74 (by kernel_rfl) rfl
  · exact enters_of Tryz.func75 (by kernel_rfl) rfl
  · exact enters_of Tryz.func76 (by kernel_rfl) rfl
  · exact enters_of Tryz.func77 (by kernel_rfl) rfl
  · exact enters_of Tryz.func78 (by kernel_rfl) rfl
  · exact enters_of Tryz.func79 (by kernel_rfl) rfl
  · exact enters_of Tryz.func80 (by kernel_rfl) rfl
  · exact enters_of Tryz.func81 (by kernel_rfl) rfl
  · exact enters_of Tryz.func82 (by kernel_rfl) rfl
  · exact enters_of Tryz.func83 (by kernel_rfl) rfl
  · exact enters_of Tryz.func84 (by kernel_rfl) rfl
  · exact enters_of Tryz.func85 (by kernel_rfl) rfl
  · exact enters_of Tryz.func86 (by kernel_rfl) rfl
  · exact enters_of Tryz.func87 (by kernel_rfl) rfl
  · exact enters_of Tryz.func88 (by kernel_rfl) rfl
  · exact enters_of Tryz.func89 (by kernel_rfl) rfl
theorem Tryz.size108 : (Tryz.prog.info? 108).map (·.size) = some 23 := by kernel_rfl
theorem Tryz.zero108 : (Tryz.prog.info? 108).bind (·.zero) = some (.agg zeroD.toArray) := by kernel_rfl
set_option maxRecDepth 100000 in
set_option maxHeartbeats 4000000 in
theorem doings_any (w : World) : Calls Tryz.prog 57 #[] w fun e w' => e = .returned (.agg doR.toArray) ∧ Below w.heap.size w w' := by
  obtain ⟨cs, hcs⟩ : ∃ cs, cs = doR := ⟨_, rfl⟩
  obtain ⟨os, hos⟩ : ∃ os, os = zeroD := ⟨_, rfl⟩
  rw [← hcs]
  have HI : Hid ((Tryz.prog.info? 108).map (·.size) = some os.length) := by rw [hos]; exact Tryz.size108
  have HI2 : Hid ((Tryz.prog.info? 108).map (·.size) = some cs.length) := by rw [hcs]; exact Tryz.size108
  have HL : Hid (os.length = cs.length) := by rw [hos, hcs]; exact hid_into rfl
  have HC : Hid (∀ v ∈ cs, v.oneCell' = true) := by rw [hcs]; exact hid_into (by decide)
  have HO : Hid ((Tryz.prog.info? 108).bind (·.zero) = some (.agg os.toArray)) := by rw [hos]; exact Tryz.zero108
  have HE : Hid (doR = cs) := hid_into hcs.symm
  clear hcs hos
  go_enter Tryz.func57, Tryz.ntmps57
  refine wp_seq (wp_region_lit (wpList_alloc_row rfl 108 rfl os HO.out ?_))
  intro W1 hc1 B1 HS1
  refine wpList_nil ?_
  go_wp2_with (refine wpList_store_rw rfl 108 (.tmp 0) (.tmp 1) rfl w.heap.size os cs 108 rfl (congrArg (fun l : List Value => Value.agg l.toArray) HE.out) hc1 HI HL HC.out ?_; intro W2 hc2 O2)
  exact ret_row rfl rfl rfl hc2 Tryz.underlying108 rfl HI2 ⟨rfl, B1.trans (O2.below (Nat.le_refl _))⟩
set_option maxHeartbeats 1000000 in
theorem storeI_any (k : Nat) (hk : k < 16) (h : Mw w g cv i0 i1 fr p) :
    Calls Tryz.prog 70 #[.pointer (some ⟨g, 0, none⟩), .int .i64 (k : Int)] w fun e w' => e = .returned (.tuple #[]) ∧ Mw w' g cv i0 i1 fr { p.take with cells := p.cells.set k p.top } ∧ Gg g w w' := by
  have H := hid_into (h.keep (w' := w.drew) rfl)
  have HT := hid_into h.wf.top
  have HC : Hid (p.take.cells = p.cells) := by show _ = _; unfold Pm.take; split <;> rfl
  clear h
  go_enter Tryz.func70, Tryz.ntmps70
  go_wp2_with fail
  go_region_with (go_at_call 94; refine (take_any H.out).mono ?_; rintro e w1 ⟨rfl, H1, O1⟩; have c1 := H1.cell k hk; have f1 := H1.row.frozen (4 + k); have H2 := hid_into (H1.setCell k hk _ HT.out); clear H1)
  go_wp2_with fail
  go_end0
  rw [HC.out] at H2
  exact ⟨rfl, H2.out, ⟨O1.os, O1.tape, O1.output, by rw [World.size_setCell, O1.size]; exact Nat.le_refl _, fun j _ hj => (Below.heap_setCell _ _ _ _ hj).trans (O1.block j hj)⟩⟩
/-- Each instruction, by its number. -/
theorem meth_any (x : Ii) (ao : Option Addr) (n cap : Nat) (hx : mayI x n = true) (hn : n ≤ 256) (hi : Ins3 fr i0 i1) (k : Nat) (hk : x.1 = k) (h : Mw w g (.slice ao n cap) i0 i1 fr p) :
    Calls Tryz.prog (methF k) #[.pointer (some ⟨g, 0, none⟩), .int .i64 x.2] w fun e w' => e = .returned (.tuple #[]) ∧ Mw w' g (.slice ao n cap) i0 i1 fr (opP fr i0 i1 n x p) ∧ Gg g w w' := by
  obtain ⟨o, a⟩ := x
  simp only at hk
  subst hk
  have h1 := mayI_op hx
  have h32 := mayI_arg hx (by omega)
  simp only at h1 h32
  have k1 : 1 ≤ k := by omega
  have k2 : k ≤ 22 := by omega
  match k, k1, k2, hx with
  | 1, _, _, _ => exact push_any a h32 h
  | 2, _, _, hx =>
    have h2 : decide (0 ≤ a ∧ a < 16) = true := hx
    simp only [decide_eq_true_eq] at h2
    obtain ⟨j, rfl⟩ := Int.eq_ofNat_of_zero_le h2.1
    exact load_any j (by omega) h
  | 3, _, _, hx =>
    have h2 : decide (0 ≤ a ∧ a < 16) = true := hx
    simp only [decide_eq_true_eq] at h2
    obtain ⟨j, rfl⟩ := Int.eq_ofNat_of_zero_le h2.1
    exact storeI_any j (by omega) h
  | 4, _, _, _ => exact addI_any a h
  | 5, _, _, _ => exact subI_any a h
  | 6, _, _, _ => exact mulI_any a h
  | 7, _, _, _ => exact divI_any a h
  | 8, _, _, _ => exact minI_any a h
  | 9, _, _, _ => exact maxI_any a h
  | 10, _, _, _ => exact lessI_any a h
  | 11, _, _, _ => exact sameI_any a h
  | 12, _, _, _ => exact notI_any a h
  | 13, _, _, _ => exact dup_any a h
  | 14, _, _, _ => exact swap_any a h
  | 15, _, _, _ => exact drop_any a h
  | 16, _, _, hx =>
    have h2 : decide (a = 0 ∨ a = 1) = true := hx
    simp only [decide_eq_true_eq] at h2
    rcases h2 with rfl | rfl
    · exact input0_any hi h
    · exact input1_any hi h
  | 17, _, _, _ => exact frame_any hi a h
  | 18, _, _, _ => exact jump_any a h
  | 19, _, _, _ => exact zero_any a h
  | 20, _, _, _ => exact win_any a ao n cap h
  | 21, _, _, _ => exact rand_any a h
  | 22, _, _, _ => exact halt_any a ao n cap h
  | 0, h, _, _ => exact absurd h (by omega)
  | k + 23, _, h, _ => exact absurd h (by omega)
end Go.Proofs.YtlknolbfhfcflaaGreat
end

section
/-
  A run of the program: the machine's run, by a contract.
-/
namespace Go.Proofs.YtlknolbfhfcflaaGreat
open Go.RowKit
variable {cv : Value} {i0 i1 fr : Int} {p : Pm} {w w' : World} {g : Nat}
/-- How a run stands: it agrees with what is left of the plain run R, or both have failed. -/
def Runs (l : List Ii) (fr i0 i1 : Int) (R : Option Mp) (f : Nat) (p : Pm) : Prop := (∃ m, Rep p m ∧ runI fr i0 i1 l f m = R) ∨ (R = none ∧ p.err ≠ 0)
theorem Mw.gg (h : Mw w g cv i0 i1 fr p) {k : Nat} (hk : k ≠ g) (hb : Gg k w w') : Mw w' g cv i0 i1 fr p := h.keep (hb.block g h.lt (Ne.symm hk))
theorem Ls.gg {v : Value} {l : List Ii} (h : Ls w v l) (hb : Gg g w w') (hg : l ≠ [] → v.ownBlock ≠ some g) : Ls w' v l := by
  by_cases hl : l = []
  · rcases h with h | ⟨h, _⟩
    · exact Or.inl h
    · exact absurd hl h
  · exact h.keep fun k hk hlt => hb.block k hlt fun e => hg hl (by rw [hk, e])
theorem Cw.gg {cs : List Value} {t : TypeId} {k : Nat} (h : Cw w k cs t) (hb : Gg g w w') (hg : k ≠ g) : Cw w' k cs t := h.keep (hb.block k h.lt hg)
theorem runI_step {l : List Ii} {m : Mp} {x : Ii} (k : Nat) (hx : l[m.pc]? = some x) : runI fr i0 i1 l (k + 1) m = (doI fr i0 i1 l.length x m).bind (runI fr i0 i1 l k) := by
  rw [runI, hx]
  simp only
  cases doI fr i0 i1 l.length x m <;> rfl
theorem runI_end {l : List Ii} {m : Mp} (k : Nat) (h : l.length ≤ m.pc) : runI fr i0 i1 l k m = some m := by
  cases k with
  | zero => exact if_pos h
  | succ k => rw [runI, List.getElem?_eq_none h]
theorem runI_dry {l : List Ii} {m : Mp} (h : m.pc < l.length) : runI fr i0 i1 l 0 m = none := if_neg (by omega)
/-- What a run leaves. -/
def RunP (w : World) (g : Nat) (cv : Value) (i0 i1 fr : Int) (R : Option Mp) (er : Int) (w' : World) : Prop :=
  ∃ p, Mw w' g cv i0 i1 fr p ∧ Gg g w w' ∧ ((er = 0 ∧ ∃ m, R = some m ∧ Rep p m) ∨ (er ≠ 0 ∧ R = none))
set_option maxRecDepth 20000 in
set_option maxHeartbeats 4000000 in
theorem run_any (l : List Ii) (ao : Option Addr) (cap f : Nat) (m : Mp) (hl : Ls w (.slice ao l.length cap) l) (ho : Okp l) (hg : l ≠ [] → (Value.slice ao l.length cap).ownBlock ≠ some g) (hi : Ins3 fr i0 i1) (hf : f ≤ 2000) (h : Mw w g (.slice ao l.length cap) i0 i1 fr p) (hr : Rep p m) :
    Calls Tryz.prog 48 #[.pointer (some ⟨g, 0, none⟩), .int .i64 (f : Int)] w fun e w' => ∃ er, e = .returned (.int .i64 er) ∧ RunP w g (.slice ao l.length cap) i0 i1 fr (runI fr i0 i1 l f m) er w' := by
  obtain ⟨R, hR⟩ : ∃ R, R = runI fr i0 i1 l f m := ⟨_, rfl⟩
  rw [← hR]
  have HR0 : Hid (Runs l fr i0 i1 R f p) := Or.inl ⟨m, hr, hR.symm⟩
  have HL := hid_into hl
  have HO := hid_into ho
  have HG := hid_into hg
  have HI := hid_into hi
  have H := hid_into h
  have hn := ho.len
  obtain ⟨cs, hcs⟩ : ∃ cs, cs = doR := ⟨_, rfl⟩
  obtain ⟨os, hos⟩ : ∃ os, os = zeroD := ⟨_, rfl⟩
  have HIs : Hid ((Tryz.prog.info? 108).map (·.size) = some os.length) := by rw [hos]; exact Tryz.size108
  have HLn : Hid (os.length = cs.length) := by rw [hos, hcs]; exact hid_into rfl
  have HC : Hid (∀ v ∈ cs, v.oneCell' = true) := by rw [hcs]; exact hid_into (by decide)
  have HZ : Hid ((Tryz.prog.info? 108).bind (·.zero) = some (.agg os.toArray)) := by rw [hos]; exact Tryz.zero108
  have HD : ∀ W, Calls Tryz.prog 57 #[] W fun e w' => e = .returned (.agg cs.toArray) ∧ Below W.heap.size W w' := by rw [hcs]; exact doings_any
  have HE : Hid (cs = doR) := hid_into hcs
  have HGl := hid_into h.lt
  clear hcs hos hl ho hg hi h hr hR
  go_enter Tryz.func48, Tryz.ntmps48
  go_wp2_with (first
    | (go_at_call 57; refine (HD _).mono ?_; rintro e w1 ⟨rfl, B1⟩)
    | (refine wpList_alloc_row rfl 108 rfl os HZ.out ?_; intro W1 hc1 B2 HS1)
    | (refine wpList_store_rw rfl 108 (.tmp 5) (.tmp 7) rfl w1.heap.size os cs 108 rfl rfl hc1 HIs HLn HC.out ?_; intro W2 hc2 O2))
  have HT : Hid (Cw W2 w1.heap.size doR 108) := by
    have e := HE.out
    subst e
    exact hc2
  have HB : Hid (Below w.heap.size w W2) := B1.trans ((B2.mono B1.size).trans (O2.below B1.size))
  have HTg : Hid (w1.heap.size ≠ g ∧ w.heap.size ≤ w1.heap.size) := ⟨by have := HGl.out; have := B1.size; omega, B1.size⟩
  have HM : Hid (Mw W2 g (.slice ao l.length cap) i0 i1 fr p) := H.out.below HB.out
  have HGg : Hid (Gg g w W2) := Below.gg HB.out
  clear HE hc1 hc2 O2 B2 HS1 HZ HIs HLn HC HD H HGl
  simp only [Act.put, List.setIfInBounds_toArray, List.set_cons_zero, List.set_cons_succ]
  go_loopw [1] (fun i wr => ∃ (k : Nat) (q : Pm), k ≤ 2000 ∧ i = .int .i64 (k : Int) ∧ Hid (Runs l fr i0 i1 R k q) ∧ Hid (Mw wr g (.slice ao l.length cap) i0 i1 fr q) ∧ Hid (Cw wr w1.heap.size doR 108) ∧ Hid (Gg g w wr)) (fun i _ => (intOf i).toNat)
  case atStart => exact ⟨f, p, hf, rfl, HR0.out, HM.out, HT.out, HGg.out⟩
  case round =>
    clear HT HM HGg HR0
    obtain ⟨k, q, hk, rfl, HR, HM, HT, HGg⟩ := hrel
    have c1 := HM.out.err
    have c2 := HM.out.pc
    have c3 := HM.out.code
    by_cases herr : q.err = 0
    · obtain ⟨m1, hrep, hrun⟩ : ∃ m, Rep q m ∧ runI fr i0 i1 l k m = R := by
        rcases HR.out with h1 | ⟨_, h2⟩
        · exact h1
        · exact absurd herr h2
      clear HR
      have HRep := hid_into hrep
      rw [herr] at c1
      rw [hrep.pc] at c2
      clear hrep
      by_cases hpc : m1.pc < l.length
      · obtain ⟨x, hx⟩ : ∃ x, l[m1.pc]? = some x := ⟨_, List.getElem?_eq_getElem hpc⟩
        cases k with
        | zero =>
          have HN : Hid (R = none) := hrun.symm.trans (runI_dry hpc)
          clear hrun hx
          go_wp2_with fail
          go_quiet (fail)
          go_wp2_with fail
          go_ret
          exact ⟨_, rfl, q, HM.out.keep rfl, HGg.out.drewN _, Or.inr ⟨by omega, HN.out⟩⟩
        | succ k =>
          have HRun := hid_into ((runI_step k hx).symm.trans hrun)
          have HX := hid_into (HO.out.may x (List.mem_of_getElem? hx))
          have hop := mayI_op HX.out
          obtain ⟨ga, off, hao, x0, x1⟩ := (HL.out.gg HGg.out HG.out).at (Below.refl wr.heap.size wr) (Nat.le_refl _) _ _ hx
          subst hao
          obtain ⟨o, a⟩ := x
          simp only at x0 x1 hop
          obtain ⟨n, rfl⟩ := Int.eq_ofNat_of_zero_le (show 0 ≤ o by omega)
          have hgl := HM.out.lt
          have hgg : ga ≠ g := fun e => HG.out (fun e0 => by rw [e0] at hpc; simp at hpc) (by rw [e]; rfl)
          generalize hj : m1.pc = j at hpc hx x0 x1 c2
          have HJ := hid_into hj
          clear hj
          clear hrun hx
          go_wp2_with fail
          go_quiet (fail)
          go_wp2_with fail
          have hs : Sm wr (wr.drewN nq) := Sm.drewN _ _
          generalize wr.drewN nq = W at hs ⊢
          have HM2 := hid_into (HM.out.keep (w' := W) (by rw [hs.heap]))
          have HT2 := hid_into (hs.cw HT.out)
          have HGg2 : Hid (Gg g w W) := HGg.out.trans ⟨hs.os, hs.tape, hs.output, by rw [hs.size]; exact Nat.le_refl _, fun k _ _ => by rw [hs.heap]⟩
          have hgl2 := HM2.out.lt
          have d1 := HM2.out.code
          have d2 := HM2.out.pc
          rw [HRep.out.pc, HJ.out] at d2
          have y0 : W.cell? ⟨ga, off + j * 2, none⟩ = some (.int .i64 (n : Int)) := by rw [World.cell?_of_block (w := wr) (by rw [hs.heap])]; exact x0
          have y1 : W.cell? ⟨ga, off + j * 2 + 1, none⟩ = some (.int .i64 a) := by rw [World.cell?_of_block (w := wr) (by rw [hs.heap])]; exact x1
          have hal := World.block_lt_of_cell? W _ y0
          simp only at hal
          clear x0 x1 c1 c2 c3 HM HT HGg hs hgl
          have HS : Hid (∀ V, Below W.heap.size W V → V.cell? ⟨g, 0, none⟩ = some (.slice (some ⟨ga, off, none⟩) l.length cap) ∧ V.cell? ⟨g, 56, none⟩ = some (.int .i64 (j : Int)) ∧ V.cell? ⟨ga, off + j * 2, none⟩ = some (.int .i64 (n : Int)) ∧ V.cell? ⟨ga, off + j * 2 + 1, none⟩ = some (.int .i64 a)) := fun V hV =>
            ⟨(hV.cell (p := ⟨g, 0, none⟩) hgl2).trans d1, (hV.cell (p := ⟨g, 56, none⟩) hgl2).trans d2, (hV.cell (p := ⟨ga, off + j * 2, none⟩) hal).trans y0, (hV.cell (p := ⟨ga, off + j * 2 + 1, none⟩) hal).trans y1⟩
          have S1 := HS.out W.drew (Below.refl _ _).drew
          have S2 := HS.out (W.drew.alloc (.cells #[.int .i64 0, .int .i64 0] 56)) ((Below.refl W.heap.size W).drew.alloc (Nat.le_refl _) _)
          have S3 := HS.out ((W.alloc (.cells #[.int .i64 (n : Int), .int .i64 a] 56)).drew) ((Below.refl W.heap.size W).alloc (Nat.le_refl _) _).drew
          clear d1 d2 y0 y1
          go_region_held3 (fun V => V.cell? ⟨g, 0, none⟩ = some (.slice (some ⟨ga, off, none⟩) l.length cap) ∧ V.cell? ⟨g, 56, none⟩ = some (.int .i64 (j : Int)) ∧ V.cell? ⟨ga, off + j * 2, none⟩ = some (.int .i64 (n : Int)) ∧ V.cell? ⟨ga, off + j * 2 + 1, none⟩ = some (.int .i64 a)) (first | exact S1 | exact S2 | exact S3) (fail)
          have BV : Hid (Below W.heap.size W (W.alloc (.cells #[.int .i64 (n : Int), .int .i64 a] 56)).drew) := ((Below.refl W.heap.size W).alloc (Nat.le_refl _) _).drew
          have HX1 : Cw (W.alloc (.cells #[.int .i64 (n : Int), .int .i64 a] 56)).drew W.heap.size [.int .i64 (n : Int), .int .i64 a] 56 := (Cw.new W [.int .i64 (n : Int), .int .i64 a] 56).keep rfl
          have hxl := HX1.lt
          clear S1 S2 S3 HS hal
          generalize (W.alloc (.cells #[.int .i64 (n : Int), .int .i64 a] 56)).drew = V at BV HX1 hxl ⊢
          have HM3 := hid_into (HM2.out.below BV.out)
          have e2 := HM3.out.pc
          rw [HRep.out.pc, HJ.out] at e2
          have f2 := HM3.out.row.frozen 56
          have HT3 := hid_into (HT2.out.below BV.out HT2.out.lt)
          have HM4 := hid_into (HM3.out.setPc ((j : Int) + 1))
          have z0 := HX1.cell 0
          have z1 := HX1.cell 1
          simp only [List.getElem?_cons_zero, List.getElem?_cons_succ] at z0 z1
          have hne : W.heap.size ≠ g := by omega
          have z2 := (HT3.out.cell n).trans (doR_at n (by omega) (by omega))
          have hne2 := HTg.out.1
          go_wp2_with fail
          have OV : Hid (Only g V (V.setCell ⟨g, 56, none⟩ (.int .i64 ((j : Int) + 1)))) := Only.set _ _ _ _
          have z0' : (V.setCell ⟨g, 56, none⟩ (.int .i64 ((j : Int) + 1))).cell? ⟨W.heap.size, 0, none⟩ = some (.int .i64 (n : Int)) := by rw [World.cell?_of_block (w := V) (OV.out.block _ hne)]; exact z0
          have z1' : (V.setCell ⟨g, 56, none⟩ (.int .i64 ((j : Int) + 1))).cell? ⟨W.heap.size, 1, none⟩ = some (.int .i64 a) := by rw [World.cell?_of_block (w := V) (OV.out.block _ hne)]; exact z1
          have z2' : (V.setCell ⟨g, 56, none⟩ (.int .i64 ((j : Int) + 1))).cell? ⟨w1.heap.size, n, none⟩ = some (.func (.func (methF n)) #[] #[]) := by rw [World.cell?_of_block (w := V) (OV.out.block _ hne2)]; exact z2
          clear z0 z1 z2 e2 f2 HX1 hxl
          have HT4 := hid_into (OV.out.cw HT3.out hne2)
          generalize V.setCell ⟨g, 56, none⟩ (.int .i64 ((j : Int) + 1)) = U at HM4 OV z0' z1' z2' HT4 ⊢
          have hent := enters_meth n
          have hmeth := meth_any ((n : Int), a) (some ⟨ga, off, none⟩) l.length cap HX.out hn HI.out n rfl (HM4.out.keep (w' := U.drew) rfl)
          simp only at hmeth
          have hn23 : n < 23 := by omega
          have hn23' : (n : Int) < 23 := by omega
          generalize methF n = fm at hent hmeth z2'
          have S4 : U.drew.cell? ⟨W.heap.size, 0, none⟩ = some (.int .i64 (n : Int)) ∧ U.drew.cell? ⟨W.heap.size, 1, none⟩ = some (.int .i64 a) ∧ U.drew.cell? ⟨w1.heap.size, n, none⟩ = some (.func (.func fm) #[] #[]) := ⟨z0', z1', z2'⟩
          have HS4 : Hid (∀ V, Gg g U V → V.cell? ⟨W.heap.size, 0, none⟩ = some (.int .i64 (n : Int)) ∧ V.cell? ⟨W.heap.size, 1, none⟩ = some (.int .i64 a) ∧ V.cell? ⟨w1.heap.size, n, none⟩ = some (.func (.func fm) #[] #[])) := fun V hV => by
            have l0 := World.block_lt_of_cell? U _ z0'
            have l2 := World.block_lt_of_cell? U _ z2'
            exact ⟨(World.cell?_of_block (w := U) (hV.block _ l0 hne)).trans z0', (World.cell?_of_block (w := U) (a := ⟨W.heap.size, 1, none⟩) (hV.block _ l0 hne)).trans z1', (World.cell?_of_block (w := U) (hV.block _ l2 hne2)).trans z2'⟩
          go_region_held3 (fun V => V.cell? ⟨W.heap.size, 0, none⟩ = some (.int .i64 (n : Int)) ∧ V.cell? ⟨W.heap.size, 1, none⟩ = some (.int .i64 a) ∧ V.cell? ⟨w1.heap.size, n, none⟩ = some (.func (.func fm) #[] #[])) (first | exact S4 | exact S5) (first | (go_at_fn fm; refine hmeth.mono ?_; rintro e w3 ⟨rfl, hM5, hG5⟩; have hG6 : Gg g U w3 := ⟨hG5.os, hG5.tape, hG5.output, hG5.size, hG5.block⟩; have S5 := HS4.out w3 hG6))
          go_wp2_with fail
          go_roundw
          case rel =>
            have hA : Agree (opP fr i0 i1 l.length ((n : Int), a) { q with pc := (j : Int) + 1 }) (doI fr i0 i1 l.length ((n : Int), a) m1) := by
              refine opP_agrees (m := m1) ?_ HM4.out.wf HX.out
              have h0 := HRep.out
              exact ⟨h0.cells, h0.seed, h0.over, h0.win, h0.st, by show (j : Int) + 1 - 1 = _; rw [HJ.out]; omega, h0.err⟩
            have hG : Gg g W w3 := (Below.gg BV.out).trans (OV.out.gg.trans hG6)
            refine ⟨k, _, by omega, by go_num, ?_, hM5, HT4.out.gg hG6 hne2, HGg2.out.trans hG⟩
            have hR := HRun.out
            rcases hA with ⟨m2, e2, r2⟩ | ⟨e2, r2⟩
            · rw [e2] at hR
              exact Or.inl ⟨m2, r2, hR⟩
            · rw [e2] at hR
              exact Or.inr ⟨hR.symm, r2⟩
          case measure => simp [intOf]
      · have HN : Hid (R = some m1) := hrun.symm.trans (runI_end k (by omega))
        clear hrun
        go_wp2_with fail
        go_quiet (fail)
        go_wp2_with fail
        go_ret
        exact ⟨_, rfl, q, HM.out.keep rfl, HGg.out.drewN _, Or.inl ⟨rfl, m1, HN.out, HRep.out⟩⟩
    · have he2 : (q.err == 0) = false := by simp [herr]
      go_wp2_with fail
      go_quiet (fail)
      go_wp2_with fail
      go_ret
      refine ⟨_, rfl, q, HM.out.keep rfl, HGg.out.drewN _, Or.inr ⟨herr, ?_⟩⟩
      rcases HR.out with ⟨m1, h1, _⟩ | ⟨h1, _⟩
      · exact absurd h1.err herr
      · exact h1
end Go.Proofs.YtlknolbfhfcflaaGreat
end
