/-
  Joined from: VmTab, VmLoop, VmSt, VmEnd.
-/
import Derived.Test.YtbfldcieibdapabGreatM05
import Derived.Laws.EntriesVeiled
import Derived.Laws.ResultCell
section
/-
  The table of the instructions' functions (doings), store, each instruction by its number (meth_any), and a run of the program.
-/
namespace Go.Proofs.YtbfldcieibdapabGreat
open Go.RowKit
variable {cv : Value} {i0 i1 fr : Int} {p : Pm} {w w' : World} {g : Nat}
def doR : List Value := [.nilFunc, .func (.func 94) #[] #[], .func (.func 95) #[] #[], .func (.func 96) #[] #[], .func (.func 97) #[] #[], .func (.func 98) #[] #[], .func (.func 99) #[] #[], .func (.func 100) #[] #[], .func (.func 101) #[] #[], .func (.func 102) #[] #[], .func (.func 103) #[] #[], .func (.func 104) #[] #[], .func (.func 105) #[] #[], .func (.func 106) #[] #[], .func (.func 107) #[] #[], .func (.func 108) #[] #[], .func (.func 109) #[] #[], .func (.func 110) #[] #[], .func (.func 111) #[] #[], .func (.func 112) #[] #[], .func (.func 113) #[] #[], .func (.func 114) #[] #[], .func (.func 115) #[] #[]]
def zeroD : List Value := [.nilFunc, .nilFunc, .nilFunc, .nilFunc, .nilFunc, .nilFunc, .nilFunc, .nilFunc, .nilFunc, .nilFunc, .nilFunc, .nilFunc, .nilFunc, .nilFunc, .nilFunc, .nilFunc, .nilFunc, .nilFunc, .nilFunc, .nilFunc, .nilFunc, .nilFunc, .nilFunc]
/-- The function that does an op. -/
def methF : Nat → Nat
  | 1 => 94
  | 2 => 95
  | 3 => 96
  | 4 => 97
  | 5 => 98
  | 6 => 99
  | 7 => 100
  | 8 => 101
  | 9 => 102
  | 10 => 103
  | 11 => 104
  | 12 => 105
  | 13 => 106
  | 14 => 107
  | 15 => 108
  | 16 => 109
  | 17 => 110
  | 18 => 111
  | 19 => 112
  | 20 => 113
  | 21 => 114
  | _ => 115
theorem doR_at : ∀ (n : Nat), 1 ≤ n → n ≤ 22 → doR[n]? = some (.func (.func (methF n)) #[] #[])
  | 1, _, _ => rfl
  | 2, _, _ => rfl
  | 3, _, _ => rfl
  | 4, _, _ => rfl
  | 5, _, _ => rfl
  | 6, _, _ => rfl
  | 7, _, _ => rfl
  | 8, _, _ => rfl
  | 9, _, _ => rfl
  | 10, _, _ => rfl
  | 11, _, _ => rfl
  | 12, _, _ => rfl
  | 13, _, _ => rfl
  | 14, _, _ => rfl
  | 15, _, _ => rfl
  | 16, _, _ => rfl
  | 17, _, _ => rfl
  | 18, _, _ => rfl
  | 19, _, _ => rfl
  | 20, _, _ => rfl
  | 21, _, _ => rfl
  | 22, _, _ => rfl
  | 0, h, _ => absurd h (by omega)
  | n + 23, _, h => absurd h (by omega)
theorem enters_meth (n : Nat) : ∀ args w, (callFunc (methF n) args).run Tryz.prog w = .ok (.enter (methF n) args) w := by
  unfold methF
  split
  · exact enters_of Tryz.func94 (by kernel_rfl) rfl
  · exact enters_of Tryz.func95 (by kernel_rfl) rfl
  · exact enters_of Tryz.func96 (by kernel_rfl) rfl
  · exact enters_of Tryz.func97 (by kernel_rfl) rfl
  · exact enters_of Tryz.func98 (by kernel_rfl) rfl
  · exact enters_of Tryz.func99 (by kernel_rfl) rfl
  · exact enters_of Tryz.func100 (by kernel_rfl) rfl
  · exact enters_of Tryz.func101 (by kernel_rfl) rfl
  · exact enters_of Tryz.func102 (by kernel_rfl) rfl
  · exact enters_of Tryz.func103 (by kernel_rfl) rfl
  · exact enters_of Tryz.func104 (by kernel_rfl) rfl
  · exact enters_of Tryz.func105 (by kernel_rfl) rfl
  · exact enters_of Tryz.func106 (by kernel_rfl) rfl
  · exact enters_of Tryz.func107 (by kernel_rfl) rfl
  · exact enters_of Tryz.func108 (by kernel_rfl) rfl
  · exact enters_of Tryz.func109 (by kernel_rfl) rfl
  · exact enters_of Tryz.func110 (by kernel_rfl) rfl
  · exact enters_of Tryz.func111 (by kernel_rfl) rfl
  · exact enters_of Tryz.func112 (by kernel_rfl) rfl
  · exact enters_of Tryz.func113 (by kernel_rfl) rfl
  · exact enters_of Tryz.func114 (by kernel_rfl) rfl
  · exact enters_of Tryz.func115 (by kernel_rfl) rfl
theorem Tryz.size138 : (Tryz.prog.info? 138).map (·.size) = some 23 := by kernel_rfl
theorem Tryz.zero138 : (Tryz.prog.info? 138).bind (·.zero) = some (.agg zeroD.toArray) := by kernel_rfl
set_option maxRecDepth 100000 in
set_option maxHeartbeats 4000000 in
theorem doings_any (w : World) : Calls Tryz.prog 79 #[] w fun e w' => e = .returned (.agg doR.toArray) ∧ Below w.heap.size w w' := by
  obtain ⟨cs, hcs⟩ : ∃ cs, cs = doR := ⟨_, rfl⟩
  obtain ⟨os, hos⟩ : ∃ os, os = zeroD := ⟨_, rfl⟩
  rw [← hcs]
  have HI : Hid ((Tryz.prog.info? 138).map (·.size) = some os.length) := by rw [hos]; exact Tryz.size138
  have HI2 : Hid ((Tryz.prog.info? 138).map (·.size) = some cs.length) := by rw [hcs]; exact Tryz.size138
  have HL : Hid (os.length = cs.length) := by rw [hos, hcs]; exact hid_into rfl
  have HC : Hid (∀ v ∈ cs, v.oneCell' = true) := by rw [hcs]; exact hid_into (by decide)
  have HO : Hid ((Tryz.prog.info? 138).bind (·.zero) = some (.agg os.toArray)) := by rw [hos]; exact Tryz.zero138
  have HE : Hid (doR = cs) := hid_into hcs.symm
  clear hcs hos
  go_enter Tryz.func79, Tryz.ntmps79
  refine wp_seq (wp_region_lit (wpList_alloc_row rfl 138 rfl os HO.out ?_))
  intro W1 hc1 B1 HS1
  refine wpList_nil ?_
  go_wp2_with (refine wpList_store_rw rfl 138 (.tmp 0) (.tmp 1) rfl w.heap.size os cs 138 rfl (congrArg (fun l : List Value => Value.agg l.toArray) HE.out) hc1 HI HL HC.out ?_; intro W2 hc2 O2)
  exact ret_row rfl rfl rfl hc2 Tryz.underlying138 rfl HI2 ⟨rfl, B1.trans (O2.below (Nat.le_refl _))⟩
set_option maxHeartbeats 1000000 in
theorem storeI_any (k : Nat) (hk : k < 16) (h : Mw w g cv i0 i1 fr p) :
    Calls Tryz.prog 96 #[.pointer (some ⟨g, 0, none⟩), .int .i64 (k : Int)] w fun e w' => e = .returned (.tuple #[]) ∧ Mw w' g cv i0 i1 fr { p.take with cells := p.cells.set k p.top } ∧ Gg g w w' := by
  have H := hid_into (h.keep (w' := w.drew) rfl)
  have HT := hid_into h.wf.top
  have HC : Hid (p.take.cells = p.cells) := by show _ = _; unfold Pm.take; split <;> rfl
  clear h
  go_enter Tryz.func96, Tryz.ntmps96
  go_wp2_with fail
  go_region_with (go_at_call 122; refine (take_any H.out).mono ?_; rintro e w1 ⟨rfl, H1, O1⟩; have c1 := H1.cell k hk; have f1 := H1.row.frozen (4 + k); have H2 := hid_into (H1.setCell k hk _ HT.out); clear H1)
  go_wp2_with fail
  go_end0
  rw [HC.out] at H2
  exact ⟨rfl, H2.out, ⟨O1.os, O1.tape, O1.output, by rw [World.size_setCell, O1.size]; exact Nat.le_refl _, fun j _ hj => (Below.heap_setCell _ _ _ _ hj).trans (O1.block j hj)⟩⟩
/-- Each instruction, by its number. -/
theorem meth_any (x : Ii) (ao : Option Addr) (n cap : Nat) (hx : mayI x n = true) (hn : n ≤ 256) (hi : Ins3 fr i0 i1) (k : Nat) (hk : x.1 = k) (h : Mw w g (.slice ao n cap) i0 i1 fr p) :
    Calls Tryz.prog (methF k) #[.pointer (some ⟨g, 0, none⟩), .int .i64 x.2] w fun e w' => e = .returned (.tuple #[]) ∧ Mw w' g (.slice ao n cap) i0 i1 fr (opP fr i0 i1 n x p) ∧ Gg g w w' := by
  obtain ⟨o, a⟩ := x
  simp only at hk
  subst hk
  have h1 := mayI_op hx
  have h32 := mayI_arg hx (by omega)
  simp only at h1 h32
  have k1 : 1 ≤ k := by omega
  have k2 : k ≤ 22 := by omega
  match k, k1, k2, hx with
  | 1, _, _, _ => exact push_any a h32 h
  | 2, _, _, hx =>
    have h2 : decide (0 ≤ a ∧ a < 16) = true := hx
    simp only [decide_eq_true_eq] at h2
    obtain ⟨j, rfl⟩ := Int.eq_ofNat_of_zero_le h2.1
    exact load_any j (by omega) h
  | 3, _, _, hx =>
    have h2 : decide (0 ≤ a ∧ a < 16) = true := hx
    simp only [decide_eq_true_eq] at h2
    obtain ⟨j, rfl⟩ := Int.eq_ofNat_of_zero_le h2.1
    exact storeI_any j (by omega) h
  | 4, _, _, _ => exact addI_any a h
  | 5, _, _, _ => exact subI_any a h
  | 6, _, _, _ => exact mulI_any a h
  | 7, _, _, _ => exact divI_any a h
  | 8, _, _, _ => exact minI_any a h
  | 9, _, _, _ => exact maxI_any a h
  | 10, _, _, _ => exact lessI_any a h
  | 11, _, _, _ => exact sameI_any a h
  | 12, _, _, _ => exact notI_any a h
  | 13, _, _, _ => exact dup_any a h
  | 14, _, _, _ => exact swap_any a h
  | 15, _, _, _ => exact drop_any a h
  | 16, _, _, hx =>
    have h2 : decide (a = 0 ∨ a = 1) = true := hx
    simp only [decide_eq_true_eq] at h2
    rcases h2 with rfl | rfl
    · exact input0_any hi h
    · exact input1_any hi h
  | 17, _, _, _ => exact frame_any hi a h
  | 18, _, _, _ => exact jump_any a h
  | 19, _, _, _ => exact zero_any a h
  | 20, _, _, _ => exact win_any a ao n cap h
  | 21, _, _, _ => exact rand_any a h
  | 22, _, _, _ => exact halt_any a ao n cap h
  | 0, h, _, _ => exact absurd h (by omega)
  | k + 23, _, h, _ => exact absurd h (by omega)
end Go.Proofs.YtbfldcieibdapabGreat
end

section
/-
  A run of the program: the machine's run, by a contract.
-/
namespace Go.Proofs.YtbfldcieibdapabGreat
open Go.RowKit
variable {cv : Value} {i0 i1 fr : Int} {p : Pm} {w w' : World} {g : Nat}
/-- How a run stands: it agrees with what is left of the plain run R, or both have failed. -/
def Runs (l : List Ii) (fr i0 i1 : Int) (R : Option Mp) (f : Nat) (p : Pm) : Prop := (∃ m, Rep p m ∧ runI fr i0 i1 l f m = R) ∨ (R = none ∧ p.err ≠ 0)
theorem Mw.gg (h : Mw w g cv i0 i1 fr p) {k : Nat} (hk : k ≠ g) (hb : Gg k w w') : Mw w' g cv i0 i1 fr p := h.keep (hb.block g h.lt (Ne.symm hk))
theorem Ls.gg {v : Value} {l : List Ii} (h : Ls w v l) (hb : Gg g w w') (hg : l ≠ [] → v.ownBlock ≠ some g) : Ls w' v l := by
  by_cases hl : l = []
  · rcases h with h | ⟨h, _⟩
    · exact Or.inl h
    · exact absurd hl h
  · exact h.keep fun k hk hlt => hb.block k hlt fun e => hg hl (by rw [hk, e])
theorem Cw.gg {cs : List Value} {t : TypeId} {k : Nat} (h : Cw w k cs t) (hb : Gg g w w') (hg : k ≠ g) : Cw w' k cs t := h.keep (hb.block k h.lt hg)
theorem runI_step {l : List Ii} {m : Mp} {x : Ii} (k : Nat) (hx : l[m.pc]? = some x) : runI fr i0 i1 l (k + 1) m = (doI fr i0 i1 l.length x m).bind (runI fr i0 i1 l k) := by
  rw [runI, hx]
  simp only
  cases doI fr i0 i1 l.length x m <;> rfl
theorem runI_end {l : List Ii} {m : Mp} (k : Nat) (h : l.length ≤ m.pc) : runI fr i0 i1 l k m = some m := by
  cases k with
  | zero => exact if_pos h
  | succ k => rw [runI, List.getElem?_eq_none h]
theorem runI_dry {l : List Ii} {m : Mp} (h : m.pc < l.length) : runI fr i0 i1 l 0 m = none := if_neg (by omega)
/-- What a run leaves. -/
def RunP (w : World) (g : Nat) (cv : Value) (i0 i1 fr : Int) (R : Option Mp) (er : Int) (w' : World) : Prop :=
  ∃ p, Mw w' g cv i0 i1 fr p ∧ Gg g w w' ∧ ((er = 0 ∧ ∃ m, R = some m ∧ Rep p m) ∨ (er ≠ 0 ∧ R = none))
set_option maxRecDepth 20000 in
set_option maxHeartbeats 4000000 in
theorem run_any (l : List Ii) (ao : Option Addr) (cap f : Nat) (m : Mp) (hl : Ls w (.slice ao l.length cap) l) (ho : Okp l) (hg : l ≠ [] → (Value.slice ao l.length cap).ownBlock ≠ some g) (hi : Ins3 fr i0 i1) (hf : f ≤ 2000) (h : Mw w g (.slice ao l.length cap) i0 i1 fr p) (hr : Rep p m) :
    Calls Tryz.prog 57 #[.pointer (some ⟨g, 0, none⟩), .int .i64 (f : Int)] w fun e w' => ∃ er, e = .returned (.int .i64 er) ∧ RunP w g (.slice ao l.length cap) i0 i1 fr (runI fr i0 i1 l f m) er w' := by
  obtain ⟨R, hR⟩ : ∃ R, R = runI fr i0 i1 l f m := ⟨_, rfl⟩
  rw [← hR]
  have HR0 : Hid (Runs l fr i0 i1 R f p) := Or.inl ⟨m, hr, hR.symm⟩
  have HL := hid_into hl
  have HO := hid_into ho
  have HG := hid_into hg
  have HI := hid_into hi
  have H := hid_into h
  have hn := ho.len
  obtain ⟨cs, hcs⟩ : ∃ cs, cs = doR := ⟨_, rfl⟩
  obtain ⟨os, hos⟩ : ∃ os, os = zeroD := ⟨_, rfl⟩
  have HIs : Hid ((Tryz.prog.info? 138).map (·.size) = some os.length) := by rw [hos]; exact Tryz.size138
  have HLn : Hid (os.length = cs.length) := by rw [hos, hcs]; exact hid_into rfl
  have HC : Hid (∀ v ∈ cs, v.oneCell' = true) := by rw [hcs]; exact hid_into (by decide)
  have HZ : Hid ((Tryz.prog.info? 138).bind (·.zero) = some (.agg os.toArray)) := by rw [hos]; exact Tryz.zero138
  have HD : ∀ W, Calls Tryz.prog 79 #[] W fun e w' => e = .returned (.agg cs.toArray) ∧ Below W.heap.size W w' := by rw [hcs]; exact doings_any
  have HE : Hid (cs = doR) := hid_into hcs
  have HGl := hid_into h.lt
  clear hcs hos hl ho hg hi h hr hR
  go_enter Tryz.func57, Tryz.ntmps57
  go_wp2_with (first
    | (go_at_call 79; refine (HD _).mono ?_; rintro e w1 ⟨rfl, B1⟩)
    | (refine wpList_alloc_row rfl 138 rfl os HZ.out ?_; intro W1 hc1 B2 HS1)
    | (refine wpList_store_rw rfl 138 (.tmp 5) (.tmp 7) rfl w1.heap.size os cs 138 rfl rfl hc1 HIs HLn HC.out ?_; intro W2 hc2 O2))
  have HT : Hid (Cw W2 w1.heap.size doR 138) := by
    have e := HE.out
    subst e
    exact hc2
  have HB : Hid (Below w.heap.size w W2) := B1.trans ((B2.mono B1.size).trans (O2.below B1.size))
  have HTg : Hid (w1.heap.size ≠ g ∧ w.heap.size ≤ w1.heap.size) := ⟨by have := HGl.out; have := B1.size; omega, B1.size⟩
  have HM : Hid (Mw W2 g (.slice ao l.length cap) i0 i1 fr p) := H.out.below HB.out
  have HGg : Hid (Gg g w W2) := Below.gg HB.out
  clear HE hc1 hc2 O2 B2 HS1 HZ HIs HLn HC HD H HGl
  simp only [Act.put, List.setIfInBounds_toArray, List.set_cons_zero, List.set_cons_succ]
  go_loopw [1] (fun i wr => ∃ (k : Nat) (q : Pm), k ≤ 2000 ∧ i = .int .i64 (k : Int) ∧ Hid (Runs l fr i0 i1 R k q) ∧ Hid (Mw wr g (.slice ao l.length cap) i0 i1 fr q) ∧ Hid (Cw wr w1.heap.size doR 138) ∧ Hid (Gg g w wr)) (fun i _ => (intOf i).toNat)
  case atStart => exact ⟨f, p, hf, rfl, HR0.out, HM.out, HT.out, HGg.out⟩
  case round =>
    clear HT HM HGg HR0
    obtain ⟨k, q, hk, rfl, HR, HM, HT, HGg⟩ := hrel
    have c1 := HM.out.err
    have c2 := HM.out.pc
    have c3 := HM.out.code
    by_cases herr : q.err = 0
    · obtain ⟨m1, hrep, hrun⟩ : ∃ m, Rep q m ∧ runI fr i0 i1 l k m = R := by
        rcases HR.out with h1 | ⟨_, h2⟩
        · exact h1
        · exact absurd herr h2
      clear HR
      have HRep := hid_into hrep
      rw [herr] at c1
      rw [hrep.pc] at c2
      clear hrep
      by_cases hpc : m1.pc < l.length
      · obtain ⟨x, hx⟩ : ∃ x, l[m1.pc]? = some x := ⟨_, List.getElem?_eq_getElem hpc⟩
        cases k with
        | zero =>
          have HN : Hid (R = none) := hrun.symm.trans (runI_dry hpc)
          clear hrun hx
          go_wp2_with fail
          go_quiet (fail)
          go_wp2_with fail
          go_ret
          exact ⟨_, rfl, q, HM.out.keep rfl, HGg.out.drewN _, Or.inr ⟨by omega, HN.out⟩⟩
        | succ k =>
          have HRun := hid_into ((runI_step k hx).symm.trans hrun)
          have HX := hid_into (HO.out.may x (List.mem_of_getElem? hx))
          have hop := mayI_op HX.out
          obtain ⟨ga, off, hao, x0, x1⟩ := (HL.out.gg HGg.out HG.out).at (Below.refl wr.heap.size wr) (Nat.le_refl _) _ _ hx
          subst hao
          obtain ⟨o, a⟩ := x
          simp only at x0 x1 hop
          obtain ⟨n, rfl⟩ := Int.eq_ofNat_of_zero_le (show 0 ≤ o by omega)
          have hgl := HM.out.lt
          have hgg : ga ≠ g := fun e => HG.out (fun e0 => by rw [e0] at hpc; simp at hpc) (by rw [e]; rfl)
          generalize hj : m1.pc = j at hpc hx x0 x1 c2
          have HJ := hid_into hj
          clear hj
          clear hrun hx
          go_wp2_with fail
          go_quiet (fail)
          go_wp2_with fail
          have hs : Sm wr (wr.drewN nq) := Sm.drewN _ _
          generalize wr.drewN nq = W at hs ⊢
          have HM2 := hid_into (HM.out.keep (w' := W) (by rw [hs.heap]))
          have HT2 := hid_into (hs.cw HT.out)
          have HGg2 : Hid (Gg g w W) := HGg.out.trans ⟨hs.os, hs.tape, hs.output, by rw [hs.size]; exact Nat.le_refl _, fun k _ _ => by rw [hs.heap]⟩
          have hgl2 := HM2.out.lt
          have d1 := HM2.out.code
          have d2 := HM2.out.pc
          rw [HRep.out.pc, HJ.out] at d2
          have y0 : W.cell? ⟨ga, off + j * 2, none⟩ = some (.int .i64 (n : Int)) := by rw [World.cell?_of_block (w := wr) (by rw [hs.heap])]; exact x0
          have y1 : W.cell? ⟨ga, off + j * 2 + 1, none⟩ = some (.int .i64 a) := by rw [World.cell?_of_block (w := wr) (by rw [hs.heap])]; exact x1
          have hal := World.block_lt_of_cell? W _ y0
          simp only at hal
          clear x0 x1 c1 c2 c3 HM HT HGg hs hgl
          have HS : Hid (∀ V, Below W.heap.size W V → V.cell? ⟨g, 0, none⟩ = some (.slice (some ⟨ga, off, none⟩) l.length cap) ∧ V.cell? ⟨g, 56, none⟩ = some (.int .i64 (j : Int)) ∧ V.cell? ⟨ga, off + j * 2, none⟩ = some (.int .i64 (n : Int)) ∧ V.cell? ⟨ga, off + j * 2 + 1, none⟩ = some (.int .i64 a)) := fun V hV =>
            ⟨(hV.cell (p := ⟨g, 0, none⟩) hgl2).trans d1, (hV.cell (p := ⟨g, 56, none⟩) hgl2).trans d2, (hV.cell (p := ⟨ga, off + j * 2, none⟩) hal).trans y0, (hV.cell (p := ⟨ga, off + j * 2 + 1, none⟩) hal).trans y1⟩
          have S1 := HS.out W.drew (Below.refl _ _).drew
          have S2 := HS.out (W.drew.alloc (.cells #[.int .i64 0, .int .i64 0] 66)) ((Below.refl W.heap.size W).drew.alloc (Nat.le_refl _) _)
          have S3 := HS.out ((W.alloc (.cells #[.int .i64 (n : Int), .int .i64 a] 66)).drew) ((Below.refl W.heap.size W).alloc (Nat.le_refl _) _).drew
          clear d1 d2 y0 y1
          go_region_held3 (fun V => V.cell? ⟨g, 0, none⟩ = some (.slice (some ⟨ga, off, none⟩) l.length cap) ∧ V.cell? ⟨g, 56, none⟩ = some (.int .i64 (j : Int)) ∧ V.cell? ⟨ga, off + j * 2, none⟩ = some (.int .i64 (n : Int)) ∧ V.cell? ⟨ga, off + j * 2 + 1, none⟩ = some (.int .i64 a)) (first | exact S1 | exact S2 | exact S3) (fail)
          have BV : Hid (Below W.heap.size W (W.alloc (.cells #[.int .i64 (n : Int), .int .i64 a] 66)).drew) := ((Below.refl W.heap.size W).alloc (Nat.le_refl _) _).drew
          have HX1 : Cw (W.alloc (.cells #[.int .i64 (n : Int), .int .i64 a] 66)).drew W.heap.size [.int .i64 (n : Int), .int .i64 a] 66 := (Cw.new W [.int .i64 (n : Int), .int .i64 a] 66).keep rfl
          have hxl := HX1.lt
          clear S1 S2 S3 HS hal
          generalize (W.alloc (.cells #[.int .i64 (n : Int), .int .i64 a] 66)).drew = V at BV HX1 hxl ⊢
          have HM3 := hid_into (HM2.out.below BV.out)
          have e2 := HM3.out.pc
          rw [HRep.out.pc, HJ.out] at e2
          have f2 := HM3.out.row.frozen 56
          have HT3 := hid_into (HT2.out.below BV.out HT2.out.lt)
          have HM4 := hid_into (HM3.out.setPc ((j : Int) + 1))
          have z0 := HX1.cell 0
          have z1 := HX1.cell 1
          simp only [List.getElem?_cons_zero, List.getElem?_cons_succ] at z0 z1
          have hne : W.heap.size ≠ g := by omega
          have z2 := (HT3.out.cell n).trans (doR_at n (by omega) (by omega))
          have hne2 := HTg.out.1
          go_wp2_with fail
          have OV : Hid (Only g V (V.setCell ⟨g, 56, none⟩ (.int .i64 ((j : Int) + 1)))) := Only.set _ _ _ _
          have z0' : (V.setCell ⟨g, 56, none⟩ (.int .i64 ((j : Int) + 1))).cell? ⟨W.heap.size, 0, none⟩ = some (.int .i64 (n : Int)) := by rw [World.cell?_of_block (w := V) (OV.out.block _ hne)]; exact z0
          have z1' : (V.setCell ⟨g, 56, none⟩ (.int .i64 ((j : Int) + 1))).cell? ⟨W.heap.size, 1, none⟩ = some (.int .i64 a) := by rw [World.cell?_of_block (w := V) (OV.out.block _ hne)]; exact z1
          have z2' : (V.setCell ⟨g, 56, none⟩ (.int .i64 ((j : Int) + 1))).cell? ⟨w1.heap.size, n, none⟩ = some (.func (.func (methF n)) #[] #[]) := by rw [World.cell?_of_block (w := V) (OV.out.block _ hne2)]; exact z2
          clear z0 z1 z2 e2 f2 HX1 hxl
          have HT4 := hid_into (OV.out.cw HT3.out hne2)
          generalize V.setCell ⟨g, 56, none⟩ (.int .i64 ((j : Int) + 1)) = U at HM4 OV z0' z1' z2' HT4 ⊢
          have hent := enters_meth n
          have hmeth := meth_any ((n : Int), a) (some ⟨ga, off, none⟩) l.length cap HX.out hn HI.out n rfl (HM4.out.keep (w' := U.drew) rfl)
          simp only at hmeth
          have hn23 : n < 23 := by omega
          have hn23' : (n : Int) < 23 := by omega
          generalize methF n = fm at hent hmeth z2'
          have S4 : U.drew.cell? ⟨W.heap.size, 0, none⟩ = some (.int .i64 (n : Int)) ∧ U.drew.cell? ⟨W.heap.size, 1, none⟩ = some (.int .i64 a) ∧ U.drew.cell? ⟨w1.heap.size, n, none⟩ = some (.func (.func fm) #[] #[]) := ⟨z0', z1', z2'⟩
          have HS4 : Hid (∀ V, Gg g U V → V.cell? ⟨W.heap.size, 0, none⟩ = some (.int .i64 (n : Int)) ∧ V.cell? ⟨W.heap.size, 1, none⟩ = some (.int .i64 a) ∧ V.cell? ⟨w1.heap.size, n, none⟩ = some (.func (.func fm) #[] #[])) := fun V hV => by
            have l0 := World.block_lt_of_cell? U _ z0'
            have l2 := World.block_lt_of_cell? U _ z2'
            exact ⟨(World.cell?_of_block (w := U) (hV.block _ l0 hne)).trans z0', (World.cell?_of_block (w := U) (a := ⟨W.heap.size, 1, none⟩) (hV.block _ l0 hne)).trans z1', (World.cell?_of_block (w := U) (hV.block _ l2 hne2)).trans z2'⟩
          go_region_held3 (fun V => V.cell? ⟨W.heap.size, 0, none⟩ = some (.int .i64 (n : Int)) ∧ V.cell? ⟨W.heap.size, 1, none⟩ = some (.int .i64 a) ∧ V.cell? ⟨w1.heap.size, n, none⟩ = some (.func (.func fm) #[] #[])) (first | exact S4 | exact S5) (first | (go_at_fn fm; refine hmeth.mono ?_; rintro e w3 ⟨rfl, hM5, hG5⟩; have hG6 : Gg g U w3 := ⟨hG5.os, hG5.tape, hG5.output, hG5.size, hG5.block⟩; have S5 := HS4.out w3 hG6))
          go_wp2_with fail
          go_roundw
          case rel =>
            have hA : Agree (opP fr i0 i1 l.length ((n : Int), a) { q with pc := (j : Int) + 1 }) (doI fr i0 i1 l.length ((n : Int), a) m1) := by
              refine opP_agrees (m := m1) ?_ HM4.out.wf HX.out
              have h0 := HRep.out
              exact ⟨h0.cells, h0.seed, h0.over, h0.win, h0.st, by show (j : Int) + 1 - 1 = _; rw [HJ.out]; omega, h0.err⟩
            have hG : Gg g W w3 := (Below.gg BV.out).trans (OV.out.gg.trans hG6)
            refine ⟨k, _, by omega, by go_num, ?_, hM5, HT4.out.gg hG6 hne2, HGg2.out.trans hG⟩
            have hR := HRun.out
            rcases hA with ⟨m2, e2, r2⟩ | ⟨e2, r2⟩
            · rw [e2] at hR
              exact Or.inl ⟨m2, r2, hR⟩
            · rw [e2] at hR
              exact Or.inr ⟨hR.symm, r2⟩
          case measure => simp [intOf]
      · have HN : Hid (R = some m1) := hrun.symm.trans (runI_end k (by omega))
        clear hrun
        go_wp2_with fail
        go_quiet (fail)
        go_wp2_with fail
        go_ret
        exact ⟨_, rfl, q, HM.out.keep rfl, HGg.out.drewN _, Or.inl ⟨rfl, m1, HN.out, HRep.out⟩⟩
    · have he2 : (q.err == 0) = false := by simp [herr]
      go_wp2_with fail
      go_quiet (fail)
      go_wp2_with fail
      go_ret
      refine ⟨_, rfl, q, HM.out.keep rfl, HGg.out.drewN _, Or.inr ⟨herr, ?_⟩⟩
      rcases HR.out with ⟨m1, h1, _⟩ | ⟨h1, _⟩
      · exact absurd h1.err herr
      · exact h1
end Go.Proofs.YtbfldcieibdapabGreat
end

section
/-
  States in memory (stV); Check, isState, whoHasMore, mayStep, by contracts.
-/
namespace Go.Proofs.YtbfldcieibdapabGreat
open Go.RowKit
variable {w w' : World} {g : Nat}
/-- A state's cells. -/
def stV (s : Sp) : List Value := .int .i64 s.frame :: (s.cells.map (Value.int .i32) ++ [.int .u32 s.seed, .bool s.over, .int .i64 s.win])
structure Sp.Wf (s : Sp) : Prop where
  cells : s.cells.length = 16
  cin : ∀ x ∈ s.cells, In32 x
  seed : 0 ≤ s.seed ∧ s.seed < 4294967296
/-- The cells of a state, one by one. -/
structure StC (cs : List Value) (s : Sp) : Prop where
  len : cs.length = 20
  one : ∀ v ∈ cs, v.oneCell' = true
  frame : cs[0]? = some (.int .i64 s.frame)
  cell : ∀ i, i < 16 → cs[1 + i]? = some (.int .i32 (s.cells.getD i 0))
  seed : cs[17]? = some (.int .u32 s.seed)
  over : cs[18]? = some (.bool s.over)
  win : cs[19]? = some (.int .i64 s.win)
theorem stV_c {s : Sp} (h : s.Wf) : StC (stV s) s := by
  have hl := h.cells
  have hr : ∀ j, (stV s)[17 + j]? = ([.int .u32 s.seed, .bool s.over, .int .i64 s.win] : List Value)[j]? := fun j => by
    rw [stV, show 17 + j = (16 + j) + 1 by omega, List.getElem?_cons_succ, List.getElem?_append_right (by simp [hl])]
    simp [hl]
  refine ⟨by simp [stV, hl], ?_, rfl, fun i hi => ?_, hr 0, hr 1, hr 2⟩
  · intro v hv
    simp only [stV, List.mem_cons, List.mem_append, List.mem_map, List.not_mem_nil, or_false] at hv
    rcases hv with rfl | ⟨x, _, rfl⟩ | rfl | rfl | rfl <;> rfl
  · rw [stV, show 1 + i = i + 1 by omega, List.getElem?_cons_succ, List.getElem?_append_left (by simp [hl]; omega), List.getElem?_map, List.getD, List.getElem?_eq_getElem (by omega)]
    rfl
theorem Tryz.size44 : (Tryz.prog.info? 44).map (·.size) = some 20 := by kernel_rfl
def zeroS : List Value := stV noS
theorem Tryz.zero44 : (Tryz.prog.info? 44).bind (·.zero) = some (.agg zeroS.toArray) := by kernel_rfl
theorem more_any (a b : Int) (w : World) : Calls Tryz.prog 80 #[.int .i32 a, .int .i32 b] w fun e w' => e = .returned (.int .i64 (moreI a b)) ∧ w' = w := by
  by_cases h1 : b < a
  · rw [show moreI a b = 0 by unfold moreI; rw [if_neg (by omega), if_neg (by omega)]]
    go_enter Tryz.func80, Tryz.ntmps80
    go_wp2
    go_ret
    exact ⟨rfl, rfl⟩
  · by_cases h2 : a < b
    · rw [show moreI a b = 1 by unfold moreI; rw [if_neg (by omega), if_pos h2]]
      go_enter Tryz.func80, Tryz.ntmps80
      go_wp2
      go_ret
      exact ⟨rfl, rfl⟩
    · rw [show moreI a b = 2 by unfold moreI; rw [if_pos (by omega)]]
      go_enter Tryz.func80, Tryz.ntmps80
      go_wp2
      go_ret
      exact ⟨rfl, rfl⟩
set_option maxHeartbeats 1000000 in
theorem isState_c (cs : List Value) (s : Sp) (h : StC cs s) (w : World) : Calls Tryz.prog 74 #[.agg cs.toArray] w fun e w' => e = .returned (.bool (isS s)) ∧ Below w.heap.size w w' := by
  have k0 := hid_into h.frame
  have k18 := hid_into h.over
  have k19 := hid_into h.win
  clear h
  obtain ⟨fr, cells, seed, over, win⟩ := s
  simp only at k0 k18 k19
  by_cases h1 : fr < 0
  · rw [show isS ⟨fr, cells, seed, over, win⟩ = false by simp [isS]; omega]
    go_enter Tryz.func74, Tryz.ntmps74
    go_wp2_with (refine wpList_box_row rfl 44 (.tmp 0) rfl cs rfl ?_; intro W1 hc1 B1 HS1; have q0 := (hc1.cell 0).trans k0.out; have q3 := (hc1.cell 18).trans k18.out; have q4 := (hc1.cell 19).trans k19.out)
    go_ret
    exact ⟨rfl, B1⟩
  by_cases h2 : 600 < fr
  · rw [show isS ⟨fr, cells, seed, over, win⟩ = false by simp [isS]; omega]
    go_enter Tryz.func74, Tryz.ntmps74
    go_wp2_with (refine wpList_box_row rfl 44 (.tmp 0) rfl cs rfl ?_; intro W1 hc1 B1 HS1; have q0 := (hc1.cell 0).trans k0.out; have q3 := (hc1.cell 18).trans k18.out; have q4 := (hc1.cell 19).trans k19.out)
    go_ret
    exact ⟨rfl, B1⟩
  by_cases h3 : win < 0
  · rw [show isS ⟨fr, cells, seed, over, win⟩ = false by simp [isS]; omega]
    go_enter Tryz.func74, Tryz.ntmps74
    go_wp2_with (refine wpList_box_row rfl 44 (.tmp 0) rfl cs rfl ?_; intro W1 hc1 B1 HS1; have q0 := (hc1.cell 0).trans k0.out; have q3 := (hc1.cell 18).trans k18.out; have q4 := (hc1.cell 19).trans k19.out)
    go_ret
    exact ⟨rfl, B1⟩
  by_cases h4 : 2 < win
  · rw [show isS ⟨fr, cells, seed, over, win⟩ = false by simp [isS]; omega]
    go_enter Tryz.func74, Tryz.ntmps74
    go_wp2_with (refine wpList_box_row rfl 44 (.tmp 0) rfl cs rfl ?_; intro W1 hc1 B1 HS1; have q0 := (hc1.cell 0).trans k0.out; have q3 := (hc1.cell 18).trans k18.out; have q4 := (hc1.cell 19).trans k19.out)
    go_ret
    exact ⟨rfl, B1⟩
  cases over with
  | true =>
    rw [show isS ⟨fr, cells, seed, true, win⟩ = true by simp [isS]; omega]
    go_enter Tryz.func74, Tryz.ntmps74
    go_wp2_with (refine wpList_box_row rfl 44 (.tmp 0) rfl cs rfl ?_; intro W1 hc1 B1 HS1; have q0 := (hc1.cell 0).trans k0.out; have q3 := (hc1.cell 18).trans k18.out; have q4 := (hc1.cell 19).trans k19.out)
    go_ret
    exact ⟨rfl, B1⟩
  | false =>
    by_cases h5 : win = 0
    · subst h5
      rw [show isS ⟨fr, cells, seed, false, 0⟩ = true by simp [isS]; omega]
      go_enter Tryz.func74, Tryz.ntmps74
      go_wp2_with (refine wpList_box_row rfl 44 (.tmp 0) rfl cs rfl ?_; intro W1 hc1 B1 HS1; have q0 := (hc1.cell 0).trans k0.out; have q3 := (hc1.cell 18).trans k18.out; have q4 := (hc1.cell 19).trans k19.out)
      go_ret
      exact ⟨rfl, B1⟩
    · rw [show isS ⟨fr, cells, seed, false, win⟩ = false by simp [isS]; omega]
      have h5' : (win == 0) = false := by simp [h5]
      go_enter Tryz.func74, Tryz.ntmps74
      go_wp2_with (refine wpList_box_row rfl 44 (.tmp 0) rfl cs rfl ?_; intro W1 hc1 B1 HS1; have q0 := (hc1.cell 0).trans k0.out; have q3 := (hc1.cell 18).trans k18.out; have q4 := (hc1.cell 19).trans k19.out)
      go_ret
      exact ⟨by simp [Array.getD], B1⟩
/-- Check of a game. -/
def gameV (cv : Value) (cap fuel : Int) : Value := .agg #[cv, .int .i64 cap, .int .i64 fuel]
set_option maxHeartbeats 1000000 in
theorem Check_any (cv : Value) (l : List Ii) (cap fuel : Int) (w : World) (hl : Ls w cv l) : Calls Tryz.prog 18 #[gameV cv cap fuel] w fun e w' => e = .returned (.int .i64 (chkG l cap fuel)) ∧ Below w.heap.size w w' := by
  have CH : Hid (∀ W, Below w.heap.size w W → Calls Tryz.prog 38 #[cv] W fun e w' => e = .returned (.tuple #[.int .i64 (chk l).1, .int .i64 (chk l).2]) ∧ Below W.heap.size W w') := fun W hW => check_any cv l W (hl.below hW)
  have BB := hid_into ((Below.refl w.heap.size w).alloc (Nat.le_refl _) (.cells #[cv, .int .i64 cap, .int .i64 fuel] 24))
  have hlt : ∀ W, Below (w.alloc (.cells #[cv, .int .i64 cap, .int .i64 fuel] 24)).heap.size (w.alloc (.cells #[cv, .int .i64 cap, .int .i64 fuel] 24)) W → Cw W w.heap.size [cv, .int .i64 cap, .int .i64 fuel] 24 := fun W hW => (Cw.new w [cv, .int .i64 cap, .int .i64 fuel] 24).below hW (by rw [World.size_alloc]; omega)
  have HX := hid_into hlt
  have HR : Hid (chkG l cap fuel = if (chk l).2 ≠ 0 then (chk l).2 else if cap < 1 ∨ 600 < cap ∨ fuel < 1 ∨ 2000 < fuel then 1 else 0) := rfl
  clear hl hlt
  unfold gameV
  generalize (chk l).1 = c1 at CH
  generalize (chk l).2 = c2 at CH HR
  generalize chkG l cap fuel = cg at HR ⊢
  by_cases hc : c2 = 0
  · subst hc
    by_cases h1 : cap < 1
    · have HR2 : Hid (cg = 1) := by show _ = _; rw [HR.out, if_neg (by omega), if_pos (by omega)]
      go_enter Tryz.func18, Tryz.ntmps18
      go_wp2_with (go_at_call 38; refine (CH.out _ BB.out).mono ?_; rintro e w1 ⟨rfl, B1⟩; have q1 := (HX.out _ B1).cell 1; have q2 := (HX.out _ B1).cell 2; simp only [List.getElem?_cons_zero, List.getElem?_cons_succ] at q1 q2)
      go_ret
      exact ⟨by rw [HR2.out]; rfl, BB.out.trans (B1.mono BB.out.size)⟩
    by_cases h2 : 600 < cap
    · have HR2 : Hid (cg = 1) := by show _ = _; rw [HR.out, if_neg (by omega), if_pos (by omega)]
      go_enter Tryz.func18, Tryz.ntmps18
      go_wp2_with (go_at_call 38; refine (CH.out _ BB.out).mono ?_; rintro e w1 ⟨rfl, B1⟩; have q1 := (HX.out _ B1).cell 1; have q2 := (HX.out _ B1).cell 2; simp only [List.getElem?_cons_zero, List.getElem?_cons_succ] at q1 q2)
      go_ret
      exact ⟨by rw [HR2.out]; rfl, BB.out.trans (B1.mono BB.out.size)⟩
    by_cases h3 : fuel < 1
    · have HR2 : Hid (cg = 1) := by show _ = _; rw [HR.out, if_neg (by omega), if_pos (by omega)]
      go_enter Tryz.func18, Tryz.ntmps18
      go_wp2_with (go_at_call 38; refine (CH.out _ BB.out).mono ?_; rintro e w1 ⟨rfl, B1⟩; have q1 := (HX.out _ B1).cell 1; have q2 := (HX.out _ B1).cell 2; simp only [List.getElem?_cons_zero, List.getElem?_cons_succ] at q1 q2)
      go_ret
      exact ⟨by rw [HR2.out]; rfl, BB.out.trans (B1.mono BB.out.size)⟩
    by_cases h4 : 2000 < fuel
    · have HR2 : Hid (cg = 1) := by show _ = _; rw [HR.out, if_neg (by omega), if_pos (by omega)]
      go_enter Tryz.func18, Tryz.ntmps18
      go_wp2_with (go_at_call 38; refine (CH.out _ BB.out).mono ?_; rintro e w1 ⟨rfl, B1⟩; have q1 := (HX.out _ B1).cell 1; have q2 := (HX.out _ B1).cell 2; simp only [List.getElem?_cons_zero, List.getElem?_cons_succ] at q1 q2)
      go_ret
      exact ⟨by rw [HR2.out]; rfl, BB.out.trans (B1.mono BB.out.size)⟩
    · have HR2 : Hid (cg = 0) := by show _ = _; rw [HR.out, if_neg (by omega), if_neg (by omega)]
      go_enter Tryz.func18, Tryz.ntmps18
      go_wp2_with (go_at_call 38; refine (CH.out _ BB.out).mono ?_; rintro e w1 ⟨rfl, B1⟩; have q1 := (HX.out _ B1).cell 1; have q2 := (HX.out _ B1).cell 2; simp only [List.getElem?_cons_zero, List.getElem?_cons_succ] at q1 q2)
      go_ret
      exact ⟨by rw [HR2.out]; rfl, BB.out.trans (B1.mono BB.out.size)⟩
  · have HR2 : Hid (cg = c2) := by show _ = _; rw [HR.out, if_pos (by omega)]
    have hc2 : (c2 != 0) = true := by simp [hc]
    go_enter Tryz.func18, Tryz.ntmps18
    go_wp2_with (go_at_call 38; refine (CH.out _ BB.out).mono ?_; rintro e w1 ⟨rfl, B1⟩)
    go_ret
    exact ⟨by rw [HR2.out]; rfl, BB.out.trans (B1.mono BB.out.size)⟩
end Go.Proofs.YtbfldcieibdapabGreat
end

section
/-
  Step: mayStep, ended, Start and Step itself, by contracts.
-/
namespace Go.Proofs.YtbfldcieibdapabGreat
open Go.RowKit
variable {w w' : World} {g : Nat}
set_option maxRecDepth 20000 in
set_option maxHeartbeats 2000000 in
theorem mayStep_c (cs : List Value) (s : Sp) (h : StC cs s) (cv : Value) (l : List Ii) (cap fuel : Int) (w : World) (hl : Ls w cv l) : Calls Tryz.prog 56 #[gameV cv cap fuel, .agg cs.toArray] w fun e w' => e = .returned (.int .i64 (stepE l cap fuel s)) ∧ Below w.heap.size w w' := by
  have k0 := hid_into h.frame
  have k17 := hid_into h.seed
  have k18 := hid_into h.over
  have HSz : Hid ((Tryz.prog.info? 44).map (·.size) = some cs.length) := by rw [h.len]; exact Tryz.size44
  have CH : Hid (∀ W, Below w.heap.size w W → Calls Tryz.prog 18 #[.agg #[cv, .int .i64 cap, .int .i64 fuel]] W fun e w' => e = .returned (.int .i64 (chkG l cap fuel)) ∧ Below W.heap.size W w') := fun W hW => Check_any cv l cap fuel W (hl.below hW)
  have CI : ∀ W, Calls Tryz.prog 74 #[.agg cs.toArray] W fun e w' => e = .returned (.bool (isS s)) ∧ Below W.heap.size W w' := fun W => isState_c cs s h W
  have AB := hid_into ((Below.refl w.heap.size w).alloc (Nat.le_refl _) (.cells #[cv, .int .i64 cap, .int .i64 fuel] 24))
  have hlt : ∀ W, Below (w.alloc (.cells #[cv, .int .i64 cap, .int .i64 fuel] 24)).heap.size (w.alloc (.cells #[cv, .int .i64 cap, .int .i64 fuel] 24)) W → Cw W w.heap.size [cv, .int .i64 cap, .int .i64 fuel] 24 := fun W hW => (Cw.new w [cv, .int .i64 cap, .int .i64 fuel] 24).below hW (by rw [World.size_alloc]; omega)
  have HX := hid_into hlt
  have HR : Hid (stepE l cap fuel s = if chkG l cap fuel ≠ 0 then chkG l cap fuel else if isS s = false ∨ s.seed = 0 then 1 else if s.over = true ∨ cap ≤ s.frame then 12 else 0) := rfl
  clear hl hlt h
  unfold gameV
  generalize chkG l cap fuel = ck at CH HR
  generalize isS s = is at CI HR
  generalize stepE l cap fuel s = cg at HR ⊢
  obtain ⟨fr, cells, seed, over, win⟩ := s
  simp only at k0 k17 k18 HR
  by_cases hc : ck = 0
  · subst hc
    cases is with
    | false =>
      have HR2 : Hid (cg = 1) := by show _ = _; rw [HR.out, if_neg (by omega), if_pos (Or.inl rfl)]
      go_enter Tryz.func56, Tryz.ntmps56
      go_wp2_with (first
      | (refine wpList_box_row rfl 44 (.tmp 1) rfl cs rfl ?_; intro W1 hc1 B1 HS1; rw [World.size_alloc] at hc1; have r0 := (HX.out _ B1).cell 0; have r1 := (HX.out _ B1).cell 1; have r2 := (HX.out _ B1).cell 2; simp only [List.getElem?_cons_zero, List.getElem?_cons_succ] at r0 r1 r2)
      | (go_at_call 18; refine (CH.out _ (AB.out.trans (B1.mono AB.out.size))).mono ?_; rintro e w2 ⟨rfl, B2⟩; have hc2 := hc1.below B2 hc1.lt; have hx2 := (HX.out _ B1).below B2 (HX.out _ B1).lt; have q1 := hx2.cell 1; have p0 := (hc2.cell 0).trans k0.out; have p2 := (hc2.cell 17).trans k17.out; have p3 := (hc2.cell 18).trans k18.out; simp only [List.getElem?_cons_zero, List.getElem?_cons_succ] at q1)
      | (refine wpList_load_rw rfl 44 (.tmp 3) rfl _ cs 44 _ rfl hc2 Tryz.underlying44 rfl HSz ?_)
      | (go_at_call 74; refine (CI _).mono ?_; rintro e w3 ⟨rfl, B3⟩; have hc3 := hc2.below B3 hc2.lt; have hx3 := hx2.below B3 hx2.lt; have q1' := hx3.cell 1; have p0' := (hc3.cell 0).trans k0.out; have p2' := (hc3.cell 17).trans k17.out; have p3' := (hc3.cell 18).trans k18.out; simp only [List.getElem?_cons_zero, List.getElem?_cons_succ] at q1'))
      go_ret
      exact ⟨by rw [HR2.out]; rfl, ((AB.out.trans (B1.mono AB.out.size)).trans (B2.mono (Nat.le_trans AB.out.size B1.size))).trans (B3.mono (Nat.le_trans AB.out.size (Nat.le_trans B1.size B2.size)))⟩
    | true =>
      by_cases h1 : seed = 0
      · subst h1
        have HR2 : Hid (cg = 1) := by show _ = _; rw [HR.out, if_neg (by omega), if_pos (Or.inr rfl)]
        go_enter Tryz.func56, Tryz.ntmps56
        go_wp2_with (first
      | (refine wpList_box_row rfl 44 (.tmp 1) rfl cs rfl ?_; intro W1 hc1 B1 HS1; rw [World.size_alloc] at hc1; have r0 := (HX.out _ B1).cell 0; have r1 := (HX.out _ B1).cell 1; have r2 := (HX.out _ B1).cell 2; simp only [List.getElem?_cons_zero, List.getElem?_cons_succ] at r0 r1 r2)
      | (go_at_call 18; refine (CH.out _ (AB.out.trans (B1.mono AB.out.size))).mono ?_; rintro e w2 ⟨rfl, B2⟩; have hc2 := hc1.below B2 hc1.lt; have hx2 := (HX.out _ B1).below B2 (HX.out _ B1).lt; have q1 := hx2.cell 1; have p0 := (hc2.cell 0).trans k0.out; have p2 := (hc2.cell 17).trans k17.out; have p3 := (hc2.cell 18).trans k18.out; simp only [List.getElem?_cons_zero, List.getElem?_cons_succ] at q1)
      | (refine wpList_load_rw rfl 44 (.tmp 3) rfl _ cs 44 _ rfl hc2 Tryz.underlying44 rfl HSz ?_)
      | (go_at_call 74; refine (CI _).mono ?_; rintro e w3 ⟨rfl, B3⟩; have hc3 := hc2.below B3 hc2.lt; have hx3 := hx2.below B3 hx2.lt; have q1' := hx3.cell 1; have p0' := (hc3.cell 0).trans k0.out; have p2' := (hc3.cell 17).trans k17.out; have p3' := (hc3.cell 18).trans k18.out; simp only [List.getElem?_cons_zero, List.getElem?_cons_succ] at q1'))
        go_ret
        exact ⟨by rw [HR2.out]; rfl, ((AB.out.trans (B1.mono AB.out.size)).trans (B2.mono (Nat.le_trans AB.out.size B1.size))).trans (B3.mono (Nat.le_trans AB.out.size (Nat.le_trans B1.size B2.size)))⟩
      · have h1' : (seed == 0) = false := by simp [h1]
        cases over with
        | true =>
          have HR2 : Hid (cg = 12) := by show _ = _; rw [HR.out, if_neg (by omega), if_neg (by simp [h1]), if_pos (Or.inl rfl)]
          go_enter Tryz.func56, Tryz.ntmps56
          go_wp2_with (first
      | (refine wpList_box_row rfl 44 (.tmp 1) rfl cs rfl ?_; intro W1 hc1 B1 HS1; rw [World.size_alloc] at hc1; have r0 := (HX.out _ B1).cell 0; have r1 := (HX.out _ B1).cell 1; have r2 := (HX.out _ B1).cell 2; simp only [List.getElem?_cons_zero, List.getElem?_cons_succ] at r0 r1 r2)
      | (go_at_call 18; refine (CH.out _ (AB.out.trans (B1.mono AB.out.size))).mono ?_; rintro e w2 ⟨rfl, B2⟩; have hc2 := hc1.below B2 hc1.lt; have hx2 := (HX.out _ B1).below B2 (HX.out _ B1).lt; have q1 := hx2.cell 1; have p0 := (hc2.cell 0).trans k0.out; have p2 := (hc2.cell 17).trans k17.out; have p3 := (hc2.cell 18).trans k18.out; simp only [List.getElem?_cons_zero, List.getElem?_cons_succ] at q1)
      | (refine wpList_load_rw rfl 44 (.tmp 3) rfl _ cs 44 _ rfl hc2 Tryz.underlying44 rfl HSz ?_)
      | (go_at_call 74; refine (CI _).mono ?_; rintro e w3 ⟨rfl, B3⟩; have hc3 := hc2.below B3 hc2.lt; have hx3 := hx2.below B3 hx2.lt; have q1' := hx3.cell 1; have p0' := (hc3.cell 0).trans k0.out; have p2' := (hc3.cell 17).trans k17.out; have p3' := (hc3.cell 18).trans k18.out; simp only [List.getElem?_cons_zero, List.getElem?_cons_succ] at q1'))
          go_ret
          exact ⟨by rw [HR2.out]; rfl, ((AB.out.trans (B1.mono AB.out.size)).trans (B2.mono (Nat.le_trans AB.out.size B1.size))).trans (B3.mono (Nat.le_trans AB.out.size (Nat.le_trans B1.size B2.size)))⟩
        | false =>
          by_cases h2 : cap ≤ fr
          · have HR2 : Hid (cg = 12) := by show _ = _; rw [HR.out, if_neg (by omega), if_neg (by simp [h1]), if_pos (Or.inr h2)]
            go_enter Tryz.func56, Tryz.ntmps56
            go_wp2_with (first
      | (refine wpList_box_row rfl 44 (.tmp 1) rfl cs rfl ?_; intro W1 hc1 B1 HS1; rw [World.size_alloc] at hc1; have r0 := (HX.out _ B1).cell 0; have r1 := (HX.out _ B1).cell 1; have r2 := (HX.out _ B1).cell 2; simp only [List.getElem?_cons_zero, List.getElem?_cons_succ] at r0 r1 r2)
      | (go_at_call 18; refine (CH.out _ (AB.out.trans (B1.mono AB.out.size))).mono ?_; rintro e w2 ⟨rfl, B2⟩; have hc2 := hc1.below B2 hc1.lt; have hx2 := (HX.out _ B1).below B2 (HX.out _ B1).lt; have q1 := hx2.cell 1; have p0 := (hc2.cell 0).trans k0.out; have p2 := (hc2.cell 17).trans k17.out; have p3 := (hc2.cell 18).trans k18.out; simp only [List.getElem?_cons_zero, List.getElem?_cons_succ] at q1)
      | (refine wpList_load_rw rfl 44 (.tmp 3) rfl _ cs 44 _ rfl hc2 Tryz.underlying44 rfl HSz ?_)
      | (go_at_call 74; refine (CI _).mono ?_; rintro e w3 ⟨rfl, B3⟩; have hc3 := hc2.below B3 hc2.lt; have hx3 := hx2.below B3 hx2.lt; have q1' := hx3.cell 1; have p0' := (hc3.cell 0).trans k0.out; have p2' := (hc3.cell 17).trans k17.out; have p3' := (hc3.cell 18).trans k18.out; simp only [List.getElem?_cons_zero, List.getElem?_cons_succ] at q1'))
            go_ret
            exact ⟨by rw [HR2.out]; rfl, ((AB.out.trans (B1.mono AB.out.size)).trans (B2.mono (Nat.le_trans AB.out.size B1.size))).trans (B3.mono (Nat.le_trans AB.out.size (Nat.le_trans B1.size B2.size)))⟩
          · have HR2 : Hid (cg = 0) := by show _ = _; rw [HR.out, if_neg (by omega), if_neg (by simp [h1]), if_neg (by simp; omega)]
            go_enter Tryz.func56, Tryz.ntmps56
            go_wp2_with (first
      | (refine wpList_box_row rfl 44 (.tmp 1) rfl cs rfl ?_; intro W1 hc1 B1 HS1; rw [World.size_alloc] at hc1; have r0 := (HX.out _ B1).cell 0; have r1 := (HX.out _ B1).cell 1; have r2 := (HX.out _ B1).cell 2; simp only [List.getElem?_cons_zero, List.getElem?_cons_succ] at r0 r1 r2)
      | (go_at_call 18; refine (CH.out _ (AB.out.trans (B1.mono AB.out.size))).mono ?_; rintro e w2 ⟨rfl, B2⟩; have hc2 := hc1.below B2 hc1.lt; have hx2 := (HX.out _ B1).below B2 (HX.out _ B1).lt; have q1 := hx2.cell 1; have p0 := (hc2.cell 0).trans k0.out; have p2 := (hc2.cell 17).trans k17.out; have p3 := (hc2.cell 18).trans k18.out; simp only [List.getElem?_cons_zero, List.getElem?_cons_succ] at q1)
      | (refine wpList_load_rw rfl 44 (.tmp 3) rfl _ cs 44 _ rfl hc2 Tryz.underlying44 rfl HSz ?_)
      | (go_at_call 74; refine (CI _).mono ?_; rintro e w3 ⟨rfl, B3⟩; have hc3 := hc2.below B3 hc2.lt; have hx3 := hx2.below B3 hx2.lt; have q1' := hx3.cell 1; have p0' := (hc3.cell 0).trans k0.out; have p2' := (hc3.cell 17).trans k17.out; have p3' := (hc3.cell 18).trans k18.out; simp only [List.getElem?_cons_zero, List.getElem?_cons_succ] at q1'))
            go_ret
            exact ⟨by rw [HR2.out]; rfl, ((AB.out.trans (B1.mono AB.out.size)).trans (B2.mono (Nat.le_trans AB.out.size B1.size))).trans (B3.mono (Nat.le_trans AB.out.size (Nat.le_trans B1.size B2.size)))⟩
  · have hc' : (ck != 0) = true := by simp [hc]
    have HR2 : Hid (cg = ck) := by show _ = _; rw [HR.out, if_pos hc]
    go_enter Tryz.func56, Tryz.ntmps56
    go_wp2_with (first
      | (refine wpList_box_row rfl 44 (.tmp 1) rfl cs rfl ?_; intro W1 hc1 B1 HS1; rw [World.size_alloc] at hc1; have r0 := (HX.out _ B1).cell 0; have r1 := (HX.out _ B1).cell 1; have r2 := (HX.out _ B1).cell 2; simp only [List.getElem?_cons_zero, List.getElem?_cons_succ] at r0 r1 r2)
      | (go_at_call 18; refine (CH.out _ (AB.out.trans (B1.mono AB.out.size))).mono ?_; rintro e w2 ⟨rfl, B2⟩; have hc2 := hc1.below B2 hc1.lt; have hx2 := (HX.out _ B1).below B2 (HX.out _ B1).lt; have q1 := hx2.cell 1; have p0 := (hc2.cell 0).trans k0.out; have p2 := (hc2.cell 17).trans k17.out; have p3 := (hc2.cell 18).trans k18.out; simp only [List.getElem?_cons_zero, List.getElem?_cons_succ] at q1)
      | (refine wpList_load_rw rfl 44 (.tmp 3) rfl _ cs 44 _ rfl hc2 Tryz.underlying44 rfl HSz ?_)
      | (go_at_call 74; refine (CI _).mono ?_; rintro e w3 ⟨rfl, B3⟩; have hc3 := hc2.below B3 hc2.lt; have hx3 := hx2.below B3 hx2.lt; have q1' := hx3.cell 1; have p0' := (hc3.cell 0).trans k0.out; have p2' := (hc3.cell 17).trans k17.out; have p3' := (hc3.cell 18).trans k18.out; simp only [List.getElem?_cons_zero, List.getElem?_cons_succ] at q1'))
    go_ret
    exact ⟨by rw [HR2.out]; rfl, (AB.out.trans (B1.mono AB.out.size)).trans (B2.mono (Nat.le_trans AB.out.size B1.size))⟩
theorem setS_frame {s : Sp} (v : Int) : (stV s).set 0 (.int .i64 v) = stV { s with frame := v } := rfl
theorem setS_last {s : Sp} (h : s.Wf) (j : Nat) (v : Value) : (stV s).set (17 + j) v = .int .i64 s.frame :: (s.cells.map (Value.int .i32) ++ ([.int .u32 s.seed, .bool s.over, .int .i64 s.win] : List Value).set j v) := by
  have hl := h.cells
  rw [stV, show 17 + j = (16 + j) + 1 by omega, List.set_cons_succ, List.set_append_right _ _ (by simp [hl])]
  simp [hl]
theorem setS_over {s : Sp} (h : s.Wf) (v : Bool) : (stV s).set 18 (.bool v) = stV { s with over := v } := setS_last h 1 _
theorem setS_win {s : Sp} (h : s.Wf) (v : Int) : (stV s).set 19 (.int .i64 v) = stV { s with win := v } := setS_last h 2 _
theorem two_blocks {w : World} {a b : Nat} {cs : List Value} {t : TypeId} (h : Cw w a cs t) (hn : a ≠ b) (i : Nat) (v : Value) : Cw (w.setCell ⟨b, i, none⟩ v) a cs t := h.keep (Below.heap_setCell _ _ _ _ hn)
set_option maxRecDepth 20000 in
set_option maxHeartbeats 2000000 in
theorem ended_any (s : Sp) (h : s.Wf) (cap : Int) (hf : 0 ≤ s.frame ∧ s.frame < 600) (w : World) : Calls Tryz.prog 58 #[.agg (stV s).toArray, .int .i64 cap] w fun e w' => e = .returned (.agg (stV (endS cap s)).toArray) ∧ Below w.heap.size w w' := by
  have hC := stV_c h
  have k0 := hid_into hC.frame
  have k18 := hid_into hC.over
  have k19 := hid_into hC.win
  have c0 := hid_into (hC.cell 0 (by omega))
  have c1 := hid_into (hC.cell 1 (by omega))
  have CM := fun W => more_any (s.cells.getD 0 0) (s.cells.getD 1 0) W
  obtain ⟨os, hos⟩ : ∃ os, os = zeroS := ⟨_, rfl⟩
  have HZ : Hid ((Tryz.prog.info? 44).bind (·.zero) = some (.agg os.toArray)) := by rw [hos]; exact Tryz.zero44
  have hol : os.length = 20 := by rw [hos]; rfl
  have HSo : Hid ((Tryz.prog.info? 44).map (·.size) = some os.length) := by rw [hol]; exact Tryz.size44
  have hend : (endS cap s).Wf := by unfold endS; split <;> exact ⟨h.cells, h.cin, h.seed⟩
  have hD := stV_c hend
  obtain ⟨ds, hds0⟩ : ∃ ds, ds = stV (endS cap s) := ⟨_, rfl⟩
  rw [← hds0] at hD ⊢
  have HSd : Hid ((Tryz.prog.info? 44).map (·.size) = some ds.length) := by rw [hD.len]; exact Tryz.size44
  have HSl : Hid (os.length = ds.length) := by rw [hol, hD.len]; exact hid_into rfl
  have HDo := hid_into hD.one
  have e1 : (if s.frame + 1 = cap ∧ s.over = false then ds = (((stV s).set 0 (.int .i64 (s.frame + 1))).set 18 (.bool true)).set 19 (.int .i64 (moreI (s.cells.getD 0 0) (s.cells.getD 1 0))) else ds = (stV s).set 0 (.int .i64 (s.frame + 1))) := by
    rw [hds0]
    unfold endS
    split
    · rw [setS_frame, setS_over (s := { s with frame := s.frame + 1 }) ⟨h.cells, h.cin, h.seed⟩, setS_win (s := { s with frame := s.frame + 1, over := true }) ⟨h.cells, h.cin, h.seed⟩]
    · rw [setS_frame]
  clear hC hD hend hds0 hos hol
  generalize stV s = cs at k0 k18 k19 c0 c1 e1 ⊢
  generalize s.cells.getD 0 0 = a0 at c0 CM e1
  generalize s.cells.getD 1 0 = a1 at c1 CM e1
  generalize moreI a0 a1 = mo at CM e1
  obtain ⟨fr, cells, seed, over, win⟩ := s
  simp only at k0 k18 k19 e1 hf
  clear h
  by_cases hcap : fr + 1 = cap
  · cases over with
    | false =>
      rw [if_pos ⟨hcap, rfl⟩] at e1
      have hds := e1
      clear e1
      have HLD : Hid (∀ W, Cw W w.heap.size cs 44 → Cw (((W.setCell ⟨w.heap.size, 0, none⟩ (.int .i64 (fr + 1))).setCell ⟨w.heap.size, 18, none⟩ (.bool true)).setCell ⟨w.heap.size, 19, none⟩ (.int .i64 mo)) w.heap.size ds 44) := fun W hW => hds ▸ ((hW.set 0 _).set 18 _).set 19 _
      have HRS : Hid (∀ W b, w.heap.size < b → Cw W b os 44 → Cw (((W.setCell ⟨w.heap.size, 0, none⟩ (.int .i64 (fr + 1))).setCell ⟨w.heap.size, 18, none⟩ (.bool true)).setCell ⟨w.heap.size, 19, none⟩ (.int .i64 mo)) b os 44) := fun W b hb hW => two_blocks (two_blocks (two_blocks hW (by omega) _ _) (by omega) _ _) (by omega) _ _
      have HBB : Hid (∀ W W4 b, w.heap.size < b → Below w.heap.size w W → Only b (((W.setCell ⟨w.heap.size, 0, none⟩ (.int .i64 (fr + 1))).setCell ⟨w.heap.size, 18, none⟩ (.bool true)).setCell ⟨w.heap.size, 19, none⟩ (.int .i64 mo)) W4 → Below w.heap.size w W4) := fun W W4 b hb hW O4 => (((hW.trans ((Only.set _ _ _ _).below (Nat.le_refl _))).trans ((Only.set _ _ _ _).below (Nat.le_refl _))).trans ((Only.set _ _ _ _).below (Nat.le_refl _))).trans (O4.below (by omega))
      clear hds
      subst hcap
      go_enter Tryz.func58, Tryz.ntmps58
      go_wp2_with (first
      | (refine wpList_box_row rfl 44 (.tmp 0) rfl cs rfl ?_; intro W1 hc1 B1 HS1)
      | (refine wpList_alloc_row rfl 44 rfl os HZ.out ?_; intro W2 hr2 B2 HS2; have hlt2 : Hid (w.heap.size < W1.heap.size) := hc1.lt; have hc2 := hid_into (hc1.below B2 hc1.lt); have hr2' := hid_into hr2; have BB := hid_into (B1.trans (B2.mono B1.size)); have f0 := hc2.out.frozen 0; have f18 := hc2.out.frozen 18; have f19 := hc2.out.frozen 19; have q0 := (hc2.out.cell 0).trans k0.out; have q1 := (hc2.out.cell 1).trans c0.out; have q2 := (hc2.out.cell 2).trans c1.out; have q18 := (hc2.out.cell 18).trans k18.out; have q19 := (hc2.out.cell 19).trans k19.out; clear hc1 hr2 B1 B2 HS1 HS2)
      | (go_at_call 80; refine (CM _).mono ?_; rintro e w3 ⟨rfl, rfl⟩)
      | (refine wpList_load_rw rfl 44 (.tmp 2) rfl w.heap.size ds 44 _ rfl ?_ Tryz.underlying44 rfl HSd ?_; exact HLD.out _ hc2.out)
      | (refine wpList_store_rw rfl 44 (.tmp 4) (.tmp 27) rfl W1.heap.size os ds 44 rfl rfl ?_ HSo HSl HDo.out ?_; exact HRS.out _ _ hlt2.out hr2'.out; intro W4 hr4 O4))
      refine ret_row rfl rfl rfl hr4 Tryz.underlying44 rfl HSd ⟨rfl, ?_⟩
      exact HBB.out _ _ _ hlt2.out BB.out O4
    | true =>
      rw [if_neg (by simp)] at e1
      have hds := e1
      clear e1
      have HLD : Hid (∀ W, Cw W w.heap.size cs 44 → Cw (W.setCell ⟨w.heap.size, 0, none⟩ (.int .i64 (fr + 1))) w.heap.size ds 44) := fun W hW => hds ▸ hW.set 0 _
      have HRS : Hid (∀ W b, w.heap.size < b → Cw W b os 44 → Cw (W.setCell ⟨w.heap.size, 0, none⟩ (.int .i64 (fr + 1))) b os 44) := fun W b hb hW => two_blocks hW (by omega) _ _
      have HBB : Hid (∀ W W4 b, w.heap.size < b → Below w.heap.size w W → Only b (W.setCell ⟨w.heap.size, 0, none⟩ (.int .i64 (fr + 1))) W4 → Below w.heap.size w W4) := fun W W4 b hb hW O4 => (hW.trans ((Only.set _ _ _ _).below (Nat.le_refl _))).trans (O4.below (by omega))
      clear hds
      subst hcap
      go_enter Tryz.func58, Tryz.ntmps58
      go_wp2_with (first
      | (refine wpList_box_row rfl 44 (.tmp 0) rfl cs rfl ?_; intro W1 hc1 B1 HS1)
      | (refine wpList_alloc_row rfl 44 rfl os HZ.out ?_; intro W2 hr2 B2 HS2; have hlt2 : Hid (w.heap.size < W1.heap.size) := hc1.lt; have hc2 := hid_into (hc1.below B2 hc1.lt); have hr2' := hid_into hr2; have BB := hid_into (B1.trans (B2.mono B1.size)); have f0 := hc2.out.frozen 0; have f18 := hc2.out.frozen 18; have f19 := hc2.out.frozen 19; have q0 := (hc2.out.cell 0).trans k0.out; have q1 := (hc2.out.cell 1).trans c0.out; have q2 := (hc2.out.cell 2).trans c1.out; have q18 := (hc2.out.cell 18).trans k18.out; have q19 := (hc2.out.cell 19).trans k19.out; clear hc1 hr2 B1 B2 HS1 HS2)
      | (go_at_call 80; refine (CM _).mono ?_; rintro e w3 ⟨rfl, rfl⟩)
      | (refine wpList_load_rw rfl 44 (.tmp 2) rfl w.heap.size ds 44 _ rfl ?_ Tryz.underlying44 rfl HSd ?_; exact HLD.out _ hc2.out)
      | (refine wpList_store_rw rfl 44 (.tmp 4) (.tmp 27) rfl W1.heap.size os ds 44 rfl rfl ?_ HSo HSl HDo.out ?_; exact HRS.out _ _ hlt2.out hr2'.out; intro W4 hr4 O4))
      refine ret_row rfl rfl rfl hr4 Tryz.underlying44 rfl HSd ⟨rfl, ?_⟩
      exact HBB.out _ _ _ hlt2.out BB.out O4
  · rw [if_neg (by simp [hcap])] at e1
    have hds := e1
    clear e1
    have HLD : Hid (∀ W, Cw W w.heap.size cs 44 → Cw (W.setCell ⟨w.heap.size, 0, none⟩ (.int .i64 (fr + 1))) w.heap.size ds 44) := fun W hW => hds ▸ hW.set 0 _
    have HRS : Hid (∀ W b, w.heap.size < b → Cw W b os 44 → Cw (W.setCell ⟨w.heap.size, 0, none⟩ (.int .i64 (fr + 1))) b os 44) := fun W b hb hW => two_blocks hW (by omega) _ _
    have HBB : Hid (∀ W W4 b, w.heap.size < b → Below w.heap.size w W → Only b (W.setCell ⟨w.heap.size, 0, none⟩ (.int .i64 (fr + 1))) W4 → Below w.heap.size w W4) := fun W W4 b hb hW O4 => (hW.trans ((Only.set _ _ _ _).below (Nat.le_refl _))).trans (O4.below (by omega))
    clear hds
    have hb : (fr + 1 == cap) = false := by simp [hcap]
    go_enter Tryz.func58, Tryz.ntmps58
    go_wp2_with (first
      | (refine wpList_box_row rfl 44 (.tmp 0) rfl cs rfl ?_; intro W1 hc1 B1 HS1)
      | (refine wpList_alloc_row rfl 44 rfl os HZ.out ?_; intro W2 hr2 B2 HS2; have hlt2 : Hid (w.heap.size < W1.heap.size) := hc1.lt; have hc2 := hid_into (hc1.below B2 hc1.lt); have hr2' := hid_into hr2; have BB := hid_into (B1.trans (B2.mono B1.size)); have f0 := hc2.out.frozen 0; have f18 := hc2.out.frozen 18; have f19 := hc2.out.frozen 19; have q0 := (hc2.out.cell 0).trans k0.out; have q1 := (hc2.out.cell 1).trans c0.out; have q2 := (hc2.out.cell 2).trans c1.out; have q18 := (hc2.out.cell 18).trans k18.out; have q19 := (hc2.out.cell 19).trans k19.out; clear hc1 hr2 B1 B2 HS1 HS2)
      | (go_at_call 80; refine (CM _).mono ?_; rintro e w3 ⟨rfl, rfl⟩)
      | (refine wpList_load_rw rfl 44 (.tmp 2) rfl w.heap.size ds 44 _ rfl ?_ Tryz.underlying44 rfl HSd ?_; exact HLD.out _ hc2.out)
      | (refine wpList_store_rw rfl 44 (.tmp 4) (.tmp 27) rfl W1.heap.size os ds 44 rfl rfl ?_ HSo HSl HDo.out ?_; exact HRS.out _ _ hlt2.out hr2'.out; intro W4 hr4 O4))
    refine ret_row rfl rfl rfl hr4 Tryz.underlying44 rfl HSd ⟨rfl, ?_⟩
    exact HBB.out _ _ _ hlt2.out BB.out O4
end Go.Proofs.YtbfldcieibdapabGreat
end
