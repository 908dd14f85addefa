/-
  vm.Decode, by a contract.
-/
import Derived.Test.YtkchdkcdkeajkaaDecP
import Derived.Test.YtkchdkcdkeajkaaLaw
import Derived.Test.YtkchdkcdkeajkaaStEq
import Derived.Deep.CutBlock
import Derived.Deep.RegionHeld3
namespace Go.Proofs.Ytkchdkcdkeajkaa.Oc
open Go.RowKit
theorem newReader_lt (sv : Value) (zs : List Int) (w : World) (hb : Bs w sv zs) (hz : zs.length ≤ 100000000000000) :
    Calls Try.prog 24 #[sv] w fun e w' => ∃ b v, e = .returned (.pointer (some ⟨b, 0, none⟩)) ∧ Rd w' b v zs 0 ∧ Below w.heap.size w w' ∧ w.heap.size ≤ b ∧ ∀ k, v.ownBlock = some k → w.heap.size ≤ k ∧ k < w'.heap.size := by
  go_enter Try.func24, Try.ntmps24
  go_wp2_with fail
  refine (clone_any sv zs _ hb hz).mono ?_
  rintro e w1 ⟨ao, cap, rfl, hown, B1⟩
  have R : Rd (w1.alloc (.cells #[.slice ao zs.length cap, .int .i64 0] 72)) w1.heap.size (.slice ao zs.length cap) zs 0 :=
    ⟨heap_alloc_new w1 _, hown.bs.below ((Below.refl _ _).alloc (Nat.le_refl _) _) (Nat.le_refl _), fun e => by have := World.ownsRow.lt hown _ e; omega⟩
  have hk : ∀ k, (Value.slice ao zs.length cap).ownBlock = some k → w.heap.size ≤ k ∧ k < (w1.alloc (.cells #[.slice ao zs.length cap, .int .i64 0] 72)).heap.size := fun k e => by have := World.ownsRow.lt hown k e; refine ⟨this.1, ?_⟩; simp; omega
  have hs := B1.size
  clear hown
  go_wp2
  go_ret
  exact ⟨_, _, rfl, R, B1.alloc hs _, hs, hk⟩

end Go.Proofs.Ytkchdkcdkeajkaa.Oc
namespace Go.Proofs.Ytkchdkcdkeajkaa
open Go.RowKit Oc
def fl : Bool → Int
  | true => 1
  | false => 0
theorem flag_any (q : Bool) (w : World) : Calls Try.prog 28 #[.bool q] w fun e w' => e = .returned (.int .u8 (fl q)) ∧ w' = w := by
  cases q with
  | true =>
    go_enter Try.func28, Try.ntmps28
    go_wp2
    go_ret
    exact ⟨rfl, rfl⟩
  | false =>
    go_enter Try.func28, Try.ntmps28
    go_wp2
    go_ret
    exact ⟨rfl, rfl⟩
/-- The variables of Decode: the answer, the Reader, the state. -/
structure Dv (w W : World) (b c : Nat) (v : Value) (zs : List Int) (e : Int) (cs : List Value) : Prop where
  r : Cw W w.heap.size zeroS 35
  rd : Rd W b v zs e
  s : Cw W c cs 35
  hb : w.heap.size < b
  hc : b < c
  own : ∀ k, v.ownBlock = some k → w.heap.size < k ∧ k < c
  below : Below w.heap.size w W
section
variable {w W W' : World} {b c : Nat} {v : Value} {zs zs' : List Int} {e e' : Int} {cs ds : List Value}
theorem Dv.read (h : Dv w W b c v zs e cs) (hl : Rleft W b v W' zs' e') : ∃ v', Dv w W' b c v' zs' e' cs := by
  obtain ⟨v', h1, h2, h3⟩ := hl
  have hb := h.hb
  have hc := h.hc
  refine ⟨v', h.r.keep (h2.block _ h.r.lt (by omega)), h1, h.s.keep (h2.block _ h.s.lt (by omega)), hb, hc, fun k hk => ?_, ?_⟩
  · rcases h3 with h3 | h3
    · exact h.own k (h3 ▸ hk)
    · rw [h3] at hk; cases hk
  · exact h.below.trans ⟨h2.os, h2.tape, h2.output, h2.size, fun k hk => h2.block k (Nat.lt_of_lt_of_le hk h.below.size) (by omega)⟩
theorem Dv.set (h : Dv w W b c v zs e cs) (O : Only c W W') (hs : Cw W' c ds 35) : Dv w W' b c v zs e ds := by
  have hb := h.hb
  have hc := h.hc
  refine ⟨O.cw h.r (by omega), h.rd.keep (O.block b (by omega)) (fun k hk _ => O.block k (by have := h.own k hk; omega)), hs, hb, hc, h.own, h.below.trans (O.below (by omega))⟩
theorem Dv.lt (h : Dv w W b c v zs e cs) : ∀ k, v.ownBlock = some k → k < W.heap.size := fun k hk => Nat.lt_trans (h.own k hk).2 h.s.lt
theorem Dv.next (h : Dv w W b c v zs e cs) (hB : Below W.heap.size W W') : Dv w W' b c v zs e cs := ⟨h.r.below hB h.r.lt, h.rd.below hB (Nat.le_refl _), h.s.below hB h.s.lt, h.hb, h.hc, h.own, h.below.trans (hB.mono h.below.size)⟩
end
theorem Dv.make {w W1 w2 w3 W4 W5 : World} {b : Nat} {v2 : Value} {zs' : List Int} {e' : Int} {cs : List Value} (hr2 : Cw w2 w.heap.size zeroS 35) (hb2 : W1.heap.size ≤ b) (hv2 : ∀ k, v2.ownBlock = some k → W1.heap.size ≤ k ∧ k < w2.heap.size) (hl1 : w.heap.size < W1.heap.size) (HB2 : Below w.heap.size w w2) (hl3 : Rleft w2 b v2 w3 zs' e') (B4 : Below w3.heap.size w3 W4) (hs5 : Cw W5 w3.heap.size cs 35) (O5 : Only w3.heap.size W4 W5) : ∃ v, Dv w W5 b w3.heap.size v zs' e' cs := by
  obtain ⟨v', h1, h2, h3⟩ := hl3
  have hbl := h1.lt
  have hs2 := h2.size
  have hr2l := hr2.lt
  have hr3 : Cw w3 w.heap.size zeroS 35 := hr2.keep (h2.block _ hr2l (by omega))
  have ho : ∀ k, v'.ownBlock = some k → w.heap.size < k ∧ k < w3.heap.size := fun k hk => by
    rcases h3 with h3 | h3
    · have := hv2 k (h3 ▸ hk); omega
    · rw [h3] at hk; cases hk
  have b3 : Below w.heap.size w w3 := HB2.trans ⟨h2.os, h2.tape, h2.output, h2.size, fun k hk => h2.block k (by omega) (by omega)⟩
  refine ⟨v', O5.cw (hr3.below B4 (by omega)) (by omega), ?_, hs5, by omega, hbl, ho, (b3.trans (B4.mono b3.size)).trans (O5.below b3.size)⟩
  exact (h1.below B4 (Nat.le_refl _)).keep (O5.block b (by omega)) (fun k hk _ => O5.block k (by have := ho k hk; omega))
theorem setCell_st {s : Sp} (h : s.cells.length = 16) (k : Nat) (hk : k < 16) (x : Int) : (stV s).set (1 + k) (.int .i32 x) = stV { s with cells := s.cells.set k x } := by
  unfold stV
  rw [Nat.add_comm 1 k, List.set_cons_succ, List.set_append_left _ _ (by rw [List.length_map, h]; exact hk), List.map_set]
theorem setS_seed {s : Sp} (h : s.Wf) (v : Int) : (stV s).set 17 (.int .u32 v) = stV { s with seed := v } := setS_last h 0 _
theorem built28f (fr : Int) : Try.prog.built 35 [(0, .int .i64 fr)] = some (stV ⟨fr, zeros, 0, false, 0⟩).toArray := by kernel_rfl
/-- The state, field by field. -/
def s0D (zs : List Int) : Sp := ⟨(dA zs).1, (dB zs).1, 0, false, 0⟩
def s1D (zs : List Int) : Sp := ⟨(dA zs).1, (dB zs).1, fourV (dC zs).1, false, 0⟩
def s2D (zs : List Int) (o : Bool) : Sp := ⟨(dA zs).1, (dB zs).1, fourV (dC zs).1, o, 0⟩
def s3D (zs : List Int) (o : Bool) (x : Int) : Sp := ⟨(dA zs).1, (dB zs).1, fourV (dC zs).1, o, x⟩
/-- The state behind k numbers of four bytes. -/
def sK (zs : List Int) (k : Nat) : Sp := ⟨(dA zs).1, cellsK zs k, 0, false, 0⟩
set_option maxRecDepth 20000 in
set_option maxHeartbeats 4000000 in
theorem Decode_any (sv : Value) (zs : List Int) (w : World) (hb : Bs w sv zs) (hz : Byt zs) (hlen : zs.length ≤ 100000) :
    Calls Try.prog 22 #[sv] w fun e w' => e = .returned (.tuple #[.agg (stV (decP zs).1).toArray, .int .i64 (decP zs).2]) ∧ Below w.heap.size w w' := by
  obtain ⟨ao, cp, rfl, hm⟩ := hb.len
  obtain ⟨P, hP⟩ : ∃ P, P = decP zs := ⟨_, rfl⟩
  rw [← hP]
  have HPd := hid_into hP
  clear hP
  have C32 : Hid (∀ W, Below w.heap.size w W → Calls Try.prog 24 #[.slice ao zs.length cp] W fun e w' => ∃ b v, e = .returned (.pointer (some ⟨b, 0, none⟩)) ∧ Rd w' b v zs 0 ∧ Below W.heap.size W w' ∧ W.heap.size ≤ b ∧ ∀ k, v.ownBlock = some k → W.heap.size ≤ k ∧ k < w'.heap.size) := fun W hW => newReader_lt _ zs W (hb.below hW (Nat.le_refl _)) (by omega)
  have C33 : Hid (∀ b v W, Rd W b v zs 0 → Calls Try.prog 25 #[.pointer (some ⟨b, 0, none⟩)] W fun r w' => r = .returned (.int .i64 (dA zs).1) ∧ Rleft W b v w' (dA zs).2.1 (dA zs).2.2) := fun b v W h => rnum_any b v zs W h hz
  have HZ : Hid ((Try.prog.info? 35).bind (·.zero) = some (.agg zeroS.toArray)) := Try.zero35
  have ZS := zeroS_size
  have HBz : Hid (Try.prog.built 35 [] = some zeroS.toArray) := built28z
  have HOz : Hid (∀ v ∈ zeroS, v.oneCell' = true) := hid_into (by decide)
  have HBy := hid_into hz
  have HB0 := hid_into (built28f (dA zs).1)
  have hk0 : (⟨(dA zs).1, zeros, 0, false, 0⟩ : Sp) = sK zs 0 := rfl
  rw [hk0] at HB0
  have HL0 : Hid (zeroS.length = (stV (sK zs 0)).length) := rfl
  have HO0 : Hid (∀ v ∈ stV (sK zs 0), v.oneCell' = true) := hid_into (by intro v hv; simp only [stV, sK, cellsK_zero, zeros, List.map_cons, List.map_nil, List.cons_append, List.nil_append, List.mem_cons, List.not_mem_nil, or_false] at hv; rcases hv with rfl | rfl | rfl | rfl | rfl | rfl | rfl | rfl | rfl | rfl | rfl | rfl | rfl | rfl | rfl | rfl | rfl | rfl | rfl | rfl <;> rfl)
  obtain ⟨c0, hc0⟩ : ∃ c0, c0 = stV (sK zs 0) := ⟨_, rfl⟩
  rw [← hc0] at HB0 HL0 HO0
  have HC0 := hid_into hc0
  clear hc0 hk0 hb hm
  go_enter Try.func22, Try.ntmps22
  have tok1 : True := trivial
  go_upto_block 0 with (go_big_may; first
    | (have _t := tok1; refine wpList_alloc_row rfl 35 rfl zeroS HZ.out ?_; intro W1 hr1 B1 _; clear tok1)
    | (go_at_call 24; refine (C32.out _ B1).mono ?_; rintro e w2 ⟨b, v2, rfl, hrd, B2, hb2, hv2⟩; have hr2 := hr1.below B2 hr1.lt; have hl1 : Hid (w.heap.size < W1.heap.size) := hr1.lt; have HB2 := hid_into (B1.trans (B2.mono B1.size)); clear C32 hr1 B1 B2)
    | (go_at_call 25; refine (C33.out b v2 _ hrd).mono ?_; rintro e w3 ⟨rfl, hl3⟩)
    | (refine wpList_build_row rfl 35 #[(0, .tmp 12)] rfl c0 _ rfl ?_ ?_; exact HB0.out)
    | (refine wpList_alloc_row rfl 35 rfl zeroS HZ.out ?_; intro W4 hs4 B4 _)
    | (refine wpList_store_rw rfl 35 (.tmp 5) (.tmp 13) rfl w3.heap.size zeroS c0 35 rfl rfl ?_ ZS HL0 HO0.out ?_; exact hs4; intro W5 hs5 O5))
  obtain ⟨v5, hD5⟩ := Dv.make hr2 hb2 hv2 hl1.out HB2.out hl3 B4 hs5 O5
  have HD5 := hid_into hD5
  clear hD5 hr2 hb2 hv2 hl1 HB2 hl3 B4 hs5 O5 hs4 hrd C33
  have HW4 : Hid (∀ k, k ≤ 16 → (sK zs k).Wf) := fun k hk => ⟨cellsK_len zs hk, fun x hx => by
      rcases List.mem_append.1 hx with h | h
      · exact fk_in _ _ k x h
      · rw [(List.mem_replicate.1 h).2]; exact zero_in, by show (0 : Int) ≤ 0 ∧ (0 : Int) < 4294967296; omega⟩
  have C34 : Hid (∀ W b v ys e, Rd W b v ys e → Byt ys → (∀ k, v.ownBlock = some k → k < W.heap.size) → Calls Try.prog 26 #[.pointer (some ⟨b, 0, none⟩)] W fun r w' => r = .returned (.int .u32 (fourV (rowR z4 ys e).1)) ∧ Rleft W b v w' (rowR z4 ys e).2.1 (rowR z4 ys e).2.2) := fun W b v ys e h1 h2 h3 => rfour_any b v ys e W h1 h2 h3
  go_wp2_with fail
  go_loopw [14] (fun i wr => ∃ (k : Nat) (v : Value), k ≤ 16 ∧ i = .int .i64 (k : Int) ∧ Hid (Dv w wr b w3.heap.size v (fk k (dA zs).2.1 (dA zs).2.2).2.1 (fk k (dA zs).2.1 (dA zs).2.2).2.2 (stV (sK zs k)))) (fun i _ => 16 - (intOf i).toNat)
  case atStart => exact ⟨0, v5, Nat.zero_le _, rfl, by rw [HC0.out] at HD5; exact HD5.out⟩
  case round =>
    clear HD5 HC0 HB0 HL0 HO0
    obtain ⟨k, v, hk, rfl, HD⟩ := hrel
    by_cases hlt : k < 16
    · have hlt' : (k : Int) < 16 := by omega
      have hby := fk_byt (dA zs).2.2 (dA_byt HBy.out) k
      have C := hid_into (C34.out wr b v _ _ HD.out.rd hby HD.out.lt)
      have HSt := hid_into (cellsK_step zs hlt)
      have HSt2 : Hid ((stV (sK zs k)).set (1 + k) (.int .i32 (sgnI (fourV (rowR z4 (fk k (dA zs).2.1 (dA zs).2.2).2.1 (fk k (dA zs).2.1 (dA zs).2.2).2.2).1))) = stV (sK zs (k + 1))) := by
        rw [setCell_st (HW4.out k hk).cells k hlt]
        refine hid_into ?_
        unfold sK
        rw [HSt.out]
      have hfk : fk (k + 1) (dA zs).2.1 (dA zs).2.2 = ((fk k (dA zs).2.1 (dA zs).2.2).1 ++ [sgnI (fourV (rowR z4 (fk k (dA zs).2.1 (dA zs).2.2).2.1 (fk k (dA zs).2.1 (dA zs).2.2).2.2).1)], (rowR z4 (fk k (dA zs).2.1 (dA zs).2.2).2.1 (fk k (dA zs).2.1 (dA zs).2.2).2.2).2.1, (rowR z4 (fk k (dA zs).2.1 (dA zs).2.2).2.1 (fk k (dA zs).2.1 (dA zs).2.2).2.2).2.2) := rfl
      have HFk := hid_into hfk
      have HCk := hid_into (stV_c (HW4.out k hk))
      have HIn := hid_into (sgnI_in (fourV (rowR z4 (fk k (dA zs).2.1 (dA zs).2.2).2.1 (fk k (dA zs).2.1 (dA zs).2.2).2.2).1))
      clear hfk hby HSt
      generalize hX : fourV (rowR z4 (fk k (dA zs).2.1 (dA zs).2.2).2.1 (fk k (dA zs).2.1 (dA zs).2.2).2.2).1 = X at C HSt2 HIn
      have hsg : IntKind.i32.wrap X = sgnI X := rfl
      clear hX
      go_wp2_with (first
        | (go_at_call 26; refine C.out.mono ?_; rintro e w6 ⟨rfl, hl6⟩; obtain ⟨v6, hD6⟩ := HD.out.read hl6; have HD6 := hid_into hD6; have f6 := hD6.s.frozen (1 + k); have e6 := (hD6.s.cell (1 + k)).trans (HCk.out.cell k hlt); clear hl6 hD6))
      refine ⟨⟨k + 1, v6, by omega, by go_num, ?_⟩, by simp [intOf]; omega⟩
      have h7 := HD6.out.set (Only.set _ _ _ _) (HD6.out.s.set (1 + k) (.int .i32 (sgnI X)))
      rw [HSt2.out] at h7
      rw [HFk.out]
      exact h7
    · obtain rfl : k = 16 := by omega
      have e16 : fk 16 (dA zs).2.1 (dA zs).2.2 = dB zs := rfl
      rw [e16] at HD
      have C34x := hid_into (C34.out wr b v _ _ HD.out.rd (dB_byt HBy.out) HD.out.lt)
      have C35 : Hid (∀ W b v ys e, Rd W b v ys e → Calls Try.prog 27 #[.pointer (some ⟨b, 0, none⟩)] W fun r w' => r = .returned (.int .u8 ((rowR [0] ys e).1.getD 0 0)) ∧ Rleft W b v w' (rowR [0] ys e).2.1 (rowR [0] ys e).2.2) := fun W b v ys e h1 => rbyte_u b v ys e W h1
      have C37 : Hid (∀ W b v ys e, Rd W b v ys e → Calls Try.prog 29 #[.pointer (some ⟨b, 0, none⟩)] W fun r w' => r = .returned (.int .i64 (endR ys e)) ∧ W = w') := fun W b v ys e h1 => end_any b v ys e W h1
      have e0 : stV (sK zs 16) = stV (s0D zs) := by unfold sK s0D; rw [cellsK_end]
      rw [e0] at HD
      have w0 : (s0D zs).Wf := ⟨fk_len _ _ 16, fk_in _ _ 16, by show (0 : Int) ≤ 0 ∧ (0 : Int) < 4294967296; omega⟩
      have w1 : (s1D zs).Wf := ⟨fk_len _ _ 16, fk_in _ _ 16, dC_in HBy.out⟩
      have w2 : ∀ o, (s2D zs o).Wf := fun o => ⟨fk_len _ _ 16, fk_in _ _ 16, dC_in HBy.out⟩
      have w3' : ∀ o x, (s3D zs o x).Wf := fun o x => ⟨fk_len _ _ 16, fk_in _ _ 16, dC_in HBy.out⟩
      have HA1 : Hid ((stV (s0D zs)).set 17 (.int .u32 (fourV (dC zs).1)) = stV (s1D zs)) := setS_seed w0 _
      have HA2' : ∀ o, Hid ((stV (s1D zs)).set 18 (.bool o) = stV (s2D zs o)) := fun o => setS_over w1 o
      have HA3' : ∀ o x, Hid ((stV (s2D zs o)).set 19 (.int .i64 x) = stV (s3D zs o x)) := fun o x => setS_win (w2 o) x
      have q0 := hid_into (stV_c w0)
      have q1 := hid_into (stV_c w1)
      have q2' := fun o => hid_into (stV_c (w2 o))
      have q3' := fun o x => hid_into (stV_c (w3' o x))
      have C35a : Hid (∀ W v, Rd W b v (dC zs).2.1 (dC zs).2.2 → Calls Try.prog 27 #[.pointer (some ⟨b, 0, none⟩)] W fun r w' => r = .returned (.int .u8 (dOv zs)) ∧ Rleft W b v w' (dD zs).2.1 (dD zs).2.2) := fun W v h => C35.out W b v _ _ h
      have C35b : Hid (∀ W v, Rd W b v (dD zs).2.1 (dD zs).2.2 → Calls Try.prog 27 #[.pointer (some ⟨b, 0, none⟩)] W fun r w' => r = .returned (.int .u8 ((dG zs).1.getD 0 0)) ∧ Rleft W b v w' (dG zs).2.1 (dG zs).2.2) := fun W v h => C35.out W b v _ _ h
      have C37x : Hid (∀ W v, Rd W b v (dG zs).2.1 (dG zs).2.2 → Calls Try.prog 29 #[.pointer (some ⟨b, 0, none⟩)] W fun r w' => r = .returned (.int .i64 (dE zs)) ∧ W = w') := fun W v h => C37.out W b v _ _ h
      have C34y : Hid (Calls Try.prog 26 #[.pointer (some ⟨b, 0, none⟩)] wr fun r w' => r = .returned (.int .u32 (fourV (dC zs).1)) ∧ Rleft wr b v w' (dC zs).2.1 (dC zs).2.2) := C34x
      have hY := getD_byt (dG_byt HBy.out).1
      have hOb := getD_byt (dD_byt HBy.out).1
      have hdS : dS zs = s3D zs (decide (dOv zs = 1)) ((dG zs).1.getD 0 0) := rfl
      have hdP : P = if dE zs ≠ 0 then (noS, dE zs) else if 1 < dOv zs ∨ isS (dS zs) = false then (noS, 3) else (dS zs, 0) := HPd.out
      rw [hdS] at hdP
      have HN3' := fun o x => st_size (w3' o x)
      have HL3' := fun o x => st_len (w3' o x)
      have HO3' := fun o x => st_one (w3' o x)
      clear C34x C35 C37 C34 e0 e16 hdS w0 w1 w2 w3' HW4 hk hlt HBy
      have C34x := C34y
      clear C34y
      have hO0 : 0 ≤ dOv zs := hOb.1
      have hO1 : dOv zs < 256 := hOb.2
      clear hOb
      generalize hXe : fourV (dC zs).1 = X at C34x HA1
      clear hXe
      generalize (dG zs).1.getD 0 0 = Y at C35b hdP hY
      generalize dE zs = er at C37x hdP
      generalize dOv zs = ob at C35a hdP hO0 hO1
      by_cases hb1 : ob = 1
      · subst hb1
        have hdt : decide ((1 : Int) = 1) = true := rfl
        rw [hdt] at hdP
        have HA2 := HA2' true
        have HA3 := HA3' true Y
        have q2 := q2' true
        have q3 := q3' true Y
        have HN3 := HN3' true Y
        have HL3 := HL3' true Y
        have HO3 := HO3' true Y
        clear HA2' HA3' q2' q3' HN3' HL3' HO3'
        by_cases he : er = 0
        · subst he
          rw [if_neg (by simp)] at hdP
          cases hi : isS (s3D zs true Y) with
          | true =>
            rw [hi, if_neg (by simp)] at hdP
            go_wp2_with (first
              | (go_at_call 26; refine C34x.out.mono ?_; rintro e w6 ⟨rfl, hl6⟩; obtain ⟨v6, hD6⟩ := HD.out.read hl6; have f6 := hD6.s.frozen 17; have e6 := (hD6.s.cell 17).trans q0.out.seed; have h7 := hD6.set (Only.set _ _ _ _) (hD6.s.set 17 (.int .u32 X)); rw [HA1.out] at h7; have HD7 := hid_into h7; clear hl6 hD6 h7 HD)
              | (go_at_call 27; have _q := HD7; refine (C35a.out _ _ HD7.out.rd).mono ?_; rintro e w8 ⟨rfl, hl8⟩; obtain ⟨v8, hD8⟩ := HD7.out.read hl8; have f8 := hD8.s.frozen 18; have e8 := (hD8.s.cell 18).trans q1.out.over; have h9 := hD8.set (Only.set _ _ _ _) (hD8.s.set 18 (.bool true)); rw [HA2.out] at h9; have HD9 := hid_into h9; clear hl8 hD8 h9 HD7 _q)
              | (go_at_call 28; refine (flag_any _ _).mono ?_; rintro e w9 ⟨rfl, hw9⟩; subst hw9; dsimp only [fl])
              | (go_at_call 27; have _q := HD9; refine (C35b.out _ _ HD9.out.rd).mono ?_; rintro e w10 ⟨rfl, hl10⟩; obtain ⟨v10, hD10⟩ := HD9.out.read hl10; have f10 := hD10.s.frozen 19; have e10 := (hD10.s.cell 19).trans q2.out.win; have h11 := hD10.set (Only.set _ _ _ _) (hD10.s.set 19 (.int .i64 Y)); rw [HA3.out] at h11; have HD11 := hid_into h11; have e11 := (h11.s.cell 18).trans q3.out.over; clear hl10 hD10 h11 HD9 _q)
              | (go_at_call 29; refine (C37x.out _ _ HD11.out.rd).mono ?_; rintro e w12 ⟨rfl, hw12⟩; subst hw12)
              | (go_at_call 30; refine (isState_c _ _ q3.out _).mono ?_; rintro e w13 ⟨rfl, B13⟩; replace HD11 := hid_into (HD11.out.next B13); clear B13)
              | (refine wpList_load_rwG (by kernel_rfl) 35 (.tmp 5) rfl w3.heap.size (stV (s3D zs true Y)) 35 _ rfl ?_ Try.underlying35 rfl HN3 ?_; exact HD11.out.s)
              | (refine wpList_load_rw rfl 35 (.tmp 5) rfl w3.heap.size (stV (s3D zs true Y)) 35 _ rfl ?_ Try.underlying35 rfl HN3 ?_; exact HD11.out.s)
              | (refine wpList_build_row rfl 35 #[] rfl zeroS [] rfl HBz.out ?_)
              | (refine wpList_store_rw rfl 35 (.tmp 2) (.tmp 54) rfl w.heap.size zeroS (stV (s3D zs true Y)) 35 rfl rfl ?_ ZS HL3 HO3.out ?_; exact HD11.out.r; intro W14 hr14 O14))
            exact ret_row2 rfl rfl rfl hr14 Try.underlying35 rfl HN3 ⟨by rw [hdP]; rfl, HD11.out.below.trans (O14.below (by omega))⟩
          | false =>
            rw [hi, if_pos (by simp)] at hdP
            go_wp2_with (first
              | (go_at_call 26; refine C34x.out.mono ?_; rintro e w6 ⟨rfl, hl6⟩; obtain ⟨v6, hD6⟩ := HD.out.read hl6; have f6 := hD6.s.frozen 17; have e6 := (hD6.s.cell 17).trans q0.out.seed; have h7 := hD6.set (Only.set _ _ _ _) (hD6.s.set 17 (.int .u32 X)); rw [HA1.out] at h7; have HD7 := hid_into h7; clear hl6 hD6 h7 HD)
              | (go_at_call 27; have _q := HD7; refine (C35a.out _ _ HD7.out.rd).mono ?_; rintro e w8 ⟨rfl, hl8⟩; obtain ⟨v8, hD8⟩ := HD7.out.read hl8; have f8 := hD8.s.frozen 18; have e8 := (hD8.s.cell 18).trans q1.out.over; have h9 := hD8.set (Only.set _ _ _ _) (hD8.s.set 18 (.bool true)); rw [HA2.out] at h9; have HD9 := hid_into h9; clear hl8 hD8 h9 HD7 _q)
              | (go_at_call 28; refine (flag_any _ _).mono ?_; rintro e w9 ⟨rfl, hw9⟩; subst hw9; dsimp only [fl])
              | (go_at_call 27; have _q := HD9; refine (C35b.out _ _ HD9.out.rd).mono ?_; rintro e w10 ⟨rfl, hl10⟩; obtain ⟨v10, hD10⟩ := HD9.out.read hl10; have f10 := hD10.s.frozen 19; have e10 := (hD10.s.cell 19).trans q2.out.win; have h11 := hD10.set (Only.set _ _ _ _) (hD10.s.set 19 (.int .i64 Y)); rw [HA3.out] at h11; have HD11 := hid_into h11; have e11 := (h11.s.cell 18).trans q3.out.over; clear hl10 hD10 h11 HD9 _q)
              | (go_at_call 29; refine (C37x.out _ _ HD11.out.rd).mono ?_; rintro e w12 ⟨rfl, hw12⟩; subst hw12)
              | (go_at_call 30; refine (isState_c _ _ q3.out _).mono ?_; rintro e w13 ⟨rfl, B13⟩; replace HD11 := hid_into (HD11.out.next B13); clear B13)
              | (refine wpList_load_rwG (by kernel_rfl) 35 (.tmp 5) rfl w3.heap.size (stV (s3D zs true Y)) 35 _ rfl ?_ Try.underlying35 rfl HN3 ?_; exact HD11.out.s)
              | (refine wpList_load_rw rfl 35 (.tmp 5) rfl w3.heap.size (stV (s3D zs true Y)) 35 _ rfl ?_ Try.underlying35 rfl HN3 ?_; exact HD11.out.s)
              | (refine wpList_build_row rfl 35 #[] rfl zeroS [] rfl HBz.out ?_)
              | (refine wpList_store_rw rfl 35 (.tmp 2) (.tmp 53) rfl w.heap.size zeroS zeroS 35 rfl rfl ?_ ZS (hid_into rfl) HOz.out ?_; exact HD11.out.r; intro W14 hr14 O14))
            exact ret_row2 rfl rfl rfl hr14 Try.underlying35 rfl ZS ⟨by rw [hdP]; rfl, HD11.out.below.trans (O14.below (by omega))⟩
        · have he' : (er != 0) = true := by simp [he]
          rw [if_pos he] at hdP
          go_wp2_with (first
            | (go_at_call 26; refine C34x.out.mono ?_; rintro e w6 ⟨rfl, hl6⟩; obtain ⟨v6, hD6⟩ := HD.out.read hl6; have f6 := hD6.s.frozen 17; have e6 := (hD6.s.cell 17).trans q0.out.seed; have h7 := hD6.set (Only.set _ _ _ _) (hD6.s.set 17 (.int .u32 X)); rw [HA1.out] at h7; have HD7 := hid_into h7; clear hl6 hD6 h7 HD)
            | (go_at_call 27; have _q := HD7; refine (C35a.out _ _ HD7.out.rd).mono ?_; rintro e w8 ⟨rfl, hl8⟩; obtain ⟨v8, hD8⟩ := HD7.out.read hl8; have f8 := hD8.s.frozen 18; have e8 := (hD8.s.cell 18).trans q1.out.over; have h9 := hD8.set (Only.set _ _ _ _) (hD8.s.set 18 (.bool true)); rw [HA2.out] at h9; have HD9 := hid_into h9; clear hl8 hD8 h9 HD7 _q)
            | (go_at_call 28; refine (flag_any _ _).mono ?_; rintro e w9 ⟨rfl, hw9⟩; subst hw9; dsimp only [fl])
            | (go_at_call 27; have _q := HD9; refine (C35b.out _ _ HD9.out.rd).mono ?_; rintro e w10 ⟨rfl, hl10⟩; obtain ⟨v10, hD10⟩ := HD9.out.read hl10; have f10 := hD10.s.frozen 19; have e10 := (hD10.s.cell 19).trans q2.out.win; have h11 := hD10.set (Only.set _ _ _ _) (hD10.s.set 19 (.int .i64 Y)); rw [HA3.out] at h11; have HD11 := hid_into h11; have e11 := (h11.s.cell 18).trans q3.out.over; clear hl10 hD10 h11 HD9 _q)
            | (go_at_call 29; refine (C37x.out _ _ HD11.out.rd).mono ?_; rintro e w12 ⟨rfl, hw12⟩; subst hw12)
            | (go_at_call 30; refine (isState_c _ _ q3.out _).mono ?_; rintro e w13 ⟨rfl, B13⟩; replace HD11 := hid_into (HD11.out.next B13); clear B13)
            | (refine wpList_load_rwG (by kernel_rfl) 35 (.tmp 5) rfl w3.heap.size (stV (s3D zs true Y)) 35 _ rfl ?_ Try.underlying35 rfl HN3 ?_; exact HD11.out.s)
            | (refine wpList_load_rw rfl 35 (.tmp 5) rfl w3.heap.size (stV (s3D zs true Y)) 35 _ rfl ?_ Try.underlying35 rfl HN3 ?_; exact HD11.out.s)
            | (refine wpList_build_row rfl 35 #[] rfl zeroS [] rfl HBz.out ?_)
            | (refine wpList_store_rw rfl 35 (.tmp 2) (.tmp 41) rfl w.heap.size zeroS zeroS 35 rfl rfl ?_ ZS (hid_into rfl) HOz.out ?_; exact HD11.out.r; intro W14 hr14 O14))
          exact ret_row2 rfl rfl rfl hr14 Try.underlying35 rfl ZS ⟨by rw [hdP]; rfl, HD11.out.below.trans (O14.below (by omega))⟩
      · have hdf : decide (ob = 1) = false := by simp [hb1]
        rw [hdf] at hdP
        have hbb : (ob == 1) = false := by simp [hb1]
        have HA2 := HA2' false
        have HA3 := HA3' false Y
        have q2 := q2' false
        have q3 := q3' false Y
        have HN3 := HN3' false Y
        have HL3 := HL3' false Y
        have HO3 := HO3' false Y
        clear HA2' HA3' q2' q3' HN3' HL3' HO3'
        by_cases he : er = 0
        · subst he
          rw [if_neg (by simp)] at hdP
          by_cases hb0 : ob = 0
          · subst hb0
            cases hi : isS (s3D zs false Y) with
            | true =>
              rw [hi, if_neg (by simp)] at hdP
              go_wp2_with (first
                | (go_at_call 26; refine C34x.out.mono ?_; rintro e w6 ⟨rfl, hl6⟩; obtain ⟨v6, hD6⟩ := HD.out.read hl6; have f6 := hD6.s.frozen 17; have e6 := (hD6.s.cell 17).trans q0.out.seed; have h7 := hD6.set (Only.set _ _ _ _) (hD6.s.set 17 (.int .u32 X)); rw [HA1.out] at h7; have HD7 := hid_into h7; clear hl6 hD6 h7 HD)
                | (go_at_call 27; have _q := HD7; refine (C35a.out _ _ HD7.out.rd).mono ?_; rintro e w8 ⟨rfl, hl8⟩; obtain ⟨v8, hD8⟩ := HD7.out.read hl8; have f8 := hD8.s.frozen 18; have e8 := (hD8.s.cell 18).trans q1.out.over; have h9 := hD8.set (Only.set _ _ _ _) (hD8.s.set 18 (.bool false)); rw [HA2.out] at h9; have HD9 := hid_into h9; clear hl8 hD8 h9 HD7 _q)
                | (go_at_call 28; refine (flag_any _ _).mono ?_; rintro e w9 ⟨rfl, hw9⟩; subst hw9; dsimp only [fl])
                | (go_at_call 27; have _q := HD9; refine (C35b.out _ _ HD9.out.rd).mono ?_; rintro e w10 ⟨rfl, hl10⟩; obtain ⟨v10, hD10⟩ := HD9.out.read hl10; have f10 := hD10.s.frozen 19; have e10 := (hD10.s.cell 19).trans q2.out.win; have h11 := hD10.set (Only.set _ _ _ _) (hD10.s.set 19 (.int .i64 Y)); rw [HA3.out] at h11; have HD11 := hid_into h11; have e11 := (h11.s.cell 18).trans q3.out.over; clear hl10 hD10 h11 HD9 _q)
                | (go_at_call 29; refine (C37x.out _ _ HD11.out.rd).mono ?_; rintro e w12 ⟨rfl, hw12⟩; subst hw12)
                | (go_at_call 30; refine (isState_c _ _ q3.out _).mono ?_; rintro e w13 ⟨rfl, B13⟩; replace HD11 := hid_into (HD11.out.next B13); clear B13)
                | (refine wpList_load_rwG (by kernel_rfl) 35 (.tmp 5) rfl w3.heap.size (stV (s3D zs false Y)) 35 _ rfl ?_ Try.underlying35 rfl HN3 ?_; exact HD11.out.s)
                | (refine wpList_load_rw rfl 35 (.tmp 5) rfl w3.heap.size (stV (s3D zs false Y)) 35 _ rfl ?_ Try.underlying35 rfl HN3 ?_; exact HD11.out.s)
                | (refine wpList_build_row rfl 35 #[] rfl zeroS [] rfl HBz.out ?_)
                | (refine wpList_store_rw rfl 35 (.tmp 2) (.tmp 54) rfl w.heap.size zeroS (stV (s3D zs false Y)) 35 rfl rfl ?_ ZS HL3 HO3.out ?_; exact HD11.out.r; intro W14 hr14 O14))
              exact ret_row2 rfl rfl rfl hr14 Try.underlying35 rfl HN3 ⟨by rw [hdP]; rfl, HD11.out.below.trans (O14.below (by omega))⟩
            | false =>
              rw [hi, if_pos (by simp)] at hdP
              go_wp2_with (first
                | (go_at_call 26; refine C34x.out.mono ?_; rintro e w6 ⟨rfl, hl6⟩; obtain ⟨v6, hD6⟩ := HD.out.read hl6; have f6 := hD6.s.frozen 17; have e6 := (hD6.s.cell 17).trans q0.out.seed; have h7 := hD6.set (Only.set _ _ _ _) (hD6.s.set 17 (.int .u32 X)); rw [HA1.out] at h7; have HD7 := hid_into h7; clear hl6 hD6 h7 HD)
                | (go_at_call 27; have _q := HD7; refine (C35a.out _ _ HD7.out.rd).mono ?_; rintro e w8 ⟨rfl, hl8⟩; obtain ⟨v8, hD8⟩ := HD7.out.read hl8; have f8 := hD8.s.frozen 18; have e8 := (hD8.s.cell 18).trans q1.out.over; have h9 := hD8.set (Only.set _ _ _ _) (hD8.s.set 18 (.bool false)); rw [HA2.out] at h9; have HD9 := hid_into h9; clear hl8 hD8 h9 HD7 _q)
                | (go_at_call 28; refine (flag_any _ _).mono ?_; rintro e w9 ⟨rfl, hw9⟩; subst hw9; dsimp only [fl])
                | (go_at_call 27; have _q := HD9; refine (C35b.out _ _ HD9.out.rd).mono ?_; rintro e w10 ⟨rfl, hl10⟩; obtain ⟨v10, hD10⟩ := HD9.out.read hl10; have f10 := hD10.s.frozen 19; have e10 := (hD10.s.cell 19).trans q2.out.win; have h11 := hD10.set (Only.set _ _ _ _) (hD10.s.set 19 (.int .i64 Y)); rw [HA3.out] at h11; have HD11 := hid_into h11; have e11 := (h11.s.cell 18).trans q3.out.over; clear hl10 hD10 h11 HD9 _q)
                | (go_at_call 29; refine (C37x.out _ _ HD11.out.rd).mono ?_; rintro e w12 ⟨rfl, hw12⟩; subst hw12)
                | (go_at_call 30; refine (isState_c _ _ q3.out _).mono ?_; rintro e w13 ⟨rfl, B13⟩; replace HD11 := hid_into (HD11.out.next B13); clear B13)
                | (refine wpList_load_rwG (by kernel_rfl) 35 (.tmp 5) rfl w3.heap.size (stV (s3D zs false Y)) 35 _ rfl ?_ Try.underlying35 rfl HN3 ?_; exact HD11.out.s)
                | (refine wpList_load_rw rfl 35 (.tmp 5) rfl w3.heap.size (stV (s3D zs false Y)) 35 _ rfl ?_ Try.underlying35 rfl HN3 ?_; exact HD11.out.s)
                | (refine wpList_build_row rfl 35 #[] rfl zeroS [] rfl HBz.out ?_)
                | (refine wpList_store_rw rfl 35 (.tmp 2) (.tmp 53) rfl w.heap.size zeroS zeroS 35 rfl rfl ?_ ZS (hid_into rfl) HOz.out ?_; exact HD11.out.r; intro W14 hr14 O14))
              exact ret_row2 rfl rfl rfl hr14 Try.underlying35 rfl ZS ⟨by rw [hdP]; rfl, HD11.out.below.trans (O14.below (by omega))⟩
          · rw [if_pos (by left; omega)] at hdP
            have hbn : (ob != 0) = true := by simp [hb0]
            go_wp2_with (first
              | (go_at_call 26; refine C34x.out.mono ?_; rintro e w6 ⟨rfl, hl6⟩; obtain ⟨v6, hD6⟩ := HD.out.read hl6; have f6 := hD6.s.frozen 17; have e6 := (hD6.s.cell 17).trans q0.out.seed; have h7 := hD6.set (Only.set _ _ _ _) (hD6.s.set 17 (.int .u32 X)); rw [HA1.out] at h7; have HD7 := hid_into h7; clear hl6 hD6 h7 HD)
              | (go_at_call 27; have _q := HD7; refine (C35a.out _ _ HD7.out.rd).mono ?_; rintro e w8 ⟨rfl, hl8⟩; obtain ⟨v8, hD8⟩ := HD7.out.read hl8; have f8 := hD8.s.frozen 18; have e8 := (hD8.s.cell 18).trans q1.out.over; have h9 := hD8.set (Only.set _ _ _ _) (hD8.s.set 18 (.bool false)); rw [HA2.out] at h9; have HD9 := hid_into h9; clear hl8 hD8 h9 HD7 _q)
              | (go_at_call 28; refine (flag_any _ _).mono ?_; rintro e w9 ⟨rfl, hw9⟩; subst hw9; dsimp only [fl])
              | (go_at_call 27; have _q := HD9; refine (C35b.out _ _ HD9.out.rd).mono ?_; rintro e w10 ⟨rfl, hl10⟩; obtain ⟨v10, hD10⟩ := HD9.out.read hl10; have f10 := hD10.s.frozen 19; have e10 := (hD10.s.cell 19).trans q2.out.win; have h11 := hD10.set (Only.set _ _ _ _) (hD10.s.set 19 (.int .i64 Y)); rw [HA3.out] at h11; have HD11 := hid_into h11; have e11 := (h11.s.cell 18).trans q3.out.over; clear hl10 hD10 h11 HD9 _q)
              | (go_at_call 29; refine (C37x.out _ _ HD11.out.rd).mono ?_; rintro e w12 ⟨rfl, hw12⟩; subst hw12)
              | (refine wpList_load_rw rfl 35 (.tmp 5) rfl w3.heap.size (stV (s3D zs false Y)) 35 _ rfl ?_ Try.underlying35 rfl HN3 ?_; exact HD11.out.s)
              | (refine wpList_build_row rfl 35 #[] rfl zeroS [] rfl HBz.out ?_)
              | (refine wpList_store_rw rfl 35 (.tmp 2) (.tmp 53) rfl w.heap.size zeroS zeroS 35 rfl rfl ?_ ZS (hid_into rfl) HOz.out ?_; exact HD11.out.r; intro W14 hr14 O14))
            exact ret_row2 rfl rfl rfl hr14 Try.underlying35 rfl ZS ⟨by rw [hdP]; rfl, HD11.out.below.trans (O14.below (by omega))⟩
        · have he' : (er != 0) = true := by simp [he]
          rw [if_pos he] at hdP
          go_wp2_with (first
            | (go_at_call 26; refine C34x.out.mono ?_; rintro e w6 ⟨rfl, hl6⟩; obtain ⟨v6, hD6⟩ := HD.out.read hl6; have f6 := hD6.s.frozen 17; have e6 := (hD6.s.cell 17).trans q0.out.seed; have h7 := hD6.set (Only.set _ _ _ _) (hD6.s.set 17 (.int .u32 X)); rw [HA1.out] at h7; have HD7 := hid_into h7; clear hl6 hD6 h7 HD)
            | (go_at_call 27; have _q := HD7; refine (C35a.out _ _ HD7.out.rd).mono ?_; rintro e w8 ⟨rfl, hl8⟩; obtain ⟨v8, hD8⟩ := HD7.out.read hl8; have f8 := hD8.s.frozen 18; have e8 := (hD8.s.cell 18).trans q1.out.over; have h9 := hD8.set (Only.set _ _ _ _) (hD8.s.set 18 (.bool false)); rw [HA2.out] at h9; have HD9 := hid_into h9; clear hl8 hD8 h9 HD7 _q)
            | (go_at_call 28; refine (flag_any _ _).mono ?_; rintro e w9 ⟨rfl, hw9⟩; subst hw9; dsimp only [fl])
            | (go_at_call 27; have _q := HD9; refine (C35b.out _ _ HD9.out.rd).mono ?_; rintro e w10 ⟨rfl, hl10⟩; obtain ⟨v10, hD10⟩ := HD9.out.read hl10; have f10 := hD10.s.frozen 19; have e10 := (hD10.s.cell 19).trans q2.out.win; have h11 := hD10.set (Only.set _ _ _ _) (hD10.s.set 19 (.int .i64 Y)); rw [HA3.out] at h11; have HD11 := hid_into h11; have e11 := (h11.s.cell 18).trans q3.out.over; clear hl10 hD10 h11 HD9 _q)
            | (go_at_call 29; refine (C37x.out _ _ HD11.out.rd).mono ?_; rintro e w12 ⟨rfl, hw12⟩; subst hw12)
            | (go_at_call 30; refine (isState_c _ _ q3.out _).mono ?_; rintro e w13 ⟨rfl, B13⟩; replace HD11 := hid_into (HD11.out.next B13); clear B13)
            | (refine wpList_load_rwG (by kernel_rfl) 35 (.tmp 5) rfl w3.heap.size (stV (s3D zs false Y)) 35 _ rfl ?_ Try.underlying35 rfl HN3 ?_; exact HD11.out.s)
            | (refine wpList_load_rw rfl 35 (.tmp 5) rfl w3.heap.size (stV (s3D zs false Y)) 35 _ rfl ?_ Try.underlying35 rfl HN3 ?_; exact HD11.out.s)
            | (refine wpList_build_row rfl 35 #[] rfl zeroS [] rfl HBz.out ?_)
            | (refine wpList_store_rw rfl 35 (.tmp 2) (.tmp 41) rfl w.heap.size zeroS zeroS 35 rfl rfl ?_ ZS (hid_into rfl) HOz.out ?_; exact HD11.out.r; intro W14 hr14 O14))
          exact ret_row2 rfl rfl rfl hr14 Try.underlying35 rfl ZS ⟨by rw [hdP]; rfl, HD11.out.below.trans (O14.below (by omega))⟩
end Go.Proofs.Ytkchdkcdkeajkaa
