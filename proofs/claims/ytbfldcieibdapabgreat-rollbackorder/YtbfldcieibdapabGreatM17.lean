/-
  Joined from: DecW, EncW, EncB, RgIs, RgMem.
-/
import Derived.Test.YtbfldcieibdapabGreatM16
import Derived.Test.YtbfldcieibdapabGreatM08
import Derived.Test.YtbfldcieibdapabGreatM09
import Derived.Deep.CutBlock
import Derived.Deep.RegionHeld3
import Derived.Laws.MakeOwn
section
/-
  vm.Decode, by a contract.
-/
namespace Go.Proofs.YtbfldcieibdapabGreat.Oc
open Go.RowKit
theorem newReader_lt (sv : Value) (zs : List Int) (w : World) (hb : Bs w sv zs) (hz : zs.length ≤ 100000000000000) :
    Calls Tryz.prog 68 #[sv] w fun e w' => ∃ b v, e = .returned (.pointer (some ⟨b, 0, none⟩)) ∧ Rd w' b v zs 0 ∧ Below w.heap.size w w' ∧ w.heap.size ≤ b ∧ ∀ k, v.ownBlock = some k → w.heap.size ≤ k ∧ k < w'.heap.size := by
  go_enter Tryz.func68, Tryz.ntmps68
  go_wp2_with fail
  refine (clone_any sv zs _ hb hz).mono ?_
  rintro e w1 ⟨ao, cap, rfl, hown, B1⟩
  have R : Rd (w1.alloc (.cells #[.slice ao zs.length cap, .int .i64 0] 148)) w1.heap.size (.slice ao zs.length cap) zs 0 :=
    ⟨heap_alloc_new w1 _, hown.bs.below ((Below.refl _ _).alloc (Nat.le_refl _) _) (Nat.le_refl _), fun e => by have := World.ownsRow.lt hown _ e; omega⟩
  have hk : ∀ k, (Value.slice ao zs.length cap).ownBlock = some k → w.heap.size ≤ k ∧ k < (w1.alloc (.cells #[.slice ao zs.length cap, .int .i64 0] 148)).heap.size := fun k e => by have := World.ownsRow.lt hown k e; refine ⟨this.1, ?_⟩; simp; omega
  have hs := B1.size
  clear hown
  go_wp2
  go_ret
  exact ⟨_, _, rfl, R, B1.alloc hs _, hs, hk⟩

end Go.Proofs.YtbfldcieibdapabGreat.Oc
namespace Go.Proofs.YtbfldcieibdapabGreat
open Go.RowKit Oc
def fl : Bool → Int
  | true => 1
  | false => 0
theorem flag_any (q : Bool) (w : World) : Calls Tryz.prog 72 #[.bool q] w fun e w' => e = .returned (.int .u8 (fl q)) ∧ w' = w := by
  cases q with
  | true =>
    go_enter Tryz.func72, Tryz.ntmps72
    go_wp2
    go_ret
    exact ⟨rfl, rfl⟩
  | false =>
    go_enter Tryz.func72, Tryz.ntmps72
    go_wp2
    go_ret
    exact ⟨rfl, rfl⟩
/-- The variables of Decode: the answer, the Reader, the state. -/
structure Dv (w W : World) (b c : Nat) (v : Value) (zs : List Int) (e : Int) (cs : List Value) : Prop where
  r : Cw W w.heap.size zeroS 44
  rd : Rd W b v zs e
  s : Cw W c cs 44
  hb : w.heap.size < b
  hc : b < c
  own : ∀ k, v.ownBlock = some k → w.heap.size < k ∧ k < c
  below : Below w.heap.size w W
section
variable {w W W' : World} {b c : Nat} {v : Value} {zs zs' : List Int} {e e' : Int} {cs ds : List Value}
theorem Dv.read (h : Dv w W b c v zs e cs) (hl : Rleft W b v W' zs' e') : ∃ v', Dv w W' b c v' zs' e' cs := by
  obtain ⟨v', h1, h2, h3⟩ := hl
  have hb := h.hb
  have hc := h.hc
  refine ⟨v', h.r.keep (h2.block _ h.r.lt (by omega)), h1, h.s.keep (h2.block _ h.s.lt (by omega)), hb, hc, fun k hk => ?_, ?_⟩
  · rcases h3 with h3 | h3
    · exact h.own k (h3 ▸ hk)
    · rw [h3] at hk; cases hk
  · exact h.below.trans ⟨h2.os, h2.tape, h2.output, h2.size, fun k hk => h2.block k (Nat.lt_of_lt_of_le hk h.below.size) (by omega)⟩
theorem Dv.set (h : Dv w W b c v zs e cs) (O : Only c W W') (hs : Cw W' c ds 44) : Dv w W' b c v zs e ds := by
  have hb := h.hb
  have hc := h.hc
  refine ⟨O.cw h.r (by omega), h.rd.keep (O.block b (by omega)) (fun k hk _ => O.block k (by have := h.own k hk; omega)), hs, hb, hc, h.own, h.below.trans (O.below (by omega))⟩
theorem Dv.lt (h : Dv w W b c v zs e cs) : ∀ k, v.ownBlock = some k → k < W.heap.size := fun k hk => Nat.lt_trans (h.own k hk).2 h.s.lt
theorem Dv.next (h : Dv w W b c v zs e cs) (hB : Below W.heap.size W W') : Dv w W' b c v zs e cs := ⟨h.r.below hB h.r.lt, h.rd.below hB (Nat.le_refl _), h.s.below hB h.s.lt, h.hb, h.hc, h.own, h.below.trans (hB.mono h.below.size)⟩
end
theorem Dv.make {w W1 w2 w3 W4 W5 : World} {b : Nat} {v2 : Value} {zs' : List Int} {e' : Int} {cs : List Value} (hr2 : Cw w2 w.heap.size zeroS 44) (hb2 : W1.heap.size ≤ b) (hv2 : ∀ k, v2.ownBlock = some k → W1.heap.size ≤ k ∧ k < w2.heap.size) (hl1 : w.heap.size < W1.heap.size) (HB2 : Below w.heap.size w w2) (hl3 : Rleft w2 b v2 w3 zs' e') (B4 : Below w3.heap.size w3 W4) (hs5 : Cw W5 w3.heap.size cs 44) (O5 : Only w3.heap.size W4 W5) : ∃ v, Dv w W5 b w3.heap.size v zs' e' cs := by
  obtain ⟨v', h1, h2, h3⟩ := hl3
  have hbl := h1.lt
  have hs2 := h2.size
  have hr2l := hr2.lt
  have hr3 : Cw w3 w.heap.size zeroS 44 := hr2.keep (h2.block _ hr2l (by omega))
  have ho : ∀ k, v'.ownBlock = some k → w.heap.size < k ∧ k < w3.heap.size := fun k hk => by
    rcases h3 with h3 | h3
    · have := hv2 k (h3 ▸ hk); omega
    · rw [h3] at hk; cases hk
  have b3 : Below w.heap.size w w3 := HB2.trans ⟨h2.os, h2.tape, h2.output, h2.size, fun k hk => h2.block k (by omega) (by omega)⟩
  refine ⟨v', O5.cw (hr3.below B4 (by omega)) (by omega), ?_, hs5, by omega, hbl, ho, (b3.trans (B4.mono b3.size)).trans (O5.below b3.size)⟩
  exact (h1.below B4 (Nat.le_refl _)).keep (O5.block b (by omega)) (fun k hk _ => O5.block k (by have := ho k hk; omega))
theorem setCell_st {s : Sp} (h : s.cells.length = 16) (k : Nat) (hk : k < 16) (x : Int) : (stV s).set (1 + k) (.int .i32 x) = stV { s with cells := s.cells.set k x } := by
  unfold stV
  rw [Nat.add_comm 1 k, List.set_cons_succ, List.set_append_left _ _ (by rw [List.length_map, h]; exact hk), List.map_set]
theorem setS_seed {s : Sp} (h : s.Wf) (v : Int) : (stV s).set 17 (.int .u32 v) = stV { s with seed := v } := setS_last h 0 _
theorem built28f (fr : Int) : Tryz.prog.built 44 [(0, .int .i64 fr)] = some (stV ⟨fr, zeros, 0, false, 0⟩).toArray := by kernel_rfl
/-- The state, field by field. -/
def s0D (zs : List Int) : Sp := ⟨(dA zs).1, (dB zs).1, 0, false, 0⟩
def s1D (zs : List Int) : Sp := ⟨(dA zs).1, (dB zs).1, fourV (dC zs).1, false, 0⟩
def s2D (zs : List Int) (o : Bool) : Sp := ⟨(dA zs).1, (dB zs).1, fourV (dC zs).1, o, 0⟩
def s3D (zs : List Int) (o : Bool) (x : Int) : Sp := ⟨(dA zs).1, (dB zs).1, fourV (dC zs).1, o, x⟩
/-- The state behind k numbers of four bytes. -/
def sK (zs : List Int) (k : Nat) : Sp := ⟨(dA zs).1, cellsK zs k, 0, false, 0⟩
set_option maxRecDepth 20000 in
set_option maxHeartbeats 4000000 in
theorem Decode_any (sv : Value) (zs : List Int) (w : World) (hb : Bs w sv zs) (hz : Byt zs) (hlen : zs.length ≤ 100000) :
    Calls Tryz.prog 54 #[sv] w fun e w' => e = .returned (.tuple #[.agg (stV (decP zs).1).toArray, .int .i64 (decP zs).2]) ∧ Below w.heap.size w w' := by
  obtain ⟨ao, cp, rfl, hm⟩ := hb.len
  obtain ⟨P, hP⟩ : ∃ P, P = decP zs := ⟨_, rfl⟩
  rw [← hP]
  have HPd := hid_into hP
  clear hP
  have C32 : Hid (∀ W, Below w.heap.size w W → Calls Tryz.prog 68 #[.slice ao zs.length cp] W fun e w' => ∃ b v, e = .returned (.pointer (some ⟨b, 0, none⟩)) ∧ Rd w' b v zs 0 ∧ Below W.heap.size W w' ∧ W.heap.size ≤ b ∧ ∀ k, v.ownBlock = some k → W.heap.size ≤ k ∧ k < w'.heap.size) := fun W hW => newReader_lt _ zs W (hb.below hW (Nat.le_refl _)) (by omega)
  have C33 : Hid (∀ b v W, Rd W b v zs 0 → Calls Tryz.prog 69 #[.pointer (some ⟨b, 0, none⟩)] W fun r w' => r = .returned (.int .i64 (dA zs).1) ∧ Rleft W b v w' (dA zs).2.1 (dA zs).2.2) := fun b v W h => rnum_any b v zs W h hz
  have HZ : Hid ((Tryz.prog.info? 44).bind (·.zero) = some (.agg zeroS.toArray)) := Tryz.zero44
  have ZS := zeroS_size
  have HBz : Hid (Tryz.prog.built 44 [] = some zeroS.toArray) := built28z
  have HOz : Hid (∀ v ∈ zeroS, v.oneCell' = true) := hid_into (by decide)
  have HBy := hid_into hz
  have HB0 := hid_into (built28f (dA zs).1)
  have hk0 : (⟨(dA zs).1, zeros, 0, false, 0⟩ : Sp) = sK zs 0 := rfl
  rw [hk0] at HB0
  have HL0 : Hid (zeroS.length = (stV (sK zs 0)).length) := rfl
  have HO0 : Hid (∀ v ∈ stV (sK zs 0), v.oneCell' = true) := hid_into (by intro v hv; simp only [stV, sK, cellsK_zero, zeros, List.map_cons, List.map_nil, List.cons_append, List.nil_append, List.mem_cons, List.not_mem_nil, or_false] at hv; rcases hv with rfl | rfl | rfl | rfl | rfl | rfl | rfl | rfl | rfl | rfl | rfl | rfl | rfl | rfl | rfl | rfl | rfl | rfl | rfl | rfl <;> rfl)
  obtain ⟨c0, hc0⟩ : ∃ c0, c0 = stV (sK zs 0) := ⟨_, rfl⟩
  rw [← hc0] at HB0 HL0 HO0
  have HC0 := hid_into hc0
  clear hc0 hk0 hb hm
  go_enter Tryz.func54, Tryz.ntmps54
  have tok1 : True := trivial
  go_upto_block 0 with (go_big_may; first
    | (have _t := tok1; refine wpList_alloc_row rfl 44 rfl zeroS HZ.out ?_; intro W1 hr1 B1 _; clear tok1)
    | (go_at_call 68; refine (C32.out _ B1).mono ?_; rintro e w2 ⟨b, v2, rfl, hrd, B2, hb2, hv2⟩; have hr2 := hr1.below B2 hr1.lt; have hl1 : Hid (w.heap.size < W1.heap.size) := hr1.lt; have HB2 := hid_into (B1.trans (B2.mono B1.size)); clear C32 hr1 B1 B2)
    | (go_at_call 69; refine (C33.out b v2 _ hrd).mono ?_; rintro e w3 ⟨rfl, hl3⟩)
    | (refine wpList_build_row rfl 44 #[(0, .tmp 12)] rfl c0 _ rfl ?_ ?_; exact HB0.out)
    | (refine wpList_alloc_row rfl 44 rfl zeroS HZ.out ?_; intro W4 hs4 B4 _)
    | (refine wpList_store_rw rfl 44 (.tmp 5) (.tmp 13) rfl w3.heap.size zeroS c0 44 rfl rfl ?_ ZS HL0 HO0.out ?_; exact hs4; intro W5 hs5 O5))
  obtain ⟨v5, hD5⟩ := Dv.make hr2 hb2 hv2 hl1.out HB2.out hl3 B4 hs5 O5
  have HD5 := hid_into hD5
  clear hD5 hr2 hb2 hv2 hl1 HB2 hl3 B4 hs5 O5 hs4 hrd C33
  have HW4 : Hid (∀ k, k ≤ 16 → (sK zs k).Wf) := fun k hk => ⟨cellsK_len zs hk, fun x hx => by
      rcases List.mem_append.1 hx with h | h
      · exact fk_in _ _ k x h
      · rw [(List.mem_replicate.1 h).2]; exact zero_in, by show (0 : Int) ≤ 0 ∧ (0 : Int) < 4294967296; omega⟩
  have C34 : Hid (∀ W b v ys e, Rd W b v ys e → Byt ys → (∀ k, v.ownBlock = some k → k < W.heap.size) → Calls Tryz.prog 70 #[.pointer (some ⟨b, 0, none⟩)] W fun r w' => r = .returned (.int .u32 (fourV (rowR z4 ys e).1)) ∧ Rleft W b v w' (rowR z4 ys e).2.1 (rowR z4 ys e).2.2) := fun W b v ys e h1 h2 h3 => rfour_any b v ys e W h1 h2 h3
  go_wp2_with fail
  go_loopw [14] (fun i wr => ∃ (k : Nat) (v : Value), k ≤ 16 ∧ i = .int .i64 (k : Int) ∧ Hid (Dv w wr b w3.heap.size v (fk k (dA zs).2.1 (dA zs).2.2).2.1 (fk k (dA zs).2.1 (dA zs).2.2).2.2 (stV (sK zs k)))) (fun i _ => 16 - (intOf i).toNat)
  case atStart => exact ⟨0, v5, Nat.zero_le _, rfl, by rw [HC0.out] at HD5; exact HD5.out⟩
  case round =>
    clear HD5 HC0 HB0 HL0 HO0
    obtain ⟨k, v, hk, rfl, HD⟩ := hrel
    by_cases hlt : k < 16
    · have hlt' : (k : Int) < 16 := by omega
      have hby := fk_byt (dA zs).2.2 (dA_byt HBy.out) k
      have C := hid_into (C34.out wr b v _ _ HD.out.rd hby HD.out.lt)
      have HSt := hid_into (cellsK_step zs hlt)
      have HSt2 : Hid ((stV (sK zs k)).set (1 + k) (.int .i32 (sgnI (fourV (rowR z4 (fk k (dA zs).2.1 (dA zs).2.2).2.1 (fk k (dA zs).2.1 (dA zs).2.2).2.2).1))) = stV (sK zs (k + 1))) := by
        rw [setCell_st (HW4.out k hk).cells k hlt]
        refine hid_into ?_
        unfold sK
        rw [HSt.out]
      have hfk : fk (k + 1) (dA zs).2.1 (dA zs).2.2 = ((fk k (dA zs).2.1 (dA zs).2.2).1 ++ [sgnI (fourV (rowR z4 (fk k (dA zs).2.1 (dA zs).2.2).2.1 (fk k (dA zs).2.1 (dA zs).2.2).2.2).1)], (rowR z4 (fk k (dA zs).2.1 (dA zs).2.2).2.1 (fk k (dA zs).2.1 (dA zs).2.2).2.2).2.1, (rowR z4 (fk k (dA zs).2.1 (dA zs).2.2).2.1 (fk k (dA zs).2.1 (dA zs).2.2).2.2).2.2) := rfl
      have HFk := hid_into hfk
      have HCk := hid_into (stV_c (HW4.out k hk))
      have HIn := hid_into (sgnI_in (fourV (rowR z4 (fk k (dA zs).2.1 (dA zs).2.2).2.1 (fk k (dA zs).2.1 (dA zs).2.2).2.2).1))
      clear hfk hby HSt
      generalize hX : fourV (rowR z4 (fk k (dA zs).2.1 (dA zs).2.2).2.1 (fk k (dA zs).2.1 (dA zs).2.2).2.2).1 = X at C HSt2 HIn
      have hsg : IntKind.i32.wrap X = sgnI X := rfl
      clear hX
      go_wp2_with (first
        | (go_at_call 70; refine C.out.mono ?_; rintro e w6 ⟨rfl, hl6⟩; obtain ⟨v6, hD6⟩ := HD.out.read hl6; have HD6 := hid_into hD6; have f6 := hD6.s.frozen (1 + k); have e6 := (hD6.s.cell (1 + k)).trans (HCk.out.cell k hlt); clear hl6 hD6))
      refine ⟨⟨k + 1, v6, by omega, by go_num, ?_⟩, by simp [intOf]; omega⟩
      have h7 := HD6.out.set (Only.set _ _ _ _) (HD6.out.s.set (1 + k) (.int .i32 (sgnI X)))
      rw [HSt2.out] at h7
      rw [HFk.out]
      exact h7
    · obtain rfl : k = 16 := by omega
      have e16 : fk 16 (dA zs).2.1 (dA zs).2.2 = dB zs := rfl
      rw [e16] at HD
      have C34x := hid_into (C34.out wr b v _ _ HD.out.rd (dB_byt HBy.out) HD.out.lt)
      have C35 : Hid (∀ W b v ys e, Rd W b v ys e → Calls Tryz.prog 71 #[.pointer (some ⟨b, 0, none⟩)] W fun r w' => r = .returned (.int .u8 ((rowR [0] ys e).1.getD 0 0)) ∧ Rleft W b v w' (rowR [0] ys e).2.1 (rowR [0] ys e).2.2) := fun W b v ys e h1 => rbyte_u b v ys e W h1
      have C37 : Hid (∀ W b v ys e, Rd W b v ys e → Calls Tryz.prog 73 #[.pointer (some ⟨b, 0, none⟩)] W fun r w' => r = .returned (.int .i64 (endR ys e)) ∧ W = w') := fun W b v ys e h1 => end_any b v ys e W h1
      have e0 : stV (sK zs 16) = stV (s0D zs) := by unfold sK s0D; rw [cellsK_end]
      rw [e0] at HD
      have w0 : (s0D zs).Wf := ⟨fk_len _ _ 16, fk_in _ _ 16, by show (0 : Int) ≤ 0 ∧ (0 : Int) < 4294967296; omega⟩
      have w1 : (s1D zs).Wf := ⟨fk_len _ _ 16, fk_in _ _ 16, dC_in HBy.out⟩
      have w2 : ∀ o, (s2D zs o).Wf := fun o => ⟨fk_len _ _ 16, fk_in _ _ 16, dC_in HBy.out⟩
      have w3' : ∀ o x, (s3D zs o x).Wf := fun o x => ⟨fk_len _ _ 16, fk_in _ _ 16, dC_in HBy.out⟩
      have HA1 : Hid ((stV (s0D zs)).set 17 (.int .u32 (fourV (dC zs).1)) = stV (s1D zs)) := setS_seed w0 _
      have HA2' : ∀ o, Hid ((stV (s1D zs)).set 18 (.bool o) = stV (s2D zs o)) := fun o => setS_over w1 o
      have HA3' : ∀ o x, Hid ((stV (s2D zs o)).set 19 (.int .i64 x) = stV (s3D zs o x)) := fun o x => setS_win (w2 o) x
      have q0 := hid_into (stV_c w0)
      have q1 := hid_into (stV_c w1)
      have q2' := fun o => hid_into (stV_c (w2 o))
      have q3' := fun o x => hid_into (stV_c (w3' o x))
      have C35a : Hid (∀ W v, Rd W b v (dC zs).2.1 (dC zs).2.2 → Calls Tryz.prog 71 #[.pointer (some ⟨b, 0, none⟩)] W fun r w' => r = .returned (.int .u8 (dOv zs)) ∧ Rleft W b v w' (dD zs).2.1 (dD zs).2.2) := fun W v h => C35.out W b v _ _ h
      have C35b : Hid (∀ W v, Rd W b v (dD zs).2.1 (dD zs).2.2 → Calls Tryz.prog 71 #[.pointer (some ⟨b, 0, none⟩)] W fun r w' => r = .returned (.int .u8 ((dG zs).1.getD 0 0)) ∧ Rleft W b v w' (dG zs).2.1 (dG zs).2.2) := fun W v h => C35.out W b v _ _ h
      have C37x : Hid (∀ W v, Rd W b v (dG zs).2.1 (dG zs).2.2 → Calls Tryz.prog 73 #[.pointer (some ⟨b, 0, none⟩)] W fun r w' => r = .returned (.int .i64 (dE zs)) ∧ W = w') := fun W v h => C37.out W b v _ _ h
      have C34y : Hid (Calls Tryz.prog 70 #[.pointer (some ⟨b, 0, none⟩)] wr fun r w' => r = .returned (.int .u32 (fourV (dC zs).1)) ∧ Rleft wr b v w' (dC zs).2.1 (dC zs).2.2) := C34x
      have hY := getD_byt (dG_byt HBy.out).1
      have hOb := getD_byt (dD_byt HBy.out).1
      have hdS : dS zs = s3D zs (decide (dOv zs = 1)) ((dG zs).1.getD 0 0) := rfl
      have hdP : P = if dE zs ≠ 0 then (noS, dE zs) else if 1 < dOv zs ∨ isS (dS zs) = false then (noS, 3) else (dS zs, 0) := HPd.out
      rw [hdS] at hdP
      have HN3' := fun o x => st_size (w3' o x)
      have HL3' := fun o x => st_len (w3' o x)
      have HO3' := fun o x => st_one (w3' o x)
      clear C34x C35 C37 C34 e0 e16 hdS w0 w1 w2 w3' HW4 hk hlt HBy
      have C34x := C34y
      clear C34y
      have hO0 : 0 ≤ dOv zs := hOb.1
      have hO1 : dOv zs < 256 := hOb.2
      clear hOb
      generalize hXe : fourV (dC zs).1 = X at C34x HA1
      clear hXe
      generalize (dG zs).1.getD 0 0 = Y at C35b hdP hY
      generalize dE zs = er at C37x hdP
      generalize dOv zs = ob at C35a hdP hO0 hO1
      by_cases hb1 : ob = 1
      · subst hb1
        have hdt : decide ((1 : Int) = 1) = true := rfl
        rw [hdt] at hdP
        have HA2 := HA2' true
        have HA3 := HA3' true Y
        have q2 := q2' true
        have q3 := q3' true Y
        have HN3 := HN3' true Y
        have HL3 := HL3' true Y
        have HO3 := HO3' true Y
        clear HA2' HA3' q2' q3' HN3' HL3' HO3'
        by_cases he : er = 0
        · subst he
          rw [if_neg (by simp)] at hdP
          cases hi : isS (s3D zs true Y) with
          | true =>
            rw [hi, if_neg (by simp)] at hdP
            go_wp2_with (first
              | (go_at_call 70; refine C34x.out.mono ?_; rintro e w6 ⟨rfl, hl6⟩; obtain ⟨v6, hD6⟩ := HD.out.read hl6; have f6 := hD6.s.frozen 17; have e6 := (hD6.s.cell 17).trans q0.out.seed; have h7 := hD6.set (Only.set _ _ _ _) (hD6.s.set 17 (.int .u32 X)); rw [HA1.out] at h7; have HD7 := hid_into h7; clear hl6 hD6 h7 HD)
              | (go_at_call 71; have _q := HD7; refine (C35a.out _ _ HD7.out.rd).mono ?_; rintro e w8 ⟨rfl, hl8⟩; obtain ⟨v8, hD8⟩ := HD7.out.read hl8; have f8 := hD8.s.frozen 18; have e8 := (hD8.s.cell 18).trans q1.out.over; have h9 := hD8.set (Only.set _ _ _ _) (hD8.s.set 18 (.bool true)); rw [HA2.out] at h9; have HD9 := hid_into h9; clear hl8 hD8 h9 HD7 _q)
              | (go_at_call 72; refine (flag_any _ _).mono ?_; rintro e w9 ⟨rfl, hw9⟩; subst hw9; dsimp only [fl])
              | (go_at_call 71; have _q := HD9; refine (C35b.out _ _ HD9.out.rd).mono ?_; rintro e w10 ⟨rfl, hl10⟩; obtain ⟨v10, hD10⟩ := HD9.out.read hl10; have f10 := hD10.s.frozen 19; have e10 := (hD10.s.cell 19).trans q2.out.win; have h11 := hD10.set (Only.set _ _ _ _) (hD10.s.set 19 (.int .i64 Y)); rw [HA3.out] at h11; have HD11 := hid_into h11; have e11 := (h11.s.cell 18).trans q3.out.over; clear hl10 hD10 h11 HD9 _q)
              | (go_at_call 73; refine (C37x.out _ _ HD11.out.rd).mono ?_; rintro e w12 ⟨rfl, hw12⟩; subst hw12)
              | (go_at_call 74; refine (isState_c _ _ q3.out _).mono ?_; rintro e w13 ⟨rfl, B13⟩; replace HD11 := hid_into (HD11.out.next B13); clear B13)
              | (refine wpList_load_rwG (by kernel_rfl) 44 (.tmp 5) rfl w3.heap.size (stV (s3D zs true Y)) 44 _ rfl ?_ Tryz.underlying44 rfl HN3 ?_; exact HD11.out.s)
              | (refine wpList_load_rw rfl 44 (.tmp 5) rfl w3.heap.size (stV (s3D zs true Y)) 44 _ rfl ?_ Tryz.underlying44 rfl HN3 ?_; exact HD11.out.s)
              | (refine wpList_build_row rfl 44 #[] rfl zeroS [] rfl HBz.out ?_)
              | (refine wpList_store_rw rfl 44 (.tmp 2) (.tmp 54) rfl w.heap.size zeroS (stV (s3D zs true Y)) 44 rfl rfl ?_ ZS HL3 HO3.out ?_; exact HD11.out.r; intro W14 hr14 O14))
            exact ret_row2 rfl rfl rfl hr14 Tryz.underlying44 rfl HN3 ⟨by rw [hdP]; rfl, HD11.out.below.trans (O14.below (by omega))⟩
          | false =>
            rw [hi, if_pos (by simp)] at hdP
            go_wp2_with (first
              | (go_at_call 70; refine C34x.out.mono ?_; rintro e w6 ⟨rfl, hl6⟩; obtain ⟨v6, hD6⟩ := HD.out.read hl6; have f6 := hD6.s.frozen 17; have e6 := (hD6.s.cell 17).trans q0.out.seed; have h7 := hD6.set (Only.set _ _ _ _) (hD6.s.set 17 (.int .u32 X)); rw [HA1.out] at h7; have HD7 := hid_into h7; clear hl6 hD6 h7 HD)
              | (go_at_call 71; have _q := HD7; refine (C35a.out _ _ HD7.out.rd).mono ?_; rintro e w8 ⟨rfl, hl8⟩; obtain ⟨v8, hD8⟩ := HD7.out.read hl8; have f8 := hD8.s.frozen 18; have e8 := (hD8.s.cell 18).trans q1.out.over; have h9 := hD8.set (Only.set _ _ _ _) (hD8.s.set 18 (.bool true)); rw [HA2.out] at h9; have HD9 := hid_into h9; clear hl8 hD8 h9 HD7 _q)
              | (go_at_call 72; refine (flag_any _ _).mono ?_; rintro e w9 ⟨rfl, hw9⟩; subst hw9; dsimp only [fl])
              | (go_at_call 71; have _q := HD9; refine (C35b.out _ _ HD9.out.rd).mono ?_; rintro e w10 ⟨rfl, hl10⟩; obtain ⟨v10, hD10⟩ := HD9.out.read hl10; have f10 := hD10.s.frozen 19; have e10 := (hD10.s.cell 19).trans q2.out.win; have h11 := hD10.set (Only.set _ _ _ _) (hD10.s.set 19 (.int .i64 Y)); rw [HA3.out] at h11; have HD11 := hid_into h11; have e11 := (h11.s.cell 18).trans q3.out.over; clear hl10 hD10 h11 HD9 _q)
              | (go_at_call 73; refine (C37x.out _ _ HD11.out.rd).mono ?_; rintro e w12 ⟨rfl, hw12⟩; subst hw12)
              | (go_at_call 74; refine (isState_c _ _ q3.out _).mono ?_; rintro e w13 ⟨rfl, B13⟩; replace HD11 := hid_into (HD11.out.next B13); clear B13)
              | (refine wpList_load_rwG (by kernel_rfl) 44 (.tmp 5) rfl w3.heap.size (stV (s3D zs true Y)) 44 _ rfl ?_ Tryz.underlying44 rfl HN3 ?_; exact HD11.out.s)
              | (refine wpList_load_rw rfl 44 (.tmp 5) rfl w3.heap.size (stV (s3D zs true Y)) 44 _ rfl ?_ Tryz.underlying44 rfl HN3 ?_; exact HD11.out.s)
              | (refine wpList_build_row rfl 44 #[] rfl zeroS [] rfl HBz.out ?_)
              | (refine wpList_store_rw rfl 44 (.tmp 2) (.tmp 53) rfl w.heap.size zeroS zeroS 44 rfl rfl ?_ ZS (hid_into rfl) HOz.out ?_; exact HD11.out.r; intro W14 hr14 O14))
            exact ret_row2 rfl rfl rfl hr14 Tryz.underlying44 rfl ZS ⟨by rw [hdP]; rfl, HD11.out.below.trans (O14.below (by omega))⟩
        · have he' : (er != 0) = true := by simp [he]
          rw [if_pos he] at hdP
          go_wp2_with (first
            | (go_at_call 70; refine C34x.out.mono ?_; rintro e w6 ⟨rfl, hl6⟩; obtain ⟨v6, hD6⟩ := HD.out.read hl6; have f6 := hD6.s.frozen 17; have e6 := (hD6.s.cell 17).trans q0.out.seed; have h7 := hD6.set (Only.set _ _ _ _) (hD6.s.set 17 (.int .u32 X)); rw [HA1.out] at h7; have HD7 := hid_into h7; clear hl6 hD6 h7 HD)
            | (go_at_call 71; have _q := HD7; refine (C35a.out _ _ HD7.out.rd).mono ?_; rintro e w8 ⟨rfl, hl8⟩; obtain ⟨v8, hD8⟩ := HD7.out.read hl8; have f8 := hD8.s.frozen 18; have e8 := (hD8.s.cell 18).trans q1.out.over; have h9 := hD8.set (Only.set _ _ _ _) (hD8.s.set 18 (.bool true)); rw [HA2.out] at h9; have HD9 := hid_into h9; clear hl8 hD8 h9 HD7 _q)
            | (go_at_call 72; refine (flag_any _ _).mono ?_; rintro e w9 ⟨rfl, hw9⟩; subst hw9; dsimp only [fl])
            | (go_at_call 71; have _q := HD9; refine (C35b.out _ _ HD9.out.rd).mono ?_; rintro e w10 ⟨rfl, hl10⟩; obtain ⟨v10, hD10⟩ := HD9.out.read hl10; have f10 := hD10.s.frozen 19; have e10 := (hD10.s.cell 19).trans q2.out.win; have h11 := hD10.set (Only.set _ _ _ _) (hD10.s.set 19 (.int .i64 Y)); rw [HA3.out] at h11; have HD11 := hid_into h11; have e11 := (h11.s.cell 18).trans q3.out.over; clear hl10 hD10 h11 HD9 _q)
            | (go_at_call 73; refine (C37x.out _ _ HD11.out.rd).mono ?_; rintro e w12 ⟨rfl, hw12⟩; subst hw12)
            | (go_at_call 74; refine (isState_c _ _ q3.out _).mono ?_; rintro e w13 ⟨rfl, B13⟩; replace HD11 := hid_into (HD11.out.next B13); clear B13)
            | (refine wpList_load_rwG (by kernel_rfl) 44 (.tmp 5) rfl w3.heap.size (stV (s3D zs true Y)) 44 _ rfl ?_ Tryz.underlying44 rfl HN3 ?_; exact HD11.out.s)
            | (refine wpList_load_rw rfl 44 (.tmp 5) rfl w3.heap.size (stV (s3D zs true Y)) 44 _ rfl ?_ Tryz.underlying44 rfl HN3 ?_; exact HD11.out.s)
            | (refine wpList_build_row rfl 44 #[] rfl zeroS [] rfl HBz.out ?_)
            | (refine wpList_store_rw rfl 44 (.tmp 2) (.tmp 41) rfl w.heap.size zeroS zeroS 44 rfl rfl ?_ ZS (hid_into rfl) HOz.out ?_; exact HD11.out.r; intro W14 hr14 O14))
          exact ret_row2 rfl rfl rfl hr14 Tryz.underlying44 rfl ZS ⟨by rw [hdP]; rfl, HD11.out.below.trans (O14.below (by omega))⟩
      · have hdf : decide (ob = 1) = false := by simp [hb1]
        rw [hdf] at hdP
        have hbb : (ob == 1) = false := by simp [hb1]
        have HA2 := HA2' false
        have HA3 := HA3' false Y
        have q2 := q2' false
        have q3 := q3' false Y
        have HN3 := HN3' false Y
        have HL3 := HL3' false Y
        have HO3 := HO3' false Y
        clear HA2' HA3' q2' q3' HN3' HL3' HO3'
        by_cases he : er = 0
        · subst he
          rw [if_neg (by simp)] at hdP
          by_cases hb0 : ob = 0
          · subst hb0
            cases hi : isS (s3D zs false Y) with
            | true =>
              rw [hi, if_neg (by simp)] at hdP
              go_wp2_with (first
                | (go_at_call 70; refine C34x.out.mono ?_; rintro e w6 ⟨rfl, hl6⟩; obtain ⟨v6, hD6⟩ := HD.out.read hl6; have f6 := hD6.s.frozen 17; have e6 := (hD6.s.cell 17).trans q0.out.seed; have h7 := hD6.set (Only.set _ _ _ _) (hD6.s.set 17 (.int .u32 X)); rw [HA1.out] at h7; have HD7 := hid_into h7; clear hl6 hD6 h7 HD)
                | (go_at_call 71; have _q := HD7; refine (C35a.out _ _ HD7.out.rd).mono ?_; rintro e w8 ⟨rfl, hl8⟩; obtain ⟨v8, hD8⟩ := HD7.out.read hl8; have f8 := hD8.s.frozen 18; have e8 := (hD8.s.cell 18).trans q1.out.over; have h9 := hD8.set (Only.set _ _ _ _) (hD8.s.set 18 (.bool false)); rw [HA2.out] at h9; have HD9 := hid_into h9; clear hl8 hD8 h9 HD7 _q)
                | (go_at_call 72; refine (flag_any _ _).mono ?_; rintro e w9 ⟨rfl, hw9⟩; subst hw9; dsimp only [fl])
                | (go_at_call 71; have _q := HD9; refine (C35b.out _ _ HD9.out.rd).mono ?_; rintro e w10 ⟨rfl, hl10⟩; obtain ⟨v10, hD10⟩ := HD9.out.read hl10; have f10 := hD10.s.frozen 19; have e10 := (hD10.s.cell 19).trans q2.out.win; have h11 := hD10.set (Only.set _ _ _ _) (hD10.s.set 19 (.int .i64 Y)); rw [HA3.out] at h11; have HD11 := hid_into h11; have e11 := (h11.s.cell 18).trans q3.out.over; clear hl10 hD10 h11 HD9 _q)
                | (go_at_call 73; refine (C37x.out _ _ HD11.out.rd).mono ?_; rintro e w12 ⟨rfl, hw12⟩; subst hw12)
                | (go_at_call 74; refine (isState_c _ _ q3.out _).mono ?_; rintro e w13 ⟨rfl, B13⟩; replace HD11 := hid_into (HD11.out.next B13); clear B13)
                | (refine wpList_load_rwG (by kernel_rfl) 44 (.tmp 5) rfl w3.heap.size (stV (s3D zs false Y)) 44 _ rfl ?_ Tryz.underlying44 rfl HN3 ?_; exact HD11.out.s)
                | (refine wpList_load_rw rfl 44 (.tmp 5) rfl w3.heap.size (stV (s3D zs false Y)) 44 _ rfl ?_ Tryz.underlying44 rfl HN3 ?_; exact HD11.out.s)
                | (refine wpList_build_row rfl 44 #[] rfl zeroS [] rfl HBz.out ?_)
                | (refine wpList_store_rw rfl 44 (.tmp 2) (.tmp 54) rfl w.heap.size zeroS (stV (s3D zs false Y)) 44 rfl rfl ?_ ZS HL3 HO3.out ?_; exact HD11.out.r; intro W14 hr14 O14))
              exact ret_row2 rfl rfl rfl hr14 Tryz.underlying44 rfl HN3 ⟨by rw [hdP]; rfl, HD11.out.below.trans (O14.below (by omega))⟩
            | false =>
              rw [hi, if_pos (by simp)] at hdP
              go_wp2_with (first
                | (go_at_call 70; refine C34x.out.mono ?_; rintro e w6 ⟨rfl, hl6⟩; obtain ⟨v6, hD6⟩ := HD.out.read hl6; have f6 := hD6.s.frozen 17; have e6 := (hD6.s.cell 17).trans q0.out.seed; have h7 := hD6.set (Only.set _ _ _ _) (hD6.s.set 17 (.int .u32 X)); rw [HA1.out] at h7; have HD7 := hid_into h7; clear hl6 hD6 h7 HD)
                | (go_at_call 71; have _q := HD7; refine (C35a.out _ _ HD7.out.rd).mono ?_; rintro e w8 ⟨rfl, hl8⟩; obtain ⟨v8, hD8⟩ := HD7.out.read hl8; have f8 := hD8.s.frozen 18; have e8 := (hD8.s.cell 18).trans q1.out.over; have h9 := hD8.set (Only.set _ _ _ _) (hD8.s.set 18 (.bool false)); rw [HA2.out] at h9; have HD9 := hid_into h9; clear hl8 hD8 h9 HD7 _q)
                | (go_at_call 72; refine (flag_any _ _).mono ?_; rintro e w9 ⟨rfl, hw9⟩; subst hw9; dsimp only [fl])
                | (go_at_call 71; have _q := HD9; refine (C35b.out _ _ HD9.out.rd).mono ?_; rintro e w10 ⟨rfl, hl10⟩; obtain ⟨v10, hD10⟩ := HD9.out.read hl10; have f10 := hD10.s.frozen 19; have e10 := (hD10.s.cell 19).trans q2.out.win; have h11 := hD10.set (Only.set _ _ _ _) (hD10.s.set 19 (.int .i64 Y)); rw [HA3.out] at h11; have HD11 := hid_into h11; have e11 := (h11.s.cell 18).trans q3.out.over; clear hl10 hD10 h11 HD9 _q)
                | (go_at_call 73; refine (C37x.out _ _ HD11.out.rd).mono ?_; rintro e w12 ⟨rfl, hw12⟩; subst hw12)
                | (go_at_call 74; refine (isState_c _ _ q3.out _).mono ?_; rintro e w13 ⟨rfl, B13⟩; replace HD11 := hid_into (HD11.out.next B13); clear B13)
                | (refine wpList_load_rwG (by kernel_rfl) 44 (.tmp 5) rfl w3.heap.size (stV (s3D zs false Y)) 44 _ rfl ?_ Tryz.underlying44 rfl HN3 ?_; exact HD11.out.s)
                | (refine wpList_load_rw rfl 44 (.tmp 5) rfl w3.heap.size (stV (s3D zs false Y)) 44 _ rfl ?_ Tryz.underlying44 rfl HN3 ?_; exact HD11.out.s)
                | (refine wpList_build_row rfl 44 #[] rfl zeroS [] rfl HBz.out ?_)
                | (refine wpList_store_rw rfl 44 (.tmp 2) (.tmp 53) rfl w.heap.size zeroS zeroS 44 rfl rfl ?_ ZS (hid_into rfl) HOz.out ?_; exact HD11.out.r; intro W14 hr14 O14))
              exact ret_row2 rfl rfl rfl hr14 Tryz.underlying44 rfl ZS ⟨by rw [hdP]; rfl, HD11.out.below.trans (O14.below (by omega))⟩
          · rw [if_pos (by left; omega)] at hdP
            have hbn : (ob != 0) = true := by simp [hb0]
            go_wp2_with (first
              | (go_at_call 70; refine C34x.out.mono ?_; rintro e w6 ⟨rfl, hl6⟩; obtain ⟨v6, hD6⟩ := HD.out.read hl6; have f6 := hD6.s.frozen 17; have e6 := (hD6.s.cell 17).trans q0.out.seed; have h7 := hD6.set (Only.set _ _ _ _) (hD6.s.set 17 (.int .u32 X)); rw [HA1.out] at h7; have HD7 := hid_into h7; clear hl6 hD6 h7 HD)
              | (go_at_call 71; have _q := HD7; refine (C35a.out _ _ HD7.out.rd).mono ?_; rintro e w8 ⟨rfl, hl8⟩; obtain ⟨v8, hD8⟩ := HD7.out.read hl8; have f8 := hD8.s.frozen 18; have e8 := (hD8.s.cell 18).trans q1.out.over; have h9 := hD8.set (Only.set _ _ _ _) (hD8.s.set 18 (.bool false)); rw [HA2.out] at h9; have HD9 := hid_into h9; clear hl8 hD8 h9 HD7 _q)
              | (go_at_call 72; refine (flag_any _ _).mono ?_; rintro e w9 ⟨rfl, hw9⟩; subst hw9; dsimp only [fl])
              | (go_at_call 71; have _q := HD9; refine (C35b.out _ _ HD9.out.rd).mono ?_; rintro e w10 ⟨rfl, hl10⟩; obtain ⟨v10, hD10⟩ := HD9.out.read hl10; have f10 := hD10.s.frozen 19; have e10 := (hD10.s.cell 19).trans q2.out.win; have h11 := hD10.set (Only.set _ _ _ _) (hD10.s.set 19 (.int .i64 Y)); rw [HA3.out] at h11; have HD11 := hid_into h11; have e11 := (h11.s.cell 18).trans q3.out.over; clear hl10 hD10 h11 HD9 _q)
              | (go_at_call 73; refine (C37x.out _ _ HD11.out.rd).mono ?_; rintro e w12 ⟨rfl, hw12⟩; subst hw12)
              | (refine wpList_load_rw rfl 44 (.tmp 5) rfl w3.heap.size (stV (s3D zs false Y)) 44 _ rfl ?_ Tryz.underlying44 rfl HN3 ?_; exact HD11.out.s)
              | (refine wpList_build_row rfl 44 #[] rfl zeroS [] rfl HBz.out ?_)
              | (refine wpList_store_rw rfl 44 (.tmp 2) (.tmp 53) rfl w.heap.size zeroS zeroS 44 rfl rfl ?_ ZS (hid_into rfl) HOz.out ?_; exact HD11.out.r; intro W14 hr14 O14))
            exact ret_row2 rfl rfl rfl hr14 Tryz.underlying44 rfl ZS ⟨by rw [hdP]; rfl, HD11.out.below.trans (O14.below (by omega))⟩
        · have he' : (er != 0) = true := by simp [he]
          rw [if_pos he] at hdP
          go_wp2_with (first
            | (go_at_call 70; refine C34x.out.mono ?_; rintro e w6 ⟨rfl, hl6⟩; obtain ⟨v6, hD6⟩ := HD.out.read hl6; have f6 := hD6.s.frozen 17; have e6 := (hD6.s.cell 17).trans q0.out.seed; have h7 := hD6.set (Only.set _ _ _ _) (hD6.s.set 17 (.int .u32 X)); rw [HA1.out] at h7; have HD7 := hid_into h7; clear hl6 hD6 h7 HD)
            | (go_at_call 71; have _q := HD7; refine (C35a.out _ _ HD7.out.rd).mono ?_; rintro e w8 ⟨rfl, hl8⟩; obtain ⟨v8, hD8⟩ := HD7.out.read hl8; have f8 := hD8.s.frozen 18; have e8 := (hD8.s.cell 18).trans q1.out.over; have h9 := hD8.set (Only.set _ _ _ _) (hD8.s.set 18 (.bool false)); rw [HA2.out] at h9; have HD9 := hid_into h9; clear hl8 hD8 h9 HD7 _q)
            | (go_at_call 72; refine (flag_any _ _).mono ?_; rintro e w9 ⟨rfl, hw9⟩; subst hw9; dsimp only [fl])
            | (go_at_call 71; have _q := HD9; refine (C35b.out _ _ HD9.out.rd).mono ?_; rintro e w10 ⟨rfl, hl10⟩; obtain ⟨v10, hD10⟩ := HD9.out.read hl10; have f10 := hD10.s.frozen 19; have e10 := (hD10.s.cell 19).trans q2.out.win; have h11 := hD10.set (Only.set _ _ _ _) (hD10.s.set 19 (.int .i64 Y)); rw [HA3.out] at h11; have HD11 := hid_into h11; have e11 := (h11.s.cell 18).trans q3.out.over; clear hl10 hD10 h11 HD9 _q)
            | (go_at_call 73; refine (C37x.out _ _ HD11.out.rd).mono ?_; rintro e w12 ⟨rfl, hw12⟩; subst hw12)
            | (go_at_call 74; refine (isState_c _ _ q3.out _).mono ?_; rintro e w13 ⟨rfl, B13⟩; replace HD11 := hid_into (HD11.out.next B13); clear B13)
            | (refine wpList_load_rwG (by kernel_rfl) 44 (.tmp 5) rfl w3.heap.size (stV (s3D zs false Y)) 44 _ rfl ?_ Tryz.underlying44 rfl HN3 ?_; exact HD11.out.s)
            | (refine wpList_load_rw rfl 44 (.tmp 5) rfl w3.heap.size (stV (s3D zs false Y)) 44 _ rfl ?_ Tryz.underlying44 rfl HN3 ?_; exact HD11.out.s)
            | (refine wpList_build_row rfl 44 #[] rfl zeroS [] rfl HBz.out ?_)
            | (refine wpList_store_rw rfl 44 (.tmp 2) (.tmp 41) rfl w.heap.size zeroS zeroS 44 rfl rfl ?_ ZS (hid_into rfl) HOz.out ?_; exact HD11.out.r; intro W14 hr14 O14))
          exact ret_row2 rfl rfl rfl hr14 Tryz.underlying44 rfl ZS ⟨by rw [hdP]; rfl, HD11.out.below.trans (O14.below (by omega))⟩
end Go.Proofs.YtbfldcieibdapabGreat
end

section
/-
  vm.Encode, by a contract.
-/

namespace Go.Proofs.YtbfldcieibdapabGreat
open Go.RowKit Oc
theorem rangeE {W : World} {g : Nat} {s : Sp} (h : Cw W g (stV s) 44) : W.rangeAt g 1 (s.cells.map (Value.int .i32)) := by
  intro j u hu
  rw [h.cell, stV, show 1 + j = j + 1 by omega, List.getElem?_cons_succ, List.getElem?_append_left (List.getElem?_eq_some_iff.1 hu).1]
  exact hu
/-- The variables of Encode: the state, the Writer. -/
structure Ev (w W : World) (v : Value) (xs : List Int) (cs : List Value) : Prop where
  s : Cw W w.heap.size cs 44
  wr : Wr W (w.heap.size + 1) v xs
  below : Below w.heap.size w W
theorem Ev.step {w W W' : World} {v v' : Value} {xs ys : List Int} {cs : List Value} (h : Ev w W v xs cs) (h1 : Wr W' (w.heap.size + 1) v' ys) (h2 : Wstep (w.heap.size + 1) W v W' v') : Ev w W' v' ys cs := by
  have hb := h.wr.below h2 (Nat.le_refl _)
  exact ⟨h.s.below hb (by omega), h1, h.below.trans (hb.mono (by omega))⟩
theorem Ev.make {w W1 : World} {cs : List Value} (hc : Cw W1 w.heap.size cs 44) (B1 : Below w.heap.size w W1) (s1 : W1.heap.size = w.heap.size + 1) : Ev w (W1.alloc (.cells #[.slice none 0 0] 130)) (.slice none 0 0) [] cs := by
  have h := Wr_new W1
  rw [s1] at h
  exact ⟨hc.alloc _, h, B1.alloc (by omega) _⟩
theorem index16 (zs : List Int) (hz : zs.length = 16) (k : Nat) (hk : k < 16) (w : World) : (Instr.index 42 (.agg (zs.map (Value.int .i32)).toArray) (.int .i64 (k : Int))).run Tryz.prog w = .ok (.int .i32 (zs.getD k 0)) w := by
  simp [Instr.index, run_underlying Tryz.underlying42, asIntOf, go_sem, hz, hk, List.getD]
theorem encC_take {cells : List Int} {k : Nat} (hk : k < cells.length) : encC (cells.take (k + 1)) = encC (cells.take k) ++ fourB (uI (cells.getD k 0)) := by
  rw [List.take_add_one, encC_append, List.getElem?_eq_getElem hk, List.getD, List.getElem?_eq_getElem hk]
  simp [encC]
theorem encC_len : ∀ cells : List Int, (encC cells).length = cells.length * 4
  | [] => rfl
  | c :: l => by
    have := encC_len l
    simp only [encC, List.flatMap_cons, List.length_append, List.length_cons] at this ⊢
    have h4 : (fourB (uI c)).length = 4 := rfl
    omega
set_option maxRecDepth 20000 in
set_option maxHeartbeats 4000000 in
theorem Encode_any (s : Sp) (hs : s.Wf) (h0 : -9223372036854775808 ≤ s.frame) (h1 : s.frame ≤ 9223372036854775807) (w : World) :
    Calls Tryz.prog 55 #[.agg (stV s).toArray] w fun e w' => ∃ ao cap, e = .returned (.slice ao (encS s).length cap) ∧ Ow w' w.heap.size (.slice ao (encS s).length cap) (encS s) ∧ Below w.heap.size w w' := by
  have HC := hid_into (stV_c hs)
  have HRg : Hid (∀ W, Cw W w.heap.size (stV s) 44 → W.rangeAt w.heap.size 1 (s.cells.map (Value.int .i32))) := fun W h => rangeE h
  have HI := hid_into fun k hk W => index16 s.cells hs.cells k hk W
  have Hl16 := hid_into hs.cells
  have HN16 : Hid ((Tryz.prog.info? 42).map (·.size) = some (s.cells.map (Value.int .i32)).length) := by rw [List.length_map, hs.cells]; exact (by kernel_rfl : (Tryz.prog.info? 42).map (·.size) = some 16)
  have Hnl := hid_into (numOf_length s.frame)
  have HE : Hid (encS s = (((numOf s.frame ++ encC (s.cells.take 16)) ++ fourB s.seed) ++ [if s.over = true then 1 else 0]) ++ [s.win % 256]) := by
    refine hid_into ?_
    unfold encS
    rw [List.take_of_length_le (by rw [hs.cells]; exact Nat.le_refl _)]
    simp
  have hel : (encS s).length ≤ 200 := by
    rw [HE.out]
    simp only [List.length_append, encC_len, List.length_take, hs.cells]
    have h9 := Hnl.out
    have h4 : (fourB s.seed).length = 4 := rfl
    simp
    omega
  have Hel := hid_into hel
  clear hel hs
  generalize encS s = R at HE Hel ⊢
  obtain ⟨cs, hcs⟩ : ∃ cs, cs = stV s := ⟨_, rfl⟩
  rw [← hcs] at HC HRg ⊢
  clear hcs
  obtain ⟨fr, cells, seed, over, win⟩ := s
  simp only at h0 h1 HC HRg HI Hl16 HN16 Hnl HE
  generalize hcm : cells.map (Value.int .i32) = cm at HRg HI HN16
  clear hcm
  go_enter Tryz.func55, Tryz.ntmps55
  go_upto_block 0 with (go_big_may; first
    | (refine wpList_box_row rfl 44 (.tmp 0) rfl cs rfl ?_; intro W1 hc1 B1 HS1; have E1 := hid_into (Ev.make hc1 B1 HS1.out); have hsz := HS1.out; have k0 := (E1.out.s.cell 0).trans HC.out.frame; simp only at k0; clear hc1 B1)
    | (go_at_call 75; refine (num_w _ _ _ fr _ E1.out.wr (by simp) h0 h1).mono ?_; rintro e w2 ⟨rfl, v2, hw2, hst2⟩; have E2 := hid_into (E1.out.step hw2 hst2); clear hw2 hst2 E1 k0)
    | (refine wpList_load_mid rfl 42 (.tmp 9) rfl w.heap.size 1 rfl cm _ ?_ Tryz.underlying42 rfl HN16.out ?_; exact HRg.out _ E2.out.s))
  have hE0 : ([] ++ numOf fr : List Int) = numOf fr ++ encC (cells.take 0) := by simp [encC]
  rw [hE0] at E2
  clear hE0
  go_wp2_with fail
  go_loopw [11] (fun i wr => ∃ (k : Nat) (v : Value), k ≤ 16 ∧ i = .int .i64 (k : Int) ∧ Hid (Ev w wr v (numOf fr ++ encC (cells.take k)) cs)) (fun i _ => 16 - (intOf i).toNat)
  case atStart => exact ⟨0, v2, Nat.zero_le _, rfl, E2.out⟩
  case round =>
    clear E2
    obtain ⟨k, v, hk, rfl, HD⟩ := hrel
    have hlen : (numOf fr ++ encC (cells.take k)).length ≤ 100 := by
      have h9 := Hnl.out
      have h16 := Hl16.out
      simp only [List.length_append, encC_len, List.length_take, h16]
      omega
    have HLen := hid_into hlen
    clear hlen
    by_cases hlt : k < 16
    · have hlt' : (k : Int) < 16 := by omega
      have hI := HI.out k hlt
      have HT := hid_into (encC_take (cells := cells) (k := k) (by rw [Hl16.out]; exact hlt))
      generalize cells.getD k 0 = c at hI HT
      have hu : IntKind.u32.wrap c = uI c := rfl
      have C := hid_into (four_w (w.heap.size + 1) v _ (uI c) wr HD.out.wr (by have := HLen.out; omega))
      generalize uI c = x at hu C HT
      go_wp2_with (go_at_call 76; refine C.out.mono ?_; rintro e w3 ⟨rfl, v3, hw3, hst3⟩; have E3 := hid_into (HD.out.step hw3 hst3); clear hw3 hst3)
      go_roundw
      case rel => exact ⟨k + 1, v3, by omega, by go_num, by rw [HT.out, ← List.append_assoc]; exact E3.out⟩
      case measure => simp [intOf]; omega
    · obtain rfl : k = 16 := by omega
      have c17 := (HD.out.s.cell 17).trans HC.out.seed
      simp only at c17
      have C44 := hid_into (four_w (w.heap.size + 1) v _ seed wr HD.out.wr (by have := HLen.out; omega))
      have hw8 : IntKind.u8.wrap win = win % 256 := by simp [IntKind.wrap, IntKind.bits, IntKind.signed]
      have C45 : Hid (∀ W v xs x, Wr W (w.heap.size + 1) v xs → xs.length ≤ 1000 → Calls Tryz.prog 77 #[.pointer (some ⟨w.heap.size + 1, 0, none⟩), .int .u8 x] W fun e w' => e = .returned (.tuple #[]) ∧ ∃ v', Wr w' (w.heap.size + 1) v' (xs ++ [x]) ∧ Wstep (w.heap.size + 1) W v w' v') := fun W v xs x h1 h2 => byte_w _ v xs x W h1 (by omega)
      have C46 : Hid (∀ W v, Wr W (w.heap.size + 1) v R → Calls Tryz.prog 78 #[.pointer (some ⟨w.heap.size + 1, 0, none⟩)] W fun e w' => ∃ ao cap, e = .returned (.slice ao R.length cap) ∧ Ow w' W.heap.size (.slice ao R.length cap) R ∧ Below W.heap.size W w') := fun W v h => out_w _ v R W h (by have := Hel.out; omega)
      have hfl : (if over = true then (1 : Int) else 0) = fl over := by cases over <;> rfl
      rw [hfl] at HE
      clear hfl
      generalize win % 256 = wb at hw8 HE
      generalize hA : numOf fr ++ encC (cells.take 16) = A at HD C44 HE HLen
      clear hA
      go_wp2_with (first
        | (go_at_call 76; refine C44.out.mono ?_; rintro e w3 ⟨rfl, v3, hw3, hst3⟩; have E3 := hid_into (HD.out.step hw3 hst3); have c18 := (E3.out.s.cell 18).trans HC.out.over; simp only at c18; clear hw3 hst3 C44 c17)
        | (go_at_call 72; refine (flag_any _ _).mono ?_; rintro e w4 ⟨rfl, hw4⟩; subst hw4)
        | (go_at_call 77; have _e := E3; refine (C45.out _ _ _ _ E3.out.wr ?_).mono ?_; (have := HLen.out; simp only [List.length_append, fourB, List.length_cons, List.length_nil]; omega); rintro e w5 ⟨rfl, v5, hw5, hst5⟩; have E5 := hid_into (E3.out.step hw5 hst5); have c19 := (E5.out.s.cell 19).trans HC.out.win; simp only at c19; clear hw5 hst5 E3 _e c18)
        | (go_at_call 77; have _e := E5; refine (C45.out _ _ _ _ E5.out.wr ?_).mono ?_; (have := HLen.out; simp only [List.length_append, fourB, List.length_cons, List.length_nil]; omega); rintro e w6 ⟨rfl, v6, hw6, hst6⟩; have h6 := E5.out.step hw6 hst6; rw [← HE.out] at h6; have E6 := hid_into h6; clear hw6 hst6 E5 _e c19 h6)
        | (go_at_call 78; refine (C46.out _ _ E6.out.wr).mono ?_; rintro e w7 ⟨ao, cap, rfl, ho7, B7⟩))
      go_ret
      have hsz6 := E6.out.below.size
      exact ⟨ao, cap, rfl, ⟨ho7.1, by
        rcases ho7.2 with h | ⟨g, c1, cur, h2, h3, h4⟩
        · exact Or.inl h
        · exact Or.inr ⟨g, c1, cur, h2, Nat.le_trans hsz6 h3, h4⟩⟩, E6.out.below.trans (B7.mono hsz6)⟩
end Go.Proofs.YtbfldcieibdapabGreat
end

section
/-
  A state's bytes, and back. No walk.
-/
namespace Go.Proofs.YtbfldcieibdapabGreat
open Oc
theorem fourV_fourB (x : Int) (h0 : 0 ≤ x) (h1 : x < 4294967296) : fourV (fourB x) = x := by
  simp only [fourV, fourB, List.getD_cons_zero, List.getD_cons_succ]
  omega
theorem uI_in (c : Int) : 0 ≤ uI c ∧ uI c < 4294967296 := by
  unfold uI
  simp [IntKind.wrap, IntKind.bits, IntKind.signed]
  omega
theorem sgnI_uI {c : Int} (h : In32 c) : sgnI (uI c) = c := by
  unfold In32 at h
  unfold sgnI uI
  simp [IntKind.wrap, IntKind.bits, IntKind.signed]
  split <;> omega
theorem snoc_of {cs : List Int} {k : Nat} (h : cs.length = k + 1) : ∃ a c, cs = a ++ [c] ∧ a.length = k := by
  have hne : cs ≠ [] := by intro e; rw [e] at h; cases h
  exact ⟨cs.dropLast, cs.getLast hne, (List.dropLast_concat_getLast hne).symm, by rw [List.length_dropLast]; omega⟩
theorem fk_enc : ∀ (k : Nat) (cs r : List Int), cs.length = k → (∀ x ∈ cs, In32 x) → fk k (encC cs ++ r) 0 = (cs, r, 0)
  | 0, cs, r, h, _ => by
    obtain rfl := List.eq_nil_of_length_eq_zero h
    rfl
  | k + 1, cs, r, h, hin => by
    obtain ⟨a, c, rfl, ha⟩ := snoc_of h
    have e1 : encC (a ++ [c]) ++ r = encC a ++ (fourB (uI c) ++ r) := by rw [encC_append, List.append_assoc]; simp [encC]
    rw [e1, fk, fk_enc k a (fourB (uI c) ++ r) ha (fun x hx => hin x (List.mem_append_left _ hx))]
    have hl : z4.length ≤ (fourB (uI c) ++ r).length := by simp [z4, fourB]
    rw [rowR_yes hl]
    have h4 : (fourB (uI c) ++ r).take z4.length = fourB (uI c) := by simp [z4, fourB]
    have h5 : (fourB (uI c) ++ r).drop z4.length = r := by simp [z4, fourB]
    have hu := uI_in c
    simp only [h4, h5, fourV_fourB _ hu.1 hu.2, sgnI_uI (hin c (by simp))]
theorem enc_back {s : Sp} (hs : s.Wf) (h : isS s = true) : decP (encS s) = (s, 0) := by
  have hi := h
  simp only [isS, decide_eq_true_eq] at hi
  obtain ⟨fr, cells, seed, over, win⟩ := s
  simp only at hi
  have hc : cells.length = 16 := hs.cells
  have hsd : 0 ≤ seed ∧ seed < 4294967296 := hs.seed
  have hA : dA (encS ⟨fr, cells, seed, over, win⟩) = (fr, encC cells ++ (fourB seed ++ [(if over = true then 1 else 0), win % 256]), 0) := numR_numOf fr _ (by omega) (by omega)
  have hB : dB (encS ⟨fr, cells, seed, over, win⟩) = (cells, fourB seed ++ [(if over = true then 1 else 0), win % 256], 0) := by
    unfold dB; rw [hA]; exact fk_enc 16 cells _ hc hs.cin
  have hC : dC (encS ⟨fr, cells, seed, over, win⟩) = (fourB seed, [(if over = true then 1 else 0), win % 256], 0) := by
    unfold dC; rw [hB, rowR_yes (by simp [z4, fourB])]; simp [z4, fourB]
  have hD : dD (encS ⟨fr, cells, seed, over, win⟩) = ([if over = true then 1 else 0], [win % 256], 0) := by
    unfold dD; rw [hC, rowR_yes (by simp)]; simp
  have hG : dG (encS ⟨fr, cells, seed, over, win⟩) = ([win % 256], [], 0) := by
    unfold dG; rw [hD, rowR_yes (by simp)]; simp
  have hE : dE (encS ⟨fr, cells, seed, over, win⟩) = 0 := by unfold dE; rw [hG]; simp [endR]
  have hO : dOv (encS ⟨fr, cells, seed, over, win⟩) = if over = true then 1 else 0 := by unfold dOv; rw [hD]; rfl
  have hS : dS (encS ⟨fr, cells, seed, over, win⟩) = ⟨fr, cells, seed, over, win⟩ := by
    unfold dS
    rw [hA, hB, hC, hG, hO, fourV_fourB _ hsd.1 hsd.2]
    have e1 : decide ((if over = true then (1 : Int) else 0) = 1) = over := by cases over <;> rfl
    have e2 : win % 256 = win := by omega
    rw [e1, e2]
    rfl
  unfold decP
  rw [hE, if_neg (by simp), hO, hS, h, if_neg]
  cases over <;> simp
theorem encS_byt {s : Sp} (h0 : -9223372036854775808 ≤ s.frame) (h1 : s.frame ≤ 9223372036854775807) : Byt (encS s) := by
  have four : ∀ x : Int, Byt (fourB x) := by
    intro x z hz
    simp only [fourB, List.mem_cons, List.not_mem_nil, or_false] at hz
    omega
  intro z hz
  unfold encS at hz
  simp only [List.mem_append, List.mem_cons, List.not_mem_nil, or_false] at hz
  rcases hz with hz | hz | hz | hz | hz
  · exact numOf_byt s.frame h0 h1 z hz
  · unfold encC at hz
    obtain ⟨c, _, hc⟩ := List.mem_flatMap.1 hz
    exact four _ z hc
  · exact four _ z hz
  · rw [hz]; split <;> omega
  · omega
theorem encS_len (s : Sp) (hs : s.Wf) : (encS s).length ≤ 100 := by
  have h9 := numOf_length s.frame
  unfold encS
  simp only [List.length_append, encC_len, hs.cells, fourB, List.length_cons, List.length_nil]
  omega
end Go.Proofs.YtbfldcieibdapabGreat
end

section
/-
  Whether something is a state: ring's isState asks it of its bytes.
-/
namespace Go.Proofs.YtbfldcieibdapabGreat.Rn
open Go.RowKit Oc
theorem eqS_eq {s t : Sp} (h : eqS s t = true) : s = t := by
  simp only [eqS, Bool.and_eq_true, decide_eq_true_eq] at h
  obtain ⟨h1, h2, h3, h4, h5⟩ := h
  cases s
  cases t
  simp_all
theorem is_enc {s : Sp} (hs : Gs s) : (decide ((decP (encS s)).2 = 0) && eqS (decP (encS s)).1 s) = isS s := by
  cases h : isS s with
  | true => rw [enc_back hs.1 h, eqS_same]; rfl
  | false =>
    cases h2 : (decide ((decP (encS s)).2 = 0) && eqS (decP (encS s)).1 s) with
    | false => rfl
    | true =>
      simp only [Bool.and_eq_true, decide_eq_true_eq] at h2
      have e := eqS_eq h2.2
      have h3 := h2.1
      rw [← e] at h
      revert h h3
      generalize encS s = zs
      unfold decP
      intro h h3
      by_cases h4 : dE zs ≠ 0
      · rw [if_pos h4] at h3; exact absurd h3 h4
      · rw [if_neg h4] at h h3
        by_cases h5 : 1 < dOv zs ∨ isS (dS zs) = false
        · rw [if_pos h5] at h3; cases h3
        · rw [if_neg h5] at h
          exact absurd (Or.inr h) h5
set_option maxRecDepth 20000 in
set_option maxHeartbeats 2000000 in
theorem isState_any (s : Sp) (hs : Gs s) (w : World) : Calls Tryz.prog 39 #[.agg (stV s).toArray] w fun e w' => e = .returned (.bool (isS s)) ∧ Below w.heap.size w w' := by
  have hby := encS_byt hs.2.1 hs.2.2
  have hln := encS_len s hs.1
  have HE : Hid (∀ W, Calls Tryz.prog 55 #[.agg (stV s).toArray] W fun e w' => ∃ ao cap, e = .returned (.slice ao (encS s).length cap) ∧ Oc.Ow w' W.heap.size (.slice ao (encS s).length cap) (encS s) ∧ Below W.heap.size W w') := fun W => Encode_any s hs.1 hs.2.1 hs.2.2 W
  have HD : Hid (∀ W v, Oc.Bs W v (encS s) → Calls Tryz.prog 54 #[v] W fun e w' => e = .returned (.tuple #[.agg (stV (decP (encS s)).1).toArray, .int .i64 (decP (encS s)).2]) ∧ Below W.heap.size W w') := fun W v hb => Decode_any v _ W hb hby (by omega)
  have HN := st_size hs.1
  have hwx := decP_wf hby
  have HNx := st_size hwx
  have HLx := st_len hwx
  have HOx := st_one hwx
  have HEx := hid_into (run_eqS _ _ hwx hs.1)
  have HZ : Hid ((Tryz.prog.info? 44).bind (·.zero) = some (.agg zeroS.toArray)) := Tryz.zero44
  have ZS := zeroS_size
  have HR := hid_into (is_enc hs)
  generalize eqS (decP (encS s)).1 s = q at *
  generalize stV (decP (encS s)).1 = xs at *
  generalize (decP (encS s)).2 = er at *
  generalize stV s = cs at *
  generalize isS s = r at *
  generalize encS s = R at *
  clear hs hwx hby hln
  by_cases he : er = 0
  · subst he
    have HR2 : Hid (r = q) := by show r = q; rw [← HR.out]; simp
    clear HR
    go_enter Tryz.func39, Tryz.ntmps39
    go_wp2_with (first
      | (refine wpList_box_row rfl 44 (.tmp 0) rfl cs rfl ?_; intro W1 hc1 B1 HS1)
      | (refine wpList_load_rw rfl 44 (.tmp 1) rfl w.heap.size cs 44 _ rfl ?_ Tryz.underlying44 rfl HN ?_; exact hc1)
      | (go_at_call 55; refine (HE.out _).mono ?_; rintro e w2 ⟨ao, cap, rfl, ho2, B2⟩)
      | (go_at_call 54; refine (HD.out _ _ ho2.bs).mono ?_; rintro e w3 ⟨rfl, B3⟩; have hc3 := (hc1.below B2 hc1.lt).below B3 (hc1.below B2 hc1.lt).lt; have HB3 := hid_into ((B1.trans (B2.mono B1.size)).trans (B3.mono (Nat.le_trans B1.size B2.size))); clear hc1 B2 B3 B1 ho2)
      | (refine wpList_alloc_row rfl 44 rfl zeroS HZ.out ?_; intro W4 hc4 B4 HS4; have hd4 := hc3.below B4 hc3.lt; have hne := hid_into (Nat.ne_of_lt hc3.lt); have HB4 := hid_into (HB3.out.trans (B4.mono HB3.out.size)); clear hc3 B4)
      | (refine wpList_store_rw rfl 44 (.tmp 3) (.tmp 9) rfl w3.heap.size zeroS xs 44 rfl rfl ?_ ZS HLx HOx.out ?_; exact hc4; intro W5 hc5 O5; have hd5 := O5.cw hd4 hne.out; have HB5 := hid_into (HB4.out.trans (O5.below HB3.out.size)); clear hc4 hd4 O5)
      | (refine wpList_load_rwG (by kernel_rfl) 44 (.tmp 3) rfl w3.heap.size xs 44 _ rfl ?_ Tryz.underlying44 rfl HNx ?_; exact hc5)
      | (refine wpList_load_rwG (by kernel_rfl) 44 (.tmp 1) rfl w.heap.size cs 44 _ rfl ?_ Tryz.underlying44 rfl HN ?_; exact hd5)
      | (refine wpList_eql28 (by kernel_rfl) (.tmp 14) (.tmp 15) rfl xs cs q HEx rfl rfl ?_))
    go_ret
    exact ⟨by rw [HR2.out]; rfl, HB5.out⟩
  · have HR2 : Hid (r = false) := by show r = false; rw [← HR.out]; simp [he]
    have he' : (er == 0) = false := by simp [he]
    clear HR
    go_enter Tryz.func39, Tryz.ntmps39
    go_wp2_with (first
      | (refine wpList_box_row rfl 44 (.tmp 0) rfl cs rfl ?_; intro W1 hc1 B1 HS1)
      | (refine wpList_load_rw rfl 44 (.tmp 1) rfl w.heap.size cs 44 _ rfl ?_ Tryz.underlying44 rfl HN ?_; exact hc1)
      | (go_at_call 55; refine (HE.out _).mono ?_; rintro e w2 ⟨ao, cap, rfl, ho2, B2⟩)
      | (go_at_call 54; refine (HD.out _ _ ho2.bs).mono ?_; rintro e w3 ⟨rfl, B3⟩; have hc3 := (hc1.below B2 hc1.lt).below B3 (hc1.below B2 hc1.lt).lt; have HB3 := hid_into ((B1.trans (B2.mono B1.size)).trans (B3.mono (Nat.le_trans B1.size B2.size))); clear hc1 B2 B3 B1 ho2)
      | (refine wpList_alloc_row rfl 44 rfl zeroS HZ.out ?_; intro W4 hc4 B4 HS4; have hd4 := hc3.below B4 hc3.lt; have hne := hid_into (Nat.ne_of_lt hc3.lt); have HB4 := hid_into (HB3.out.trans (B4.mono HB3.out.size)); clear hc3 B4)
      | (refine wpList_store_rw rfl 44 (.tmp 3) (.tmp 9) rfl w3.heap.size zeroS xs 44 rfl rfl ?_ ZS HLx HOx.out ?_; exact hc4; intro W5 hc5 O5; have hd5 := O5.cw hd4 hne.out; have HB5 := hid_into (HB4.out.trans (O5.below HB3.out.size)); clear hc4 hd4 O5))
    go_ret
    exact ⟨by rw [HR2.out]; simp [Array.getD], HB5.out⟩
end Go.Proofs.YtbfldcieibdapabGreat.Rn
end

section
/-
  A ring in memory (Rg); empty, place, takes, Frames, by contracts.
-/
namespace Go.Proofs.YtbfldcieibdapabGreat.Rn
open Go.RowKit
/-- A ring of n places at block rb, its places in block pb. -/
structure Rg (w : World) (rb pb n a : Nat) (L : List Sp) : Prop where
  r : Cw w rb [.slice (some ⟨pb, 0, none⟩) n n, .int .i64 (a : Int), .int .i64 ((a + L.length : Nat) : Int)] 89
  p : ∃ ps, Cw w pb (cellsS ps) 44 ∧ Pl n a L ps
  k : Rk n a L
  ne : rb ≠ pb
  n1 : 1 ≤ n
  n2 : n ≤ 256
theorem Rg.keep {w w' : World} {rb pb n a : Nat} {L : List Sp} (h : Rg w rb pb n a L) (h1 : w'.heap[rb]? = w.heap[rb]?) (h2 : w'.heap[pb]? = w.heap[pb]?) : Rg w' rb pb n a L := by
  obtain ⟨ps, hp, hl⟩ := h.p
  exact ⟨h.r.keep h1, ⟨ps, hp.keep h2, hl⟩, h.k, h.ne, h.n1, h.n2⟩
theorem Rg.lt {w : World} {rb pb n a : Nat} {L : List Sp} (h : Rg w rb pb n a L) : rb < w.heap.size ∧ pb < w.heap.size := by
  obtain ⟨ps, hp, _⟩ := h.p
  exact ⟨h.r.lt, hp.lt⟩
theorem Rg.below {w w' : World} {rb pb n a : Nat} {L : List Sp} {B : Nat} (h : Rg w rb pb n a L) (hb : Below B w w') (hB : w.heap.size ≤ B) : Rg w' rb pb n a L :=
  h.keep (hb.block _ (by have := h.lt; omega)) (hb.block _ (by have := h.lt; omega))
theorem empty_nil (w : World) : Calls Tryz.prog 41 #[.pointer none] w fun e w' => e = .returned (.bool true) ∧ Sm w w' := by
  go_enter Tryz.func41, Tryz.ntmps41
  go_wp2_with fail
  go_quiet (fail)
  go_wp2_with fail
  go_ret
  exact ⟨rfl, ⟨rfl, rfl, rfl, rfl⟩⟩
theorem empty_any {w : World} {rb pb n a : Nat} {L : List Sp} (h : Rg w rb pb n a L) : Calls Tryz.prog 41 #[.pointer (some ⟨rb, 0, none⟩)] w fun e w' => e = .returned (.bool (decide (L = []))) ∧ Sm w w' := by
  have c1 := h.r.cell 1
  have c2 := h.r.cell 2
  simp only [List.getElem?_cons_succ, List.getElem?_cons_zero] at c1 c2
  by_cases hl : L = []
  · have e : ((a + L.length : Nat) : Int) = (a : Int) := by rw [hl]; rfl
    rw [e] at c2
    have hd : decide (L = []) = true := by simp [hl]
    rw [hd]
    clear e hl h hd
    generalize (a : Int) = x at *
    go_enter Tryz.func41, Tryz.ntmps41
    go_wp2_with fail
    go_quiet (fail)
    go_wp2_with fail
    go_ret
    exact ⟨by simp, ⟨rfl, rfl, rfl, rfl⟩⟩
  · have hp : 0 < L.length := List.length_pos_iff.2 hl
    have e : (((a : Int)) == ((a + L.length : Nat) : Int)) = false := by rw [beq_eq_false_iff_ne]; omega
    have hd : decide (L = []) = false := by simp [hl]
    rw [hd]
    clear hl h hd hp
    generalize ((a + L.length : Nat) : Int) = y at *
    generalize (a : Int) = x at *
    go_enter Tryz.func41, Tryz.ntmps41
    go_wp2_with fail
    go_quiet (fail)
    go_wp2_with fail
    go_ret
    exact ⟨by simp, ⟨rfl, rfl, rfl, rfl⟩⟩
theorem place_any {w : World} {rb pb n a : Nat} {L : List Sp} (h : Rg w rb pb n a L) (f : Nat) : Calls Tryz.prog 42 #[.pointer (some ⟨rb, 0, none⟩), .int .i64 (f : Int)] w fun e w' => e = .returned (.pointer (some ⟨pb, f % n * 20, none⟩)) ∧ Sm w w' := by
  have c0 := h.r.cell 0
  simp only [List.getElem?_cons_zero] at c0
  have hn1 := h.n1
  have hn2 := h.n2
  obtain ⟨m, hm⟩ : ∃ m, m = f % n := ⟨_, rfl⟩
  have hmn : m < n := by rw [hm]; exact Nat.mod_lt _ hn1
  have e1 : ((f : Int)).tmod (n : Int) = (m : Int) := by rw [hm]; rfl
  have e2 : IntKind.i64.wrap (m : Int) = (m : Int) := by simp [IntKind.wrap, IntKind.bits, IntKind.signed]; omega
  have e3 : ¬ (n : Int) = 0 := by omega
  have e4 : ¬ n = 0 := by omega
  have e5 : (m : Int) < (n : Int) := by omega
  have e6 : (0 : Int) ≤ (m : Int) := by omega
  rw [← hm]
  clear h hm
  go_enter Tryz.func42, Tryz.ntmps42
  go_wp2_with fail
  go_region
  go_wp2_with fail
  go_ret
  exact ⟨by simp, ⟨rfl, rfl, rfl, rfl⟩⟩
end Go.Proofs.YtbfldcieibdapabGreat.Rn
end
