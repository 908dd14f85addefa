/-
  Joined from: SegLog, SegTake, SegAdd.
-/
import Derived.Test.YtnkjhooeklodcaaGreatDoorM29
import Derived.Test.YtnkjhooeklodcaaGreatDoorM10
import Derived.Test.YtnkjhooeklodcaaGreatDoorM09
import Derived.Lib.ItoaLen
import Derived.Laws.Concat
section
/-
  A log in memory (Lg); what it reads of itself: next, lastName, wantsSegment, nextName.
-/
namespace Go.Proofs.YtnkjhooeklodcaaGreatDoor
open Go.RowKit Go.Maps Go.Sort

abbrev En := Value × List Int
def enOf (es : List En) : List Value := es.map (·.1)
structure Lg (w : World) (F : Nat → Prop) (lb sb : Nat) (pre : List UInt8) (ev nv : Value) (es : List En) (las : Nat) (ns : List (List UInt8)) (sz : Nat) (dead : Bool) : Prop where
  blk : Cw w lb [.pointer (some ⟨sb, 0, none⟩), encStr pre, ev, .int .i64 (las : Int), nv, .int .i64 (sz : Int), .bool dead] 93
  lF : F lb
  ent : w.ownsRow 0 38 1 ev es.length (enOf es)
  each : ∀ r ∈ es, Bs w r.1 r.2 ∧ Byt r.2 ∧ r.2.length ≤ 65536 ∧ ∀ k, r.1.ownBlock = some k → F k ∧ k ≠ lb ∧ ev.ownBlock ≠ some k ∧ nv.ownBlock ≠ some k ∧ k < w.heap.size
  nam : Ot w 0 nv ns
  sep : (∀ k, ev.ownBlock = some k → F k ∧ k ≠ lb ∧ nv.ownBlock ≠ some k) ∧ ∀ k, nv.ownBlock = some k → F k ∧ k ≠ lb
  few : es.length ≤ 10000000 ∧ ns.length ≤ 10000000 ∧ las ≤ 10000000 ∧ sz ≤ 1073741824 ∧ pre.length ≤ 64
variable {w w' : World} {F : Nat → Prop} {lb sb : Nat} {pre : List UInt8} {ev nv : Value} {es : List En} {las : Nat} {ns : List (List UInt8)} {sz : Nat} {dead : Bool}
theorem Lg.keep (h : Lg w F lb sb pre ev nv es las ns sz dead) (hs : w.heap.size ≤ w'.heap.size) (hk : ∀ k, F k → k < w.heap.size → w'.heap[k]? = w.heap[k]?) : Lg w' F lb sb pre ev nv es las ns sz dead := by
  refine ⟨h.blk.keep (hk _ h.lF h.blk.lt), h.lF, Fr.ownsRow_keep h.ent fun k hk' hlt => hk k (h.sep.1 k hk').1 hlt, fun r hr => ?_, Fr.ownsRow_keep h.nam fun k hk' hlt => hk k (h.sep.2 k hk').1 hlt, h.sep, h.few⟩
  have := h.each r hr
  exact ⟨this.1.keep fun k hk' hlt => hk k (this.2.2.2 k hk').1 hlt, this.2.1, this.2.2.1, fun k hk' => by
    have := this.2.2.2 k hk'
    exact ⟨this.1, this.2.1, this.2.2.1, this.2.2.2.1, by omega⟩⟩
theorem Lg.below (h : Lg w F lb sb pre ev nv es las ns sz dead) (hb : Below w.heap.size w w') : Lg w' F lb sb pre ev nv es las ns sz dead := h.keep hb.size fun k _ hk => hb.block k hk
theorem Lg.sm (h : Lg w F lb sb pre ev nv es las ns sz dead) (hs : Sm w w') : Lg w' F lb sb pre ev nv es las ns sz dead := h.keep (by rw [hs.heap]; exact Nat.le_refl _) fun k _ _ => by rw [hs.heap]
theorem Lg.more {G : Nat → Prop} (h : Lg w F lb sb pre ev nv es las ns sz dead) (hg : ∀ k, F k → G k) : Lg w G lb sb pre ev nv es las ns sz dead :=
  ⟨h.blk, hg _ h.lF, h.ent, fun r hr => ⟨(h.each r hr).1, (h.each r hr).2.1, (h.each r hr).2.2.1, fun k hk => ⟨hg _ ((h.each r hr).2.2.2 k hk).1, ((h.each r hr).2.2.2 k hk).2⟩⟩, h.nam, ⟨fun k hk => ⟨hg _ (h.sep.1 k hk).1, (h.sep.1 k hk).2⟩, fun k hk => ⟨hg _ (h.sep.2 k hk).1, (h.sep.2 k hk).2⟩⟩, h.few⟩
theorem Lg.evform (h : Lg w F lb sb pre ev nv es las ns sz dead) : ∃ ao cap, ev = .slice ao es.length cap := by
  rcases h.ent.2 with ⟨rfl, h2⟩ | ⟨g, cap, cur, rfl, _⟩
  · exact ⟨none, 0, by rw [h2]⟩
  · exact ⟨_, cap, rfl⟩
theorem Lg.nvform (h : Lg w F lb sb pre ev nv es las ns sz dead) : ∃ ao cap, nv = .slice ao ns.length cap := h.nam.form

set_option maxHeartbeats 2000000 in
set_option maxRecDepth 100000 in
theorem next_any (w : World) (h : Lg w F lb sb pre ev nv es las ns sz dead) :
    Calls Tryz.prog 49 #[.pointer (some ⟨lb, 0, none⟩)] w fun e w' => e = .returned (.int .i64 ((es.length : Int) + 1)) ∧ w' = w := by
  obtain ⟨ao, cap, rfl⟩ := h.evform
  have c2 : w.cell? ⟨lb, 2, none⟩ = some (.slice ao es.length cap) := h.blk.cell 2
  have q1 : IntKind.i64.wrap ((es.length : Int) + 1) = (es.length : Int) + 1 := by
    have := h.few.1
    rw [IntKind.wrap_i64]; omega
  clear h
  go_enter Tryz.func49, Tryz.ntmps49
  go_wp2
  go_ret
  exact ⟨rfl, rfl⟩
set_option maxHeartbeats 2000000 in
set_option maxRecDepth 100000 in
theorem wants_any (w : World) (h : Lg w F lb sb pre ev nv es las ns sz dead) :
    Calls Tryz.prog 76 #[.pointer (some ⟨lb, 0, none⟩)] w fun e w' => e = .returned (.bool (decide (ns = [] ∨ 512 ≤ sz))) ∧ w' = w := by
  obtain ⟨ao, cap, rfl⟩ := h.nvform
  have c4 : w.cell? ⟨lb, 4, none⟩ = some (.slice ao ns.length cap) := h.blk.cell 4
  have c5 : w.cell? ⟨lb, 5, none⟩ = some (.int .i64 (sz : Int)) := h.blk.cell 5
  clear h
  cases ns with
  | nil =>
    have : decide (([] : List (List UInt8)) = [] ∨ 512 ≤ sz) = true := by simp
    rw [this]
    clear this
    go_enter Tryz.func76, Tryz.ntmps76
    go_wp2
    go_ret
    exact ⟨rfl, rfl⟩
  | cons n ns =>
    have : decide ((n :: ns) = [] ∨ 512 ≤ sz) = decide (512 ≤ sz) := by simp
    rw [this]
    clear this
    have hl : ((((n :: ns).length : Nat) : Int) == 0) = false := by simp; omega
    generalize (n :: ns).length = m at *
    by_cases hz : 512 ≤ sz
    · have hz' : (512 : Int) ≤ (sz : Int) := by omega
      rw [decide_eq_true hz]
      clear hz
      go_enter Tryz.func76, Tryz.ntmps76
      go_wp2
      go_ret
      exact ⟨rfl, rfl⟩
    · have hz' : ¬ (512 : Int) ≤ (sz : Int) := by omega
      rw [decide_eq_false hz]
      clear hz
      go_enter Tryz.func76, Tryz.ntmps76
      go_wp2
      go_ret
      exact ⟨rfl, rfl⟩
def lastN (ns : List (List UInt8)) : List UInt8 := ns.getLast?.getD []
set_option maxHeartbeats 2000000 in
set_option maxRecDepth 100000 in
theorem last_any (w : World) (h : Lg w F lb sb pre ev nv es las ns sz dead) :
    Calls Tryz.prog 57 #[.pointer (some ⟨lb, 0, none⟩)] w fun e w' => e = .returned (encStr (lastN ns)) ∧ Sm w w' := by
  have c4 : w.cell? ⟨lb, 4, none⟩ = some nv := h.blk.cell 4
  rcases h.nam.2 with ⟨rfl, h0⟩ | ⟨g, cap, cur, rfl, hb, hg, hn, hc, hs, ht⟩
  · obtain rfl : ns = [] := List.eq_nil_of_length_eq_zero h0
    clear h
    go_enter Tryz.func57, Tryz.ntmps57
    go_wp2
    go_ret
    exact ⟨rfl, Sm.refl _⟩
  · cases hns : ns.getLast? with
    | none =>
      obtain rfl : ns = [] := List.getLast?_eq_none_iff.1 hns
      clear h
      go_enter Tryz.func57, Tryz.ntmps57
      go_wp2
      go_ret
      exact ⟨rfl, Sm.refl _⟩
    | some n =>
      obtain ⟨m, hm⟩ : ∃ m, ns.length = m + 1 := ⟨ns.length - 1, by cases ns with | nil => cases hns | cons a l => simp⟩
      have hn' : ns[m]? = some n := by
        rw [List.getLast?_eq_getElem?, hm] at hns
        exact hns
      have hR : Hid (encStr (lastN ns) = encStr n) := by
        show _ = _
        rw [lastN, hns]; rfl
      have cn : w.cell? ⟨g, m, none⟩ = some (encStr n) := by
        have := World.ownsRow.cells h.nam (g := g) rfl m (encStr n) (by rw [List.getElem?_map, hn']; rfl)
        simpa [Addr.add_lit] using this
      have f0 := h.few.2.1
      rw [hm] at c4 f0
      have q1 : IntKind.i64.wrap (((m + 1 : Nat) : Int) - 1) = (m : Int) := by rw [IntKind.wrap_i64]; omega
      have hne : ((((m + 1 : Nat)) : Int) == 0) = false := by simp; omega
      have f1 : (0 : Int) ≤ (m : Int) := by omega
      have f2 : (m : Int) < ((m + 1 : Nat) : Int) := by omega
      clear h hs ht hn hc hg hns hm
      go_enter Tryz.func57, Tryz.ntmps57
      go_wp2_with fail
      go_quiet (fail)
      go_wp2
      go_ret
      exact ⟨by rw [hR.out]; rfl, Sm.drewN _ _⟩
def nameN (pre : List UInt8) (n : Nat) : List UInt8 := pre ++ (Lib.decDigits (100000000 + n)).drop 1
def Pw (w : World) : Prop := Lib.TabIs Tryz.prog w "internal/strconv.uint64pow10" .u64 Lib.pow10Tab
theorem Pw.keep (h : Pw w) (hk : ∀ k, k < 8 → w'.heap[k]? = w.heap[k]?) : Pw w' := by
  have hg : Tryz.prog.globalNamed "internal/strconv.uint64pow10" = some 1 := by kernel_rfl
  unfold Pw Lib.TabIs World.var? at h ⊢
  simp only [hg, Option.bind_some] at h ⊢
  rw [hk 1 (by omega)]
  exact h
theorem Pw.below (h : Pw w) (hb : Below w.heap.size w w') (hs : 8 ≤ w.heap.size) : Pw w' := h.keep fun k hk => hb.block k (by omega)
theorem decDigits_pos (u : Nat) : 1 ≤ (Lib.decDigits u).length := by
  rw [Lib.decDigits]
  split <;> simp
set_option maxHeartbeats 2000000 in
set_option maxRecDepth 100000 in
theorem nextName_any (w : World) (h : Lg w F lb sb pre ev nv es las ns sz dead) (hp : Pw w) :
    Calls Tryz.prog 77 #[.pointer (some ⟨lb, 0, none⟩)] w fun e w' => e = .returned (encStr (nameN pre (es.length + 1))) ∧ Below w.heap.size w w' := by
  have CN := fun (w1 : World) (hs : Sm w w1) => next_any w1 (h.sm hs)
  have c1 : w.cell? ⟨lb, 1, none⟩ = some (encStr pre) := h.blk.cell 1
  have hf := h.few
  have q1 : IntKind.i64.wrap (100000000 + ((es.length : Int) + 1)) = ((100000000 + (es.length + 1) : Nat) : Int) := by rw [IntKind.wrap_i64]; omega
  have CI := sh_strconv_Itoa ((100000000 + (es.length + 1) : Nat) : Int) (by omega) (by omega) w.drew hp
  have CN' := CN w.drew ⟨rfl, rfl, rfl, rfl⟩
  have hit : Lib.itoa ((100000000 + (es.length + 1) : Nat) : Int) = Lib.decDigits (100000000 + (es.length + 1)) := Lib.itoa_nonneg _
  rw [hit] at CI
  clear h hit CN hp
  have HR : Hid (nameN pre (es.length + 1) = pre ++ (Lib.decDigits (100000000 + (es.length + 1))).drop 1) := rfl
  have hd1 := decDigits_pos (100000000 + (es.length + 1))
  have hd2 : (Lib.decDigits (100000000 + (es.length + 1))).length ≤ 20 := by
    rw [Lib.decDigits_length]
    exact Lib.nDigits_le20 _ (by omega)
  generalize Lib.decDigits (100000000 + (es.length + 1)) = d at *
  obtain ⟨m, hm⟩ : ∃ m, d.length = m + 1 := ⟨d.length - 1, by omega⟩
  have hsz : (⟨d.toArray⟩ : ByteArray).size = m + 1 := by simp [ByteArray.size, hm]
  have hx1 : (⟨d.toArray⟩ : ByteArray).extract 1 (m + 1) = ⟨(d.drop 1).toArray⟩ := by
    rw [Lib.extract_mk]
    congr 2
    rw [List.take_of_length_le]
    simp [hm]
  have hc1 : w.drew.cell? ⟨lb, 1, none⟩ = some (encStr pre) := c1
  have HAP : Hid ((⟨pre.toArray⟩ : ByteArray) ++ ⟨(d.drop 1).toArray⟩ = ⟨(pre ++ d.drop 1).toArray⟩) := ByteArray.mk_append_mk _ _
  have f1 : (1 : Int) ≤ ((m + 1 : Nat) : Int) := by omega
  have f2 : (0 : Int) ≤ (m : Int) := by omega
  have f3 : (1 : Int) ≤ (m : Int) + 1 := by omega
  have hu : (⟨(d.drop 1).toArray⟩ : ByteArray).size = m := by simp [ByteArray.size, hm]
  have hpz : (⟨pre.toArray⟩ : ByteArray).size = pre.length := by simp [ByteArray.size]
  have f4 : ¬ 9223372036854775807 < pre.length + m := by omega
  have HB : Hid (∀ k os, Below w.heap.size w (grow (w.drew.drewN k) os)) := fun k os => ⟨rfl, rfl, rfl, by show w.heap.size ≤ (w.heap ++ os).size; rw [Array.size_append]; omega, fun j hj => by
    show (w.heap ++ os)[j]? = _
    rw [Array.getElem?_append_left hj]⟩
  have HC : Hid (∀ k os, (grow (w.drew.drewN k) os).cell? ⟨lb, 1, none⟩ = some (encStr pre)) := fun k os => ((HB.out k os).cell (p := ⟨lb, 1, none⟩) (World.block_lt_of_cell? w _ c1)).trans c1
  rw [HR.out]
  clear hd1 hd2 hf HR hm
  generalize ht : (⟨d.toArray⟩ : ByteArray) = t at *
  generalize hv : (⟨(d.drop 1).toArray⟩ : ByteArray) = u at *
  have he : encStr pre = .string ⟨pre.toArray⟩ := rfl
  rw [he] at c1 hc1
  generalize hpb : (⟨pre.toArray⟩ : ByteArray) = pb at *
  clear ht hv
  go_enter Tryz.func77, Tryz.ntmps77
  go_wp2_with fail
  go_region_held3 (fun w' => w'.cell? ⟨lb, 1, none⟩ = some (.string pb)) (first | assumption | exact hc1)
    (first
      | (go_at_call 49; refine CN'.mono ?_; rintro e w1 ⟨rfl, hw1⟩; replace hw1 := hw1.symm; subst hw1)
      | (go_at_call 100; refine CI.mono ?_; rintro e w2 ⟨rfl, k, os, hw2⟩; subst hw2; have hc2 : (grow (w.drew.drewN k) os).cell? ⟨lb, 1, none⟩ = some (.string pb) := (HC.out k os).trans (congrArg some he)))
  go_wp2
  go_ret
  have hb := HB.out k os
  exact ⟨congrArg (fun b => Ending.returned (.string b)) HAP.out, ⟨hb.os, hb.tape, hb.output, hb.size, hb.block⟩⟩
end Go.Proofs.YtnkjhooeklodcaaGreatDoor
end

section
/-
  takeEntry: the entry at the beginning of bytes.
-/
namespace Go.Proofs.YtnkjhooeklodcaaGreatDoor.Fr
open Go.RowKit

theorem numR_suf : ∀ (f k u : Nat) (zs : List Int), ∃ n, n ≤ zs.length ∧ (numR f k u zs).2.1 = zs.drop n
  | 0, _, _, zs => ⟨zs.length, Nat.le_refl _, by simp [numR]⟩
  | _ + 1, _, _, [] => ⟨0, Nat.le_refl _, rfl⟩
  | f + 1, k, u, z :: r => by
    by_cases h : 128 ≤ z
    · rw [numR_more h]
      obtain ⟨n, h1, h2⟩ := numR_suf f (k + 1) (u + (z.toNat % 128) * 128 ^ k) r
      exact ⟨n + 1, by simpa using h1, by rw [h2]; rfl⟩
    · cases hb : badB k z with
      | true => rw [numR_bad h hb]; exact ⟨(z :: r).length, Nat.le_refl _, by simp⟩
      | false => rw [numR_good h hb]; exact ⟨1, by simp, rfl⟩
theorem numR_nil (f k u : Nat) : (numR f k u []).1 = 0 := by cases f <;> rfl
def takeR (n : Int) (zs : List Int) : Option (List Int) := if decE zs = 0 ∧ (numR 10 0 0 (decP zs)).1 = n then some (numR 10 0 0 (decP zs)).2.1 else none
def TkP (w : World) (n : Int) (zs : List Int) (e : Ending) (w' : World) : Prop :=
  (∃ p, takeR n zs = some p ∧ ∃ v, e = .returned (.tuple #[v, .int .i64 (decN zs), .int .i64 0]) ∧ Bs w' v p ∧ Byt p ∧ ∀ k, v.ownBlock = some k → w.heap.size ≤ k ∧ k < w'.heap.size) ∨
  (takeR n zs = none ∧ ∃ v x er, e = .returned (.tuple #[v, x, .int .i64 er]) ∧ er ≠ 0)
set_option maxHeartbeats 2000000 in
set_option maxRecDepth 100000 in
theorem takeEntry_any {F : Nat → Prop} {lb sb : Nat} {pre : List UInt8} {ev nv : Value} {es : List En} {las : Nat} {ns : List (List UInt8)} {sz : Nat} {dead : Bool}
    (sv : Value) (zs : List Int) (w : World) (h : Lg w F lb sb pre ev nv es las ns sz dead) (hb : Bs w sv zs) (hy : Byt zs) (hz : zs.length ≤ 100000000000000) (ht : Tab w) :
    Calls Tryz.prog 111 #[.pointer (some ⟨lb, 0, none⟩), sv] w fun e w' => TkP w ((es.length : Int) + 1) zs e w' ∧ Below w.heap.size w w' := by
  have C1 := dec_any sv zs w hb hy hz ht
  obtain ⟨ao, cap, hsv, hm⟩ := hb.len
  subst hsv
  have hn := decN_le zs
  have hpy := decP_byt hy
  by_cases h1 : decE zs = 0
  · rw [h1] at C1
    have HT : Hid (takeR ((es.length : Int) + 1) zs = if (numR 10 0 0 (decP zs)).1 = (es.length : Int) + 1 then some (numR 10 0 0 (decP zs)).2.1 else none) := by
      show _ = _
      unfold takeR
      simp [h1]
    have hpl : (decP zs).length ≤ 65536 := by
      rw [decP_good h1]
      have := heldN_le (decE_inv h1).1
      simp
      omega
    clear hb hz
    generalize decP zs = P at *
    go_enter Tryz.func111, Tryz.ntmps111
    go_wp2_with fail
    refine C1.mono ?_
    rintro e w1 ⟨ao1, cap1, rfl, ho1, hB1⟩
    go_wp2_with fail
    refine (newReader_any _ P _ ho1.bs (by omega)).mono ?_
    rintro e w2 ⟨rb, rv, rfl, hr2, hB2, hrb, hrv⟩
    have hB02 : Below w.heap.size w w2 := hB1.trans (hB2.mono hB1.size)
    have ho2 := ho1.grew hB2 (Nat.le_refl _)
    go_wp2_with fail
    refine (rnum_any rb rv P w2 hr2 hpy).mono ?_
    rintro e w3 ⟨rfl, v3, hr3, hs3, hv3⟩
    have hB3 : Below w1.heap.size w2 w3 := hs3.below hrb hB2.size
    have hB03 : Below w.heap.size w w3 := hB02.trans (hB3.mono hB1.size)
    have ho3 : Ow w3 w.heap.size (.slice ao1 P.length cap1) P := ho2.keep fun k hk hlt => hs3.block k hlt (by have := (World.ownsRow.lt ho1 k hk).2; omega)
    have h3 := h.below hB03
    have HQ : Hid (∃ n, n ≤ P.length ∧ (numR 10 0 0 P).2.1 = P.drop n) := numR_suf 10 0 0 P
    have HN : Hid (P = [] → (numR 10 0 0 P).1 = 0) := fun e => by rw [e]; exact numR_nil _ _ _
    clear hB02 hB3 hs3 ho2 hr2 hB2 hrv hv3 ht h C1
    generalize numR 10 0 0 P = q at *
    obtain ⟨q1, q2, q3⟩ := q
    simp only at hr3
    by_cases hq : q1 = (es.length : Int) + 1
    · have hne : (q1 != (es.length : Int) + 1) = false := by simp [hq]
      obtain ⟨n, hn1, hn2⟩ := HQ.out
      simp only at hn2
      have hP : P ≠ [] := fun e => by have := HN.out e; simp only at this; omega
      have HT' : Hid (takeR ((es.length : Int) + 1) zs = some q2) := by
        show _ = _
        rw [HT.out]; simp [hq]
      go_wp2_with fail
      refine (next_any w3 h3).mono ?_
      rintro e w4 ⟨rfl, hw4⟩
      obtain rfl := hw4.symm
      go_wp2_with fail
      refine (left_any rb v3 q2 q3 w3 hr3).mono ?_
      rintro e w4 ⟨rfl, hw4⟩
      obtain rfl := hw4.symm
      obtain ⟨ao', cap', hsl, ⟨rfl, rfl, e0⟩ | ⟨g, cur, rfl, hbg, hlg, hg, hn', hc, hs, ht⟩⟩ := ho3.form
      · exact absurd e0 hP
      · cases hsl
        have hb3 := Bs.suffix ho3.bs n hn1 hP
        have hlq : q2.length = P.length - n := by rw [hn2]; simp
        rw [hlq]
        have w1' : IntKind.i64.wrap ((P.length : Int) - ((P.length - n : Nat) : Int)) = (n : Int) := by rw [IntKind.wrap_i64]; omega
        have f1 : (0 : Int) ≤ (n : Int) := by omega
        have f2 : (n : Int) ≤ (P.length : Int) := by omega
        have HL : Hid (q2.length = P.length - n) := hlq
        have HB : Hid (Bs w4 (.slice (some ⟨g, 0 + n, none⟩) (P.length - n) (cap1 - n)) q2) := by rw [hn2]; exact hb3
        have HY : Hid (Byt q2) := by rw [hn2]; exact hpy.drop n
        clear hb3 hn2 hs ht hg ho3 ho1 hr3 h3 hq hne HN HQ hP hpy hlq
        go_wp2_with fail
        · rename_i hcn
          go_ret3
          have h0 : P.length - n = 0 := by omega
          have hq2 : q2 = [] := List.eq_nil_of_length_eq_zero (by rw [HL.out]; exact h0)
          refine ⟨Or.inl ⟨q2, HT'.out, .slice (some ⟨g, 0, none⟩) (P.length - n) 0, rfl, ?_, HY.out, ?_⟩, hB03⟩
          · exact Or.inl ⟨hq2, _, 0, by rw [h0], by unfold maxLen; omega, fun e => by cases e⟩
          · intro k hk
            obtain rfl : g = k := by simpa [Value.ownBlock] using hk
            exact ⟨hbg, hlg⟩
        · go_ret3
          refine ⟨Or.inl ⟨q2, HT'.out, .slice (some ⟨g, n, none⟩) (P.length - n) (cap1 - n), rfl, ?_, HY.out, ?_⟩, hB03⟩
          · have := HB.out
            rw [Nat.zero_add] at this
            exact this
          · intro k hk
            obtain rfl : g = k := by simpa [Value.ownBlock] using hk
            exact ⟨hbg, hlg⟩
    · have hne : (q1 != (es.length : Int) + 1) = true := by simp [hq]
      have HT' : Hid (takeR ((es.length : Int) + 1) zs = none) := by
        show _ = _
        rw [HT.out]; simp [hq]
      go_wp2_with fail
      refine (next_any w3 h3).mono ?_
      rintro e w4 ⟨rfl, hw4⟩
      obtain rfl := hw4.symm
      clear hq
      go_wp2_with fail
      go_ret3
      exact ⟨Or.inr ⟨HT'.out, _, _, _, rfl, by decide⟩, hB03⟩
  · have HT' : Hid (takeR ((es.length : Int) + 1) zs = none) := by
      show _ = _
      unfold takeR
      simp [h1]
    have hne : (decE zs != 0) = true := by simp [h1]
    clear hb hz
    generalize decE zs = er at *
    go_enter Tryz.func111, Tryz.ntmps111
    go_wp2_with fail
    refine C1.mono ?_
    rintro e w1 ⟨ao1, cap1, rfl, ho1, hB1⟩
    go_wp2_with fail
    go_ret3
    exact ⟨Or.inr ⟨HT'.out, _, _, _, rfl, h1⟩, hB1⟩
end Go.Proofs.YtnkjhooeklodcaaGreatDoor.Fr
end

section
/-
  What a store leaves of a log: an entry more, a name more, another size.
-/
namespace Go.Proofs.YtnkjhooeklodcaaGreatDoor
open Go.RowKit Go.Maps Go.Sort

variable {w w' : World} {F : Nat → Prop} {lb sb : Nat} {pre : List UInt8} {ev nv : Value} {es : List En} {las : Nat} {ns : List (List UInt8)} {sz : Nat} {dead : Bool}
theorem set_other (w : World) (lb i k : Nat) (v : Value) (h : k ≠ lb) : (w.setCell ⟨lb, i, none⟩ v).heap[k]? = w.heap[k]? := Below.heap_setCell _ _ _ _ h
theorem set_size (w : World) (lb i : Nat) (v : Value) : (w.setCell ⟨lb, i, none⟩ v).heap.size = w.heap.size := by simp [World.setCell]
theorem wpList_append_en (w : World) {ops : Array Oper} {rest : List Oper} {o : Oper} {a : Act} {Q : Exit → Act → World → Prop} (hgd : o.guard = none) (s x : Operand)
    (ho : o.op = .call { callee := .builtin .append, args := #[s, x], argTypes := #[29, 29] })
    (v : Value) (n : Nat) (us : List Value) (hs : a.eval s = v) (hown : w.ownsRow 0 38 1 v n us) (B : Nat) (u : Value) (hu1 : u.oneCell' = true) (hx : a.eval x = .slice (some ⟨B, 0, none⟩) 1 1) (hb : w.cell? ⟨B, 0, none⟩ = some u)
    (h63 : n ≤ 1000000000)
    (h : ∀ ao cap w', w'.ownsRow 0 38 1 (.slice ao (n + 1) cap) (n + 1) (us ++ [u]) → w.grownBy w' v.ownBlock → ((Value.slice ao (n + 1) cap).ownBlock = v.ownBlock ∨ (Value.slice ao (n + 1) cap).ownBlock = some w.heap.size) →
      wpList Tryz.prog ops Q rest (a.put o.dst (.slice ao (n + 1) cap)) w') : wpList Tryz.prog ops Q (o :: rest) a w := by
  obtain ⟨i0, hi, hz0, hz1, hz2⟩ := info_parts Fr.Tz.info22
  obtain ⟨v', w', hrun, h2, h3, _, h5⟩ := run_append_own_at (P := Tryz.prog) w 0 29 o.type 38 i0 (.slice none 0 0) 1 24 Tryz.underlying29 hi hz0 hz1 hz2 rfl (by decide) v n us hown ⟨B, 0, none⟩ 1 1 [u] rfl
    (by intro j y hy
        cases j with
        | zero => rw [Addr.add_lit]; simp at hy; subst hy; exact hb
        | succ j => simp at hy) (by intro y hy; simp at hy; subst hy; exact hu1) (by unfold maxLen; omega) (by omega) (Nat.zero_le _)
  have hv' : ∃ ao cap, v' = .slice ao (n + 1) cap := by
    rcases h2.2 with ⟨_, h6⟩ | ⟨g, cap, cur, h6, _⟩
    · omega
    · exact ⟨some ⟨g, 0, none⟩, cap, h6⟩
  obtain ⟨ao, cap, rfl⟩ := hv'
  refine wpList_plain hgd fun _ hK => ?_
  unfold Oper.wp execOp
  simp only [ho, resolve, invoke, builtin, Sem.run_bind, Sem.run_pure, Result.andThen_ok, List.map_toArray, List.map_cons, List.map_nil, hs, hx, hrun]
  exact hK _ _ (h ao cap w' h2 h3 h5)
theorem wpList_append_nm (w : World) {ops : Array Oper} {rest : List Oper} {o : Oper} {a : Act} {Q : Exit → Act → World → Prop} (hgd : o.guard = none) (s x : Operand)
    (ho : o.op = .call { callee := .builtin .append, args := #[s, x], argTypes := #[69, 69] })
    (base : Nat) (v : Value) (ss : List (List UInt8)) (hs : a.eval s = v) (hown : Ot w base v ss) (B : Nat) (n : List UInt8) (hx : a.eval x = .slice (some ⟨B, 0, none⟩) 1 1) (hb : w.cell? ⟨B, 0, none⟩ = some (encStr n))
    (h63 : ss.length ≤ 1000000000) (hbase : base ≤ w.heap.size)
    (h : ∀ ao cap w', Ot w' base (.slice ao (ss.length + 1) cap) (ss ++ [n]) → w.grownBy w' v.ownBlock → ((Value.slice ao (ss.length + 1) cap).ownBlock = v.ownBlock ∨ (Value.slice ao (ss.length + 1) cap).ownBlock = some w.heap.size) →
      wpList Tryz.prog ops Q rest (a.put o.dst (.slice ao (ss.length + 1) cap)) w') : wpList Tryz.prog ops Q (o :: rest) a w := by
  obtain ⟨i0, hi, hz0, hz1, hz2⟩ := info_parts Tryz.info9p
  obtain ⟨v', w', hrun, h2, h3, _, h5⟩ := run_append_own_at (P := Tryz.prog) w base 69 o.type 9 i0 (.string ⟨#[]⟩) 1 16 Tryz.underlying69 hi hz0 hz1 hz2 rfl (by decide) v ss.length (ss.map encStr) hown ⟨B, 0, none⟩ 1 1 [encStr n] rfl
    (by intro j u hu
        cases j with
        | zero => rw [Addr.add_lit]; simp at hu; subst hu; exact hb
        | succ j => simp at hu) (by intro u hu; simp at hu; subst hu; rfl) (by unfold maxLen; omega) (by omega) hbase
  have h2' : Ot w' base v' (ss ++ [n]) := by
    unfold Ot
    rw [List.length_append]
    simpa using h2
  obtain ⟨ao, cap, hv⟩ := h2'.form
  rw [List.length_append] at hv
  subst hv
  refine wpList_plain hgd fun _ hK => ?_
  unfold Oper.wp execOp
  simp only [ho, resolve, invoke, builtin, Sem.run_bind, Sem.run_pure, Result.andThen_ok, List.map_toArray, List.map_cons, List.map_nil, hs, hx, hrun]
  exact hK _ _ (h ao cap w' h2' h3 h5)
theorem Lg.add (h : Lg w F lb sb pre ev nv es las ns sz dead) (u : Value) (p : List Int) (hu : Bs w u p) (hy : Byt p) (hl : p.length ≤ 65536)
    (huF : ∀ k, u.ownBlock = some k → F k ∧ k ≠ lb ∧ ev.ownBlock ≠ some k ∧ nv.ownBlock ≠ some k ∧ k < w.heap.size)
    (w2 : World) (ev' : Value) (hrow : w2.ownsRow 0 38 1 ev' (es.length + 1) (enOf es ++ [u])) (hg : w.grownBy w2 ev.ownBlock) (hat : ev'.ownBlock = ev.ownBlock ∨ ev'.ownBlock = some w.heap.size) (hF : F w.heap.size) (hf : es.length + 1 ≤ 10000000) :
    Lg (w2.setCell ⟨lb, 2, none⟩ ev') F lb sb pre ev' nv (es ++ [(u, p)]) las ns sz dead := by
  have hlb := h.blk.lt
  have hne : ∀ k, ev'.ownBlock = some k → k ≠ lb ∧ (ev.ownBlock = some k ∨ k = w.heap.size) := by
    intro k hk
    rcases hat with e | e
    · rw [e] at hk
      exact ⟨(h.sep.1 k hk).2.1, Or.inl hk⟩
    · rw [e] at hk
      have := Option.some.inj hk
      exact ⟨by omega, Or.inr this.symm⟩
  have hkeep : ∀ k, k < w.heap.size → ev.ownBlock ≠ some k → k ≠ lb → (w2.setCell ⟨lb, 2, none⟩ ev').heap[k]? = w.heap[k]? := fun k h1 h2 h3 => (set_other _ _ _ _ _ h3).trans (hg.block k h1 fun e => h2 e.symm)
  have hb2 : Cw w2 lb _ 93 := h.blk.keep (hg.block lb hlb fun e => (h.sep.1 lb e.symm).2.1 rfl)
  have hsz : w.heap.size ≤ (w2.setCell ⟨lb, 2, none⟩ ev').heap.size := by rw [set_size]; exact hg.size
  have hnv : ∀ k, nv.ownBlock = some k → k < w.heap.size := fun k hk => (World.ownsRow.lt h.nam k hk).2
  refine ⟨hb2.set 2 ev', h.lF, ?_, fun r hr => ?_, ?_, ⟨fun k hk => ?_, h.sep.2⟩, ⟨by simpa using hf, h.few.2⟩⟩
  · have e1 : (es ++ [(u, p)]).length = es.length + 1 := by simp
    have e2 : enOf (es ++ [(u, p)]) = enOf es ++ [u] := by simp [enOf]
    rw [e1, e2]
    exact Fr.ownsRow_keep hrow fun k hk _ => set_other _ _ _ _ _ (hne k hk).1
  · have key : Bs w r.1 r.2 ∧ Byt r.2 ∧ r.2.length ≤ 65536 ∧ ∀ k, r.1.ownBlock = some k → F k ∧ k ≠ lb ∧ ev.ownBlock ≠ some k ∧ nv.ownBlock ≠ some k ∧ k < w.heap.size := by
      rcases List.mem_append.1 hr with hm | hm
      · exact h.each r hm
      · obtain rfl : r = (u, p) := by simpa using hm
        exact ⟨hu, hy, hl, huF⟩
    obtain ⟨k1, k2, k3, k4⟩ := key
    refine ⟨k1.keep fun k hk hlt => hkeep k hlt (k4 k hk).2.2.1 (k4 k hk).2.1, k2, k3, fun k hk => ⟨(k4 k hk).1, (k4 k hk).2.1, fun e => ?_, (k4 k hk).2.2.2.1, by have := (k4 k hk).2.2.2.2; omega⟩⟩
    rcases (hne k e).2 with e' | e'
    · exact (k4 k hk).2.2.1 e'
    · have := (k4 k hk).2.2.2.2
      omega
  · exact Fr.ownsRow_keep h.nam fun k hk hlt => hkeep k hlt (fun e => (h.sep.1 k e).2.2 hk) (h.sep.2 k hk).2
  · rcases (hne k hk).2 with e | e
    · exact h.sep.1 k e
    · subst e
      exact ⟨hF, by omega, fun e => by have := hnv _ e; omega⟩
theorem Lg.addN (h : Lg w F lb sb pre ev nv es las ns sz dead) (n : List UInt8)
    (w2 : World) (nv' : Value) (hrow : Ot w2 0 nv' (ns ++ [n])) (hg : w.grownBy w2 nv.ownBlock) (hat : nv'.ownBlock = nv.ownBlock ∨ nv'.ownBlock = some w.heap.size) (hF : F w.heap.size) (hf : ns.length + 1 ≤ 10000000) :
    Lg (w2.setCell ⟨lb, 4, none⟩ nv') F lb sb pre ev nv' es las (ns ++ [n]) sz dead := by
  have hlb := h.blk.lt
  have hne : ∀ k, nv'.ownBlock = some k → k ≠ lb ∧ (nv.ownBlock = some k ∨ k = w.heap.size) := by
    intro k hk
    rcases hat with e | e
    · rw [e] at hk
      exact ⟨(h.sep.2 k hk).2, Or.inl hk⟩
    · rw [e] at hk
      have := Option.some.inj hk
      exact ⟨by omega, Or.inr this.symm⟩
  have hkeep : ∀ k, k < w.heap.size → nv.ownBlock ≠ some k → k ≠ lb → (w2.setCell ⟨lb, 4, none⟩ nv').heap[k]? = w.heap[k]? := fun k h1 h2 h3 => (set_other _ _ _ _ _ h3).trans (hg.block k h1 fun e => h2 e.symm)
  have hb2 : Cw w2 lb _ 93 := h.blk.keep (hg.block lb hlb fun e => (h.sep.2 lb e.symm).2 rfl)
  have hsz : w.heap.size ≤ (w2.setCell ⟨lb, 4, none⟩ nv').heap.size := by rw [set_size]; exact hg.size
  have hev : ∀ k, ev.ownBlock = some k → k < w.heap.size := fun k hk => (World.ownsRow.lt h.ent k hk).2
  refine ⟨hb2.set 4 nv', h.lF, ?_, fun r hr => ?_, ?_, ⟨fun k hk => ?_, fun k hk => ?_⟩, ⟨h.few.1, by simpa using hf, h.few.2.2⟩⟩
  · exact Fr.ownsRow_keep h.ent fun k hk hlt => hkeep k hlt (h.sep.1 k hk).2.2 (h.sep.1 k hk).2.1
  · obtain ⟨k1, k2, k3, k4⟩ := h.each r hr
    refine ⟨k1.keep fun k hk hlt => hkeep k hlt (k4 k hk).2.2.2.1 (k4 k hk).2.1, k2, k3, fun k hk => ⟨(k4 k hk).1, (k4 k hk).2.1, (k4 k hk).2.2.1, fun e => ?_, by have := (k4 k hk).2.2.2.2; omega⟩⟩
    rcases (hne k e).2 with e' | e'
    · exact (k4 k hk).2.2.2.1 e'
    · have := (k4 k hk).2.2.2.2
      omega
  · exact Fr.ownsRow_keep hrow fun k hk _ => set_other _ _ _ _ _ (hne k hk).1
  · refine ⟨(h.sep.1 k hk).1, (h.sep.1 k hk).2.1, fun e => ?_⟩
    rcases (hne k e).2 with e' | e'
    · exact (h.sep.1 k hk).2.2 e'
    · have := hev k hk
      omega
  · rcases (hne k hk).2 with e | e
    · exact h.sep.2 k e
    · subst e
      exact ⟨hF, by omega⟩
theorem Lg.set1 (h : Lg w F lb sb pre ev nv es las ns sz dead) (i : Nat) (v : Value) (las' sz' : Nat) (dead' : Bool) (hf : las' ≤ 10000000 ∧ sz' ≤ 1073741824)
    (hc : [.pointer (some ⟨sb, 0, none⟩), encStr pre, ev, .int .i64 (las' : Int), nv, .int .i64 (sz' : Int), .bool dead'] = ([.pointer (some ⟨sb, 0, none⟩), encStr pre, ev, .int .i64 (las : Int), nv, .int .i64 (sz : Int), .bool dead] : List Value).set i v) :
    Lg (w.setCell ⟨lb, i, none⟩ v) F lb sb pre ev nv es las' ns sz' dead' := by
  refine ⟨by rw [hc]; exact h.blk.set i v, h.lF, Fr.ownsRow_keep h.ent fun k hk _ => set_other _ _ _ _ _ (h.sep.1 k hk).2.1, fun r hr => ?_, Fr.ownsRow_keep h.nam fun k hk _ => set_other _ _ _ _ _ (h.sep.2 k hk).2, h.sep, ⟨h.few.1, h.few.2.1, hf.1, hf.2, h.few.2.2.2.2⟩⟩
  obtain ⟨k1, k2, k3, k4⟩ := h.each r hr
  exact ⟨k1.keep fun k hk hlt => set_other _ _ _ _ _ (k4 k hk).2.1, k2, k3, fun k hk => by rw [set_size]; exact k4 k hk⟩
theorem Lg.setSz (h : Lg w F lb sb pre ev nv es las ns sz dead) (m : Nat) (hm : m ≤ 1073741824) : Lg (w.setCell ⟨lb, 5, none⟩ (.int .i64 (m : Int))) F lb sb pre ev nv es las ns m dead := h.set1 5 _ las m dead ⟨h.few.2.2.1, hm⟩ rfl
theorem Lg.setLas (h : Lg w F lb sb pre ev nv es las ns sz dead) (m : Nat) (hm : m ≤ 10000000) : Lg (w.setCell ⟨lb, 3, none⟩ (.int .i64 (m : Int))) F lb sb pre ev nv es m ns sz dead := h.set1 3 _ m sz dead ⟨hm, h.few.2.2.2.1⟩ rfl
theorem Lg.kill (h : Lg w F lb sb pre ev nv es las ns sz dead) : Lg (w.setCell ⟨lb, 6, none⟩ (.bool true)) F lb sb pre ev nv es las ns sz true := h.set1 6 _ las sz true ⟨h.few.2.2.1, h.few.2.2.2.1⟩ rfl
end Go.Proofs.YtnkjhooeklodcaaGreatDoor
end
