/-
  Joined from: SegKit, SegIn, TwiceProof.
-/
import Derived.Test.YtnkjhooeklodcaaGreatDoorCards
import Derived.Test.YtnkjhooeklodcaaGreatDoorTie
import Derived.Test.YtnkjhooeklodcaaGreatDoorM48
import Derived.WalkKit
import Derived.ProofKit
import Derived.OpenShut
import Derived.ChangeOld
import Derived.Deep.DeepHandedRow
import Derived.Lib.LaidTab
import Derived.Lib.LaidU8
import Derived.Lay
import Derived.LaidMore
import Derived.Test.YtnkjhooeklodcaaGreatDoorM28
import Derived.Test.YtnkjhooeklodcaaGreatDoorM51
section
/-
  What every row of this seat shares: the listed tables as cells (Cx), a world for the witness, slices of bytes that came in (Bs).
-/
namespace Go.Proofs.YtnkjhooeklodcaaGreatDoor
open Go.ChangeShapes Go.WideShapes Go.ChangeAt Go.RowKit

theorem own : ownKnob Tryz.prog.godebug = none := by kernel_rfl
theorem laidOut : laidOutB Tryz.prog = true := by kernel_rfl
abbrev laidL : List (String × DataW Unit) := [("math/bits.deBruijn32tab", Rows.laid_math_bits_deBruijn32tab), ("math/bits.deBruijn64tab", Rows.laid_math_bits_deBruijn64tab), ("internal/strconv.uint64pow10", Rows.laid_internal_strconv_uint64pow10), ("unicode/utf8.acceptRanges", Rows.laid_unicode_utf8_acceptRanges), ("gauntlet/octet.sumSteps", Rows.laid_gauntlet_octet_sumSteps), ("unicode/utf8.first", Rows.laid_unicode_utf8_first)]
theorem tabIs_of_reads {W : World} {name : String} {k : IntKind} {zs : List Int} {g : Nat} {t e : TypeId} {n : Nat}
    (hg : Tryz.prog.globalNamed name = some g) (hty : (Tryz.prog.globals[g]?).map (·.type) = some t) (ht : Tryz.prog.underlying t = some (.array n e)) (he : Tryz.prog.underlying e = some (.int k)) (hce : Tryz.prog.cellsOf e = 1) (hct : Tryz.prog.cellsOf t = n)
    (h : Lib.VarReads Tryz.prog W name (Lib.tabData k zs)) : Lib.TabIs Tryz.prog W name k zs := by
  obtain ⟨g', t', cs, fuel, p, hg', ht', hvar, hd⟩ := h
  obtain rfl := Option.some.inj (hg.symm.trans hg')
  obtain rfl := Option.some.inj (hty.symm.trans ht')
  unfold Lib.TabIs
  rw [hvar, ← Lib.cells_of_tab ht he hce hct hd]
theorem und136 : Tryz.prog.underlying 136 = some (.int .u32) := by kernel_rfl
theorem und115 : Tryz.prog.underlying 115 = some (.int .u64) := by kernel_rfl
theorem und195 : Tryz.prog.underlying 195 = some (.array 16 136) := by kernel_rfl
theorem und226 : Tryz.prog.underlying 226 = some (.array 20 115) := by kernel_rfl
def stepsI : List Int := [0, 274646895, 549293790, 820201905, 1098587580, 1361435347, 1640403810, 1905808397, 2197175160, 2460548119, 2722870694, 2987750089, 3280807620, 3553878443, 3811616794, 4084100981]
def powI : List Int := [1, 10, 100, 1000, 10000, 100000, 1000000, 10000000, 100000000, 1000000000, 10000000000, 100000000000, 1000000000000, 10000000000000, 100000000000000, 1000000000000000, 10000000000000000, 100000000000000000, 1000000000000000000, 10000000000000000000]
theorem powI_eq : powI = Lib.pow10Tab := by decide
theorem cx_in {W : World} (h : laidMetH Tryz.prog laidL W) (hs : W.ShapedOpen Tryz.prog) : Cx W W.heap.size := by
  have hh : laidMet Tryz.prog laidL W := h
  have h1 := Lib.laidMet.reads hh (n := "gauntlet/octet.sumSteps") (d := Rows.laid_gauntlet_octet_sumSteps) (by simp [laidL])
  have h2 := Lib.laidMet.reads hh (n := "internal/strconv.uint64pow10") (d := Rows.laid_internal_strconv_uint64pow10) (by simp [laidL])
  have t1 : Lib.TabIs Tryz.prog W "gauntlet/octet.sumSteps" .u32 stepsI :=
    tabIs_of_reads (g := 0) (by kernel_rfl) (by kernel_rfl) und195 und136 (by kernel_rfl) (by kernel_rfl) h1
  have t2 : Lib.TabIs Tryz.prog W "internal/strconv.uint64pow10" .u64 powI :=
    tabIs_of_reads (g := 1) (by kernel_rfl) (by kernel_rfl) und226 und115 (by kernel_rfl) (by kernel_rfl) h2
  refine ⟨fun i hi => ?_, ?_, ?_, Nat.le_refl _⟩
  · have hc := t1.cell (g := 0) (by kernel_rfl) i (by simpa [stepsI] using hi)
    have : ∀ i : Fin 16, stepsI.getD i.val 0 = ((Fr.stepsN.getD i.val 0 : Nat) : Int) := by decide
    rw [← this ⟨i, hi⟩]
    exact hc
  · unfold Pw
    rw [← powI_eq]
    exact t2
  · obtain ⟨o, _, hx, _⟩ := hs.2 7 (by decide +kernel) (by decide +kernel)
    have := (Array.getElem?_eq_some_iff.1 hx).1
    omega
theorem wf_u8 {z : Int} (h : (Lit.int .u8 z).wf = true) : 0 ≤ z ∧ z < 256 := by
  have := bounds_u8 h
  omega
theorem bs_in {H : Type} {enc : TypeId × Value → H} {W : World} {a : Option Addr} {len cap : Nat} {d : DataW H} {p : List MemPlace} (h : DataW.Trod enc Tryz.prog W 0 (fun _ => true) true 38 (.slice a len cap) d p) :
    ∃ zs, Bs W (.slice a len cap) zs ∧ Byt zs := by
  obtain ⟨fuel, hf⟩ := h
  rcases open_ints Tryz.underlying38 Tryz.underlying5 (by kernel_rfl) hf with ⟨hcs, _⟩ | ⟨x, l, c, zs, hcs, _, hl, hm, hz, _, hcell, hwz⟩
  · simp [Value.cells] at hcs
    obtain ⟨rfl, rfl, rfl⟩ := hcs
    exact ⟨[], Or.inl ⟨rfl, none, 0, rfl, by simp [maxLen], fun _ => rfl⟩, fun z hz => by cases hz⟩
  · simp [Value.cells] at hcs
    obtain ⟨rfl, rfl, rfl⟩ := hcs
    have hz' : zs.length = cap := by simpa using hz
    have htl : (zs.take len).length = len := by simp; omega
    refine ⟨zs.take len, ?_, fun z hz2 => wf_u8 (hwz z (List.mem_of_mem_take hz2))⟩
    by_cases h0 : len = 0
    · subst h0
      exact Or.inl ⟨by simp, _, cap, rfl, hm, fun e => by cases e⟩
    · obtain ⟨b, off, spot⟩ := x
      have hc := hcell 0 (by omega)
      have hspot : spot = none := by simpa [Addr.add] using World.cell?_spot hc
      subst hspot
      refine Or.inr ⟨fun e => by rw [e] at htl; simp at htl; omega, b, off, cap, by rw [htl], by omega, hm, fun i hi => ?_⟩
      have hci := hcell i (by omega)
      rw [Addr.add_lit] at hci
      rw [hci]
      have : (zs.take len).getD i 0 = zs.getD i 0 := by simp [List.getD, show i < len by omega]
      rw [this]
end Go.Proofs.YtnkjhooeklodcaaGreatDoor
end

section
/-
  Rows of bytes, and numbers, that came in as arguments: opened.
-/
namespace Go.Proofs.YtnkjhooeklodcaaGreatDoor
open Go.ChangeShapes Go.WideShapes Go.ChangeAt Go.RowKit
variable {H : Type} {enc : TypeId × Value → H} {W : World}

theorem len_reach {H : Type} {enc : TypeId × Value → H} {W : World} {a : Option Addr} {len cap : Nat} {d : DataW H} {p : List MemPlace} (h : DataW.Trod enc Tryz.prog W 0 (fun _ => true) true 38 (.slice a len cap) d p) (hw : ∀ x ∈ DataW.weights Tryz.prog 38 d, x ≤ reachBytes) : len ≤ 140737488355328 := by
  obtain ⟨fuel, hf⟩ := h
  rcases open_ints Tryz.underlying38 Tryz.underlying5 (by kernel_rfl) hf with ⟨hcs, _⟩ | ⟨x, l, c, zs, hcs, _, hl, hm, hz, hx, hcell, hwz⟩
  · simp [Value.cells] at hcs
    omega
  · simp [Value.cells] at hcs
    obtain ⟨rfl, rfl, rfl⟩ := hcs
    have hb5 : Tryz.prog.bytesOf 5 = 1 := by kernel_rfl
    have hd : d = .slice (lits .u8 (zs.take len)) (lits .u8 (zs.drop len)) := congrArg Prod.fst hx
    have hmem : ((lits (H := H) .u8 (zs.take len)).length + (lits (H := H) .u8 (zs.drop len)).length) * Tryz.prog.bytesOf 5 ∈ DataW.weights Tryz.prog 38 d := by
      rw [hd]
      simp [DataW.weights, Tryz.underlying38]
    have := hw _ hmem
    rw [hb5] at this
    simp only [reachBytes] at this
    have hzl : zs.length = cap := by simpa using hz
    simp [lits] at this
    omega

theorem weightsAll_mem {P : Program} {t : TypeId} {d : DataW H} : ∀ {l : List (DataW H)}, d ∈ l → ∀ x ∈ DataW.weights P t d, x ∈ DataW.weightsAll P t l
  | e :: l, h, x, hx => by
    simp only [DataW.weightsAll, List.mem_append]
    rcases List.mem_cons.1 h with rfl | h
    · exact Or.inl hx
    · exact Or.inr (weightsAll_mem h x hx)
theorem cells38 : Tryz.prog.cellsOf 38 = 1 := by kernel_rfl
theorem bytes38 : Tryz.prog.bytesOf 38 = 24 := by kernel_rfl
theorem slice_form {fuel : Nat} {c : Value} {x : DataW H × List MemPlace} (h : DataW.trod enc Tryz.prog W 0 (fun _ => true) true fuel 38 [c] = some x) : ∃ a len cap, c = .slice a len cap := by
  rcases DataW.trod_slice Tryz.underlying38 h with ⟨hc, _⟩ | ⟨a, len, cap, elems, rest, n, _, hc, _⟩
  · simp at hc; exact ⟨none, 0, 0, hc⟩
  · simp at hc; exact ⟨_, _, _, hc⟩
theorem rows_in {a : Option Addr} {len cap : Nat} {d : DataW H} {p : List MemPlace} (h0 : DataW.Trod enc Tryz.prog W 0 (fun _ => true) true 29 (.slice a len cap) d p) (hw : ∀ x ∈ DataW.weights Tryz.prog 29 d, x ≤ reachBytes) : ∃ rs, Rs W (.slice a len cap) rs ∧ rs.length = len := by
  obtain ⟨fuel, h⟩ := h0
  rcases DataW.trod_slice Tryz.underlying29 h with ⟨hc, _⟩ | ⟨a1, len1, cap1, elems, rest, n, _, hc, hx, _, hl, hm, hle, hel, _, _⟩
  · simp [Value.cells] at hc
    obtain ⟨rfl, rfl, rfl⟩ := hc
    exact ⟨[], ⟨none, 0, rfl, by simp, fun r hr => (by cases hr), fun e => absurd rfl e⟩, rfl⟩
  · simp [Value.cells] at hc
    obtain ⟨rfl, rfl, rfl⟩ := hc
    simp only [Prod.mk.injEq] at hx
    rw [cells38] at hel
    have hlen : len ≤ 140737488355328 := by
      have := hw (((elems.map (·.1)).length + (rest.map (·.1)).length) * Tryz.prog.bytesOf 38) (by
        rw [hx.1]
        simp [DataW.weights, Tryz.underlying29])
      rw [bytes38] at this
      simp only [reachBytes] at this
      simp at this
      omega
    have each : ∀ i, i < len → ∃ r : Rw, RwOk W r ∧ W.cell? (a1.add i) = some r.1 := by
      intro i hi
      have h1 := hel i hi
      rw [List.getElem?_eq_getElem (by omega)] at h1
      obtain ⟨cs, hcs, ht⟩ := Option.bind_eq_some_iff.1 h1
      have hwi : ∀ x ∈ DataW.weights Tryz.prog 38 elems[i].1, x ≤ reachBytes := by
        intro x hxx
        refine hw x ?_
        rw [hx.1]
        simp only [DataW.weights, Tryz.underlying29, List.mem_cons, List.mem_append]
        exact Or.inr (Or.inl (weightsAll_mem (List.mem_map.2 ⟨elems[i], List.getElem_mem _, rfl⟩) x hxx))
      obtain ⟨_, hcl, hcell⟩ := World.cells?_some hcs
      match cs, hcl with
      | [c], _ =>
        obtain ⟨a2, len2, cap2, rfl⟩ := slice_form ht
        have ht' : DataW.Trod enc Tryz.prog W 0 (fun _ => true) true 38 (.slice a2 len2 cap2) elems[i].1 elems[i].2 := ⟨_, ht⟩
        obtain ⟨zs, hbs, hby⟩ := bs_in ht'
        have hln := len_reach ht' hwi
        have e0 : zs.length = len2 := by obtain ⟨_, _, hv, _⟩ := hbs.len; simp only [Value.slice.injEq] at hv; exact hv.2.1.symm
        refine ⟨(.slice a2 len2 cap2, zs), ⟨hbs, hby, by rw [e0]; exact hln⟩, ?_⟩
        have := hcell 0 (by simp)
        have e1 : (a1.add i).add 0 = a1.add i := by simp [Addr.add]
        simpa [e1] using this
    by_cases h0 : len = 0
    · subst h0
      exact ⟨[], ⟨some a1, cap, rfl, by simp, fun r hr => (by cases hr), fun e => absurd rfl e⟩, rfl⟩
    · obtain ⟨f0, _, hf0⟩ := each 0 (by omega)
      obtain ⟨b, off, spot⟩ := a1
      have hspot : spot = none := by simpa [Addr.add] using World.cell?_spot hf0
      subst hspot
      have hfl : ((List.range len).attach.map (fun i => Classical.choose (each i.1 (List.mem_range.1 i.2)))).length = len := by simp
      have hsp : ∀ i r, ((List.range len).attach.map (fun i => Classical.choose (each i.1 (List.mem_range.1 i.2))))[i]? = some r → RwOk W r ∧ W.cell? ⟨b, off + i, none⟩ = some r.1 := by
        intro i r hr
        have hi : i < len := by have := (List.getElem?_eq_some_iff.1 hr).1; omega
        have hre : r = Classical.choose (each i hi) := by
          rw [List.getElem?_map, List.getElem?_eq_getElem (by simpa using hi)] at hr
          simp at hr
          exact hr.symm
        have hs := Classical.choose_spec (each i hi)
        rw [← hre, Addr.add_lit] at hs
        exact hs
      refine ⟨_, ⟨some ⟨b, off, none⟩, cap, by rw [hfl], by rw [hfl]; exact hlen, fun r hr => ?_, fun _ => ⟨b, off, rfl, fun i r hr => (hsp i r hr).2⟩⟩, hfl⟩
      obtain ⟨i, hi⟩ := List.getElem?_of_mem hr
      exact (hsp i r hi).1
theorem ints_in {a : Option Addr} {len cap : Nat} {d : DataW H} {p : List MemPlace} (h : DataW.Trod enc Tryz.prog W 0 (fun _ => true) true 30 (.slice a len cap) d p) : ∃ ns, Is W (.slice a len cap) ns := by
  obtain ⟨fuel, hf⟩ := h
  rcases open_ints Tryz.underlying30 Tryz.underlying3 (by kernel_rfl) hf with ⟨hcs, _⟩ | ⟨x, l, c, zs, hcs, _, hl, hm, hz, _, hcell, hwz⟩
  · simp [Value.cells] at hcs
    obtain ⟨rfl, rfl, rfl⟩ := hcs
    exact ⟨[], none, 0, rfl, by simp [maxLen], fun n hn => (by cases hn), fun e => absurd rfl e⟩
  · simp [Value.cells] at hcs
    obtain ⟨rfl, rfl, rfl⟩ := hcs
    have hz' : zs.length = cap := by simpa using hz
    have htl : (zs.take len).length = len := by simp; omega
    refine ⟨zs.take len, some x, cap, by rw [htl], by omega, fun n hn => hwz n (List.mem_of_mem_take hn), fun hne => ?_⟩
    have h0 : len ≠ 0 := fun e => hne (by rw [e]; simp)
    obtain ⟨b, off, spot⟩ := x
    have hc := hcell 0 (by omega)
    have hspot : spot = none := by simpa [Addr.add] using World.cell?_spot hc
    subst hspot
    refine ⟨b, off, rfl, fun i n hi => ?_⟩
    have hil : i < len := by have := (List.getElem?_eq_some_iff.1 hi).1; omega
    have hci := hcell i (by omega)
    rw [Addr.add_lit] at hci
    rw [hci]
    have e : zs[i]? = some n := by rwa [List.getElem?_take_of_lt hil] at hi
    simp [List.getD, e]
end Go.Proofs.YtnkjhooeklodcaaGreatDoor
end

section
/-
  PROVED: gauntletlaw5.SeglogTwice answers true for all rows of bytes, whatever is synced, and whatever two crashes keep and tear, and leaves its arguments as they were; the listed tables begin as the program's text lays them (the card ties them).
-/
namespace Go.Proofs.YtnkjhooeklodcaaGreatDoor.seglogTwice
open Go.ChangeShapes Go.WideShapes Go.ChangeAt Go.RowKit

set_option maxRecDepth 100000 in
theorem contract (H : Type) (enc : TypeId × Value → H) (W : World) (base : Nat) (args : Array Value) (ds gs : List (DataW H)) (before : List MemPlace)
    (hval : ∀ (j : Nat) t v, Tryz.f5.params[j]? = some t → args[j]? = some v → Value.okWide Tryz.prog W .any base t v)
    (hW : DataW.Whole enc Tryz.prog Tryz.f5.params.toList Rows.seglogTwiceSpec.vars false W args.toList ds gs before)
    (hsz : (DataW.weightsEach Tryz.prog (Tryz.f5.params.toList ++ (OpenSpec.ofChange Rows.seglogTwiceSpec).bare.plain.varTypes Tryz.prog) (ds ++ gs)).all (· ≤ reachBytes) = true) (hcx : Cx W W.heap.size) :
    Calls Tryz.prog 5 args W fun e W' => ∃ v, e = .returned v ∧ Rows.seglogTwiceSpec.post enc Tryz.prog Tryz.f5 false true false false W args v W' := by
  have hW' := hW
  obtain ⟨p, q, hA0, hV, rfl, hfz, hnd⟩ := hW
  have hA : DataW.TrodAll enc Tryz.prog W 0 (fun _ => true) true Tryz.f5.params.toList args.toList ds p := hA0
  rw [Tryz.params5] at hA hval
  obtain ⟨v0, vs0, d0, ds0, p0, q0, hargs, rfl, rfl, h0, r0⟩ := trodAll_cons hA
  obtain ⟨v1, vs1, d1, ds1, p1, q1, rfl, rfl, rfl, h1, r1⟩ := trodAll_cons r0
  obtain ⟨v2, vs2, d2, ds2, p2, q2, rfl, rfl, rfl, h2, r2⟩ := trodAll_cons r1
  obtain ⟨v3, vs3, d3, ds3, p3, q3, rfl, rfl, rfl, h3, r3⟩ := trodAll_cons r2
  obtain ⟨v4, vs4, d4, ds4, p4, q4, rfl, rfl, rfl, h4, r4⟩ := trodAll_cons r3
  obtain ⟨v5, vs5, d5, ds5, p5, q5, rfl, rfl, rfl, h5, r5⟩ := trodAll_cons r4
  obtain ⟨rfl, rfl, rfl⟩ := trodAll_nil r5
  obtain rfl : args = #[v0, v1, v2, v3, v4, v5] := by cases args; simp_all
  obtain ⟨rfl, rfl⟩ := trodVars_none hV
  have hv0 := hval 0 29 v0 rfl rfl
  have hv1 := hval 1 3 v1 rfl rfl
  have hv2 := hval 2 3 v2 rfl rfl
  have hv3 := hval 3 5 v3 rfl rfl
  have hv4 := hval 4 3 v4 rfl rfl
  have hv5 := hval 5 3 v5 rfl rfl
  clear hval
  clear hA0
  have hw : ∀ (j : Nat) (t : TypeId) (d : DataW H), ([29, 3, 3, 5, 3, 3] : List TypeId)[j]? = some t → ([d0, d1, d2, d3, d4, d5] : List (DataW H))[j]? = some d → ∀ x ∈ DataW.weights Tryz.prog t d, x ≤ reachBytes := by
    intro j t d ht hd x hx
    have h : (DataW.weightsEach Tryz.prog [29, 3, 3, 5, 3, 3] [d0, d1, d2, d3, d4, d5]).all (fun x => decide (x ≤ reachBytes)) = true := hsz
    have := List.all_eq_true.1 h x (DataW.weights_mem_each ht hd x hx)
    simpa using this
  obtain ⟨a0, len0, cap0, rfl⟩ := okWide_slice Tryz.underlying29 hv0
  have k0 := h0
  have lt0 : ∀ x ∈ p0, x.block < W.heap.size := by obtain ⟨m, hm⟩ := k0; exact DataW.trod_lt m _ _ _ hm
  obtain ⟨rs0, hrs0, hrl0⟩ := rows_in h0 (hw 0 29 d0 rfl rfl)
  obtain ⟨n1, rfl, rfl, rfl, w1⟩ := open_int Tryz.underlying3 hv1 h1
  obtain ⟨n2, rfl, rfl, rfl, w2⟩ := open_int Tryz.underlying3 hv2 h2
  obtain ⟨n3, rfl, rfl, rfl, w3⟩ := open_int Tryz.underlying5 hv3 h3
  obtain ⟨n4, rfl, rfl, rfl, w4⟩ := open_int Tryz.underlying3 hv4 h4
  obtain ⟨n5, rfl, rfl, rfl, w5⟩ := open_int Tryz.underlying3 hv5 h5
  refine (twice_walk a0 len0 cap0 rs0 n1 n2 n3 n4 n5 W hrs0 (wf_u8 w3) w2 w5 hcx).mono fun e W' ⟨he, bel⟩ => ?_
  subst he
  exact ⟨_, rfl, _, _, _, [], _, [], hW', trodAll_mk1 (shut_bool Tryz.underlying4 _), (trodAll_cons_mk (Below.trod laidOut (by kernel_rfl) (of_decide_eq_true (by kernel_rfl)) k0 bel lt0) (trodAll_cons_mk (shut_int Tryz.underlying3 w1) (trodAll_cons_mk (shut_int Tryz.underlying3 w2) (trodAll_cons_mk (shut_int Tryz.underlying5 w3) (trodAll_cons_mk (shut_int Tryz.underlying3 w4) (trodAll_cons_mk (shut_int Tryz.underlying3 w5) trodAll_mk0)))))), rfl, bel.frame _, fun h => by cases h⟩

theorem laid_met (os : Os) : laidMet Tryz.prog Rows.seglogTwiceRow.laid ((World.laidAll Tryz.prog os laidL).forCall (fun _ _ => 0) ⟨#[], #[.slice none 0 0, .int .i64 0, .int .i64 0, .int .u8 0, .int .i64 0, .int .i64 0], []⟩).memory :=
  laidMet_laidAll _ (by kernel_rfl) (by kernel_rfl)
theorem reads (os : Os) {H : Type} (enc : TypeId × Value → H) : ∃ places, DataW.whole enc Tryz.prog ((World.laidAll Tryz.prog os laidL).forCall (fun _ _ => 0) ⟨#[], #[.slice none 0 0, .int .i64 0, .int .i64 0, .int .u8 0, .int .i64 0, .int .i64 0], []⟩).memory Tryz.f5.params.toList Rows.seglogTwiceSpec.vars false #[Value.slice none 0 0, .int .i64 0, .int .i64 0, .int .u8 0, .int .i64 0, .int .i64 0].toList 8 = some ([.nil, .lit (.int .i64 0), .lit (.int .i64 0), .lit (.int .u8 0), .lit (.int .i64 0), .lit (.int .i64 0)], [], places) :=
  ⟨[], by kernel_rfl⟩

set_option maxRecDepth 100000 in
theorem lifted (os : Os) (started : os.Started) (H : Type) (enc : TypeId × Value → H) (F : Stop.Interp) :
    ReturnsInHanded {} Tryz.checked os 5 .any ((OpenSpec.ofChange Rows.seglogTwiceSpec).preRow enc Tryz.prog Tryz.f5 Rows.seglogTwiceRow.domain false Rows.seglogTwiceRow.laid) (((OpenSpec.ofChange Rows.seglogTwiceSpec).at F).post enc Tryz.prog Tryz.f5 false true false false) := by
  obtain ⟨places, hx⟩ := reads os enc
  refine returnsInHanded_of_row (C := Tryz.checked) (s := OpenSpec.ofChange Rows.seglogTwiceSpec) own started (by kernel_rfl) Tryz.func5
    (witness_row_at (enc := enc) (C := Tryz.checked) false (World.laidAll Tryz.prog os laidL) #[.slice none 0 0, .int .i64 0, .int .i64 0, .int .u8 0, .int .i64 0, .int .i64 0] (World.laidAll_os _ _ _) (by kernel_rfl) (by kernel_rfl) (by kernel_rfl)
      (OpenSpec.preRow_of_cond 8 hx (by kernel_rfl) (fun k hk => by cases hk) (by kernel_rfl) (laid_met os))) ?_
  intro W base args ds gs before hval hW _ _ hsz hL hsh _
  exact contract H enc W base args ds gs before hval hW hsz (cx_in hL hsh)

theorem said : Rows.SeglogTwiceSaid :=
  OpenClaim.holds_of_cond 5 Tryz.f5 rfl rfl rfl rfl rfl rfl rfl ⟨rfl, rfl, rfl, rfl, rfl⟩ rfl rfl rfl rfl rfl (by kernel_rfl) Tryz.func5 (by kernel_rfl)
    (of_decide_eq_true (by kernel_rfl)) (by unfold Func.isWrapper; first | (rw [if_pos (by decide +kernel)]; kernel_rfl) | (rw [if_neg (by decide +kernel)]; exact ⟨rfl, rfl⟩))
    (fun os started H enc _ F => by rw [OpenClaim.pre_eq_preRow]; exact lifted os started H enc F)

theorem plain (f : FuncId) (fn : Func) (hf : Tryz.pinned.checked.prog.funcNamed "gauntlet/gauntletlaw5.SeglogTwice" = some f) (hfn : Tryz.pinned.checked.prog.funcs[f]? = some fn) :
    false = Tryz.pinned.checked.prog.looks [] ∧ ∀ (j : Nat) t, fn.params[j]? = some t → Tryz.pinned.checked.prog.wantsStandIn t = false := by
  obtain rfl : f = 5 := Option.some.inj ((show Tryz.prog.funcNamed "gauntlet/gauntletlaw5.SeglogTwice" = some 5 by kernel_rfl).symm.trans hf) |>.symm
  obtain rfl : fn = Tryz.f5 := (Option.some.inj (Tryz.func5.symm.trans hfn)).symm
  refine ⟨by kernel_rfl, fun j t ht => ?_⟩
  rw [Tryz.params5] at ht
  have hm : t ∈ [29, 3, 3, 5, 3, 3] := by simpa using Array.mem_of_getElem? ht
  have hall : ([29, 3, 3, 5, 3, 3].all fun u => !Tryz.prog.wantsStandIn u) = true := by kernel_rfl
  exact (show Tryz.prog.wantsStandIn t = false by simpa using List.all_eq_true.1 hall t hm)
end Go.Proofs.YtnkjhooeklodcaaGreatDoor.seglogTwice
namespace Go.Proofs.YtnkjhooeklodcaaGreatDoor
theorem seglogTwice_card : Rows.SeglogTwiceCardSaid :=
  Claim7.holds_tied_plain_at .later [] _ _ _ _ seglogTwice.said (fun _ h => by cases h) (by kernel_rfl) (fun _ h => by cases h) seglogTwice_row_tie rfl ⟨rfl, rfl⟩ (by kernel_rfl) rfl seglogTwice.plain (by kernel_rfl)
#print axioms seglogTwice_card
end Go.Proofs.YtnkjhooeklodcaaGreatDoor
end
