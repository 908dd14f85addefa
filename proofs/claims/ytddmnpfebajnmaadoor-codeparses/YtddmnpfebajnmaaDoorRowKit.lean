/-
  What every row of this seat shares: the listed tables as cells (Tp), arguments opened: a row of instructions (ls_in), bytes (bs_in).
-/
import Derived.Test.YtddmnpfebajnmaaDoorCards
import Derived.Test.YtddmnpfebajnmaaDoorTie
import Derived.Test.YtddmnpfebajnmaaDoorProgs
import Derived.Test.YtddmnpfebajnmaaDoorKnown
import Derived.WalkKit
import Derived.ProofKit
import Derived.OpenShut
import Derived.ChangeOld
import Derived.Deep.DeepHandedRow
import Derived.Lib.LaidTab
import Derived.Lib.LaidU8
import Derived.Lay
import Derived.LaidMore
namespace Go.Proofs.YtddmnpfebajnmaaDoor
open Go.ChangeShapes Go.WideShapes Go.ChangeAt Go.RowKit

theorem own : ownKnob Tryd.prog.godebug = none := by kernel_rfl
theorem laidOut : laidOutB Tryd.prog = true := by kernel_rfl
theorem wf_u8 {z : Int} (h : (Lit.int .u8 z).wf = true) : 0 ≤ z ∧ z < 256 := by
  have := bounds_u8 h
  omega

/-- What the rows list. -/
abbrev laidL : List (String × DataW Unit) := [("math/bits.deBruijn32tab", Rows.laid_math_bits_deBruijn32tab), ("math/bits.deBruijn64tab", Rows.laid_math_bits_deBruijn64tab), ("internal/strconv.uint64pow10", Rows.laid_internal_strconv_uint64pow10)]
theorem tabIs_of_reads {W : World} {name : String} {k : IntKind} {zs : List Int} {g : Nat} {t e : TypeId} {n : Nat}
    (hg : Tryd.prog.globalNamed name = some g) (hty : (Tryd.prog.globals[g]?).map (·.type) = some t) (ht : Tryd.prog.underlying t = some (.array n e)) (he : Tryd.prog.underlying e = some (.int k)) (hce : Tryd.prog.cellsOf e = 1) (hct : Tryd.prog.cellsOf t = n)
    (h : Lib.VarReads Tryd.prog W name (Lib.tabData k zs)) : Lib.TabIs Tryd.prog W name k zs := by
  obtain ⟨g', t', cs, fuel, p, hg', ht', hvar, hd⟩ := h
  obtain rfl := Option.some.inj (hg.symm.trans hg')
  obtain rfl := Option.some.inj (hty.symm.trans ht')
  unfold Lib.TabIs
  rw [hvar, ← Lib.cells_of_tab ht he hce hct hd]
def powI : List Int := [1, 10, 100, 1000, 10000, 100000, 1000000, 10000000, 100000000, 1000000000, 10000000000, 100000000000, 1000000000000, 10000000000000, 100000000000000, 1000000000000000, 10000000000000000, 100000000000000000, 1000000000000000000, 10000000000000000000]
theorem powI_eq : powI = Lib.pow10Tab := by decide

theorem undPw : ∃ t e, (Tryd.prog.globals[3]?).map (·.type) = some t ∧ Tryd.prog.underlying t = some (.array 20 e) ∧ Tryd.prog.underlying e = some (.int .u64) ∧ Tryd.prog.cellsOf e = 1 ∧ Tryd.prog.cellsOf t = 20 := ⟨137, 94, by kernel_rfl, by kernel_rfl, by kernel_rfl, by kernel_rfl, by kernel_rfl⟩
theorem und86 : ∃ t, (Tryd.prog.globals[5]?).map (·.type) = some t ∧ Tryd.prog.underlying t = some (.array 64 5) ∧ Tryd.prog.cellsOf t = 64 := ⟨146, by kernel_rfl, by kernel_rfl, by kernel_rfl⟩
def deB : List Int := [0, 1, 56, 2, 57, 49, 28, 3, 61, 58, 42, 50, 38, 29, 17, 4, 62, 47, 59, 36, 45, 43, 51, 22, 53, 39, 33, 30, 24, 18, 12, 5, 63, 55, 48, 27, 60, 41, 37, 16, 46, 35, 44, 21, 52, 32, 23, 11, 54, 26, 40, 15, 34, 20, 31, 10, 25, 14, 19, 9, 13, 8, 7, 6]
/-- What the lists give. -/
theorem tp_of {W : World} (h2 : Lib.VarReads Tryd.prog W "internal/strconv.uint64pow10" Rows.laid_internal_strconv_uint64pow10) (h1 : Lib.VarReads Tryd.prog W "math/bits.deBruijn64tab" Rows.laid_math_bits_deBruijn64tab) : Tp W := by
  obtain ⟨t, e, g1, g2, g3, g4, g5⟩ := undPw
  obtain ⟨t', k1, k2, k3⟩ := und86
  have t2 : Lib.TabIs Tryd.prog W "internal/strconv.uint64pow10" .u64 powI :=
    tabIs_of_reads (g := 3) (by kernel_rfl) g1 g2 g3 g4 g5 h2
  have t1 : Lib.TabIs Tryd.prog W "math/bits.deBruijn64tab" .u8 deB :=
    tabIs_of_reads (g := 5) (by kernel_rfl) k1 k2 Tryd.underlying5 (by kernel_rfl) k3 h1
  refine ⟨?_, ?_⟩
  · unfold Pw
    rw [← powI_eq]
    exact t2
  · have := World.block_lt_of_cell? W _ (t1.cell (g := 5) (by kernel_rfl) 0 (by decide))
    exact this
theorem tp_in {W : World} (h : laidMetH Tryd.prog laidL W) (_ : W.ShapedOpen Tryd.prog) : Tp W := by
  have hh : laidMet Tryd.prog laidL W := h
  exact tp_of (Lib.laidMet.reads hh (by simp [laidL])) (Lib.laidMet.reads hh (by simp [laidL]))
theorem bs_in {H : Type} {enc : TypeId × Value → H} {W : World} {a : Option Addr} {len cap : Nat} {d : DataW H} {p : List MemPlace} (h : DataW.Trod enc Tryd.prog W 0 (fun _ => true) true 28 (.slice a len cap) d p) :
    ∃ zs, Bs W (.slice a len cap) zs ∧ Byt zs := by
  obtain ⟨fuel, hf⟩ := h
  rcases open_ints Tryd.underlying28 Tryd.underlying5 (by kernel_rfl) hf with ⟨hcs, _⟩ | ⟨x, l, c, zs, hcs, _, hl, hm, hz, _, hcell, hwz⟩
  · simp [Value.cells] at hcs
    obtain ⟨rfl, rfl, rfl⟩ := hcs
    exact ⟨[], Or.inl ⟨rfl, none, 0, rfl, by simp [maxLen], fun _ => rfl⟩, fun z hz => by cases hz⟩
  · simp [Value.cells] at hcs
    obtain ⟨rfl, rfl, rfl⟩ := hcs
    have hz' : zs.length = cap := by simpa using hz
    have htl : (zs.take len).length = len := by simp; omega
    refine ⟨zs.take len, ?_, fun z hz2 => wf_u8 (hwz z (List.mem_of_mem_take hz2))⟩
    by_cases h0 : len = 0
    · subst h0
      exact Or.inl ⟨by simp, _, cap, rfl, hm, fun e => by cases e⟩
    · obtain ⟨b, off, spot⟩ := x
      have hc := hcell 0 (by omega)
      have hspot : spot = none := by simpa [Addr.add] using World.cell?_spot hc
      subst hspot
      refine Or.inr ⟨fun e => by rw [e] at htl; simp at htl; omega, b, off, cap, by rw [htl], by omega, hm, fun i hi => ?_⟩
      have hci := hcell i (by omega)
      rw [Addr.add_lit] at hci
      rw [hci]
      have : (zs.take len).getD i 0 = zs.getD i 0 := by simp [List.getD, show i < len by omega]
      rw [this]

variable {H : Type} {enc : TypeId × Value → H} {W : World}
theorem cells3i : Tryd.prog.cellsOf 3 = 1 := by kernel_rfl
theorem cells60 : Tryd.prog.cellsOf 60 = 2 := by kernel_rfl
theorem ins_in {fuel : Nat} {cs : List Value} {d : DataW H} {p : List MemPlace} (h : DataW.trod enc Tryd.prog W 0 (fun _ => true) true fuel 60 cs = some (d, p)) : ∃ s : Ii, cs = [.int .i64 s.1, .int .i64 s.2] := by
  obtain ⟨xs, n, _, hx, hcl, hxl, hel⟩ := DataW.trod_struct Tryd.underlying60 h
  rw [cells60] at hcl
  have h0 : DataW.trod enc Tryd.prog W 0 (fun _ => true) true n 3 ((cs.drop 0).take (Tryd.prog.cellsOf 3)) = xs[0]? := hel 0 _ rfl
  have h1 : DataW.trod enc Tryd.prog W 0 (fun _ => true) true n 3 ((cs.drop 1).take (Tryd.prog.cellsOf 3)) = xs[1]? := hel 1 _ rfl
  rw [cells3i] at h0 h1
  have hxl2 : xs.length = 2 := hxl
  clear hel hxl
  obtain ⟨x0, x1, rfl⟩ : ∃ x0 x1, xs = [x0, x1] := by
    match xs, hxl2 with
    | [x0, x1], _ => exact ⟨x0, x1, rfl⟩
  obtain ⟨c0, c1, rfl⟩ : ∃ c0 c1, cs = [c0, c1] := by
    match cs, hcl with
    | [c0, c1], _ => exact ⟨c0, c1, rfl⟩
  have h0' : DataW.trod enc Tryd.prog W 0 (fun _ => true) true n 3 [c0] = some x0 := h0
  have h1' : DataW.trod enc Tryd.prog W 0 (fun _ => true) true n 3 [c1] = some x1 := h1
  obtain ⟨k, e0, _, wk⟩ := DataW.trod_int Tryd.underlying3 h0'
  obtain ⟨i, e1, _, wi⟩ := DataW.trod_int Tryd.underlying3 h1'
  simp only [List.cons.injEq, and_true] at e0 e1
  subst e0
  subst e1
  exact ⟨(k, i), rfl⟩
theorem cells2_split : ∀ (l : List Ii) (j : Nat) (u : Value), (cells2 l)[j]? = some u → ∃ x, l[j / 2]? = some x ∧ ([.int .i64 x.1, .int .i64 x.2] : List Value)[j % 2]? = some u
  | [], j, u, h => by simp [cells2] at h
  | x :: l, 0, u, h => ⟨x, rfl, h⟩
  | x :: l, 1, u, h => ⟨x, rfl, h⟩
  | x :: l, j + 2, u, h => by
    obtain ⟨y, h1, h2⟩ := cells2_split l j u h
    exact ⟨y, by rw [show (j + 2) / 2 = j / 2 + 1 by omega]; exact h1, by rw [show (j + 2) % 2 = j % 2 by omega]; exact h2⟩
theorem ls_in {a : Option Addr} {len cap : Nat} {d : DataW H} {p : List MemPlace} (h0 : DataW.Trod enc Tryd.prog W 0 (fun _ => true) true 22 (.slice a len cap) d p) : ∃ l, Ls W (.slice a len cap) l := by
  obtain ⟨fuel, h⟩ := h0
  rcases DataW.trod_slice Tryd.underlying22 h with ⟨hc, _⟩ | ⟨a1, len1, cap1, elems, rest, n, _, hc, hx, _, hl, hm, hle, hel, _, _⟩
  · simp [Value.cells] at hc
    obtain ⟨rfl, rfl, rfl⟩ := hc
    exact ⟨[], Or.inl ⟨rfl, none, 0, rfl, by unfold maxLen; omega, fun _ => rfl⟩⟩
  · simp [Value.cells] at hc
    obtain ⟨rfl, rfl, rfl⟩ := hc
    simp only [Prod.mk.injEq] at hx
    rw [cells60] at hel
    have each : ∀ i, i < len → ∃ s : Ii, ∀ (j : Nat) (u : Value), ([.int .i64 s.1, .int .i64 s.2] : List Value)[j]? = some u → W.cell? ((a1.add (i * 2)).add j) = some u := by
      intro i hi
      have h1 := hel i hi
      rw [List.getElem?_eq_getElem (by omega)] at h1
      obtain ⟨cs, hcs, ht⟩ := Option.bind_eq_some_iff.1 h1
      obtain ⟨s, rfl⟩ := ins_in (d := elems[i].1) (p := elems[i].2) ht
      obtain ⟨_, hlc, hcell⟩ := World.cells?_some hcs
      refine ⟨s, fun j u hu => ?_⟩
      have hj := (List.getElem?_eq_some_iff.1 hu).1
      rw [hcell j (by omega)]
      exact hu
    by_cases h0 : len = 0
    · subst h0
      exact ⟨[], Or.inl ⟨rfl, some a1, cap, rfl, hm, fun e => by cases e⟩⟩
    · obtain ⟨f0, hf0⟩ := each 0 (by omega)
      have hc0 := hf0 0 _ rfl
      obtain ⟨b, off, spot⟩ := a1
      have hspot : spot = none := by simpa [Addr.add] using World.cell?_spot hc0
      subst hspot
      have hfl : ((List.range len).attach.map (fun i => Classical.choose (each i.1 (List.mem_range.1 i.2)))).length = len := by simp
      have hsp : ∀ (i : Nat) (s : Ii), ((List.range len).attach.map (fun i => Classical.choose (each i.1 (List.mem_range.1 i.2))))[i]? = some s → ∀ (j : Nat) (u : Value), ([.int .i64 s.1, .int .i64 s.2] : List Value)[j]? = some u → W.cell? ⟨b, off + i * 2 + j, none⟩ = some u := by
        intro i r hr
        have hi : i < len := by have := (List.getElem?_eq_some_iff.1 hr).1; omega
        have hre : r = Classical.choose (each i hi) := by
          rw [List.getElem?_map, List.getElem?_eq_getElem (by simpa using hi)] at hr
          simp at hr
          exact hr.symm
        have hs := Classical.choose_spec (each i hi)
        rw [← hre] at hs
        intro j u hu
        have := hs j u hu
        rw [Addr.add_lit, Addr.add_lit] at this
        exact this
      refine ⟨_, Or.inr ⟨fun e => ?_, b, off, cap, by rw [hfl], by rw [hfl]; exact hl, hm, fun j u hu => ?_⟩⟩
      · have := congrArg List.length e
        rw [hfl] at this
        exact h0 this
      · obtain ⟨x, hx1, hx2⟩ := cells2_split _ j u hu
        have := hsp (j / 2) x hx1 (j % 2) u hx2
        rw [show off + j / 2 * 2 + j % 2 = off + j by omega] at this
        exact this
end Go.Proofs.YtddmnpfebajnmaaDoor
