/-
  The program's tables (Tb); hexadecimal digits; formatBits at sixteen.
-/
import Derived.Test.YtfciaohicbchgaaDoorRoot
import Derived.Test.YtfciaohicbchgaaDoorShelf
import Derived.Deep.DeepCutAuto
namespace Go.Proofs.YtfciaohicbchgaaDoor
open Go.RowKit
theorem pow2_any (w : World) : Calls Tryd.prog 50 #[.int .i64 16] w fun e w' => e = .returned (.bool true) ∧ w' = w := by
  go_enter Tryd.func50, Tryd.ntmps50
  go_wp2
  go_ret
  exact ⟨by rfl, rfl⟩
theorem glob64 : Tryd.prog.globalNamed "math/bits.deBruijn64tab" = some 5 := by kernel_rfl
def deB : List Int := [0, 1, 56, 2, 57, 49, 28, 3, 61, 58, 42, 50, 38, 29, 17, 4, 62, 47, 59, 36, 45, 43, 51, 22, 53, 39, 33, 30, 24, 18, 12, 5, 63, 55, 48, 27, 60, 41, 37, 16, 46, 35, 44, 21, 52, 32, 23, 11, 54, 26, 40, 15, 34, 20, 31, 10, 25, 14, 19, 9, 13, 8, 7, 6]
def Db (w : World) : Prop := Lib.TabIs Tryd.prog w "math/bits.deBruijn64tab" .u8 deB
theorem tz64_any (w : World) (h : Db w) : Calls Tryd.prog 61 #[.int .u64 16] w fun e w' => e = .returned (.int .i64 4) ∧ w' = w := by
  have hc := Lib.TabIs.cell h glob64 15 (by decide)
  rw [show deB.getD 15 0 = 4 from rfl] at hc
  have e1 : IntKind.u64.wrap (bits BinOp.and IntKind.u64 16 (IntKind.u64.wrap (-16)) * 285870213051353865) / 288230376151711744 = 15 := by decide
  go_enter Tryd.func61, Tryd.ntmps61
  go_wp2
  go_ret
  exact ⟨by rfl, rfl⟩
theorem tz_any (w : World) (h : Db w) : Calls Tryd.prog 51 #[.int .u64 16] w fun e w' => e = .returned (.int .i64 4) ∧ w' = w := by
  go_enter Tryd.func51, Tryd.ntmps51
  go_wp2_with (go_at_call 61; refine (tz64_any _ h).mono ?_; rintro e w' ⟨rfl, rfl⟩)
  go_ret
  exact ⟨by rfl, rfl⟩
/-- A hexadecimal digit. -/
def hexN (n : Nat) : Nat := if n < 10 then 48 + n else 87 + n
def digs : ByteArray := ⟨#[48, 49, 50, 51, 52, 53, 54, 55, 56, 57, 97, 98, 99, 100, 101, 102, 103, 104, 105, 106, 107, 108, 109, 110, 111, 112, 113, 114, 115, 116, 117, 118, 119, 120, 121, 122]⟩
theorem digs_at : ∀ n : Fin 16, ((digs.data[n.val]'(by show n.val < 36; omega)).toNat) = hexN n.val := by decide
theorem run_digs (n : Nat) (hn : n < 16) (k : IntKind) (w : World) : (Instr.index 9 (.string digs) (.int k (n : Int))).run Tryd.prog w = .ok (.int .u8 (hexN n : Nat)) w := by
  rw [run_index_string (h := Tryd.underlying9), dif_pos ⟨by omega, by show (n : Int) < 36; omega⟩]
  exact congrArg (fun m : Nat => Result.ok (Value.int .u8 (m : Int)) w) (digs_at ⟨n, hn⟩)
theorem and15 (u : Int) (h0 : 0 ≤ u) (h1 : u < 18446744073709551616) : bits .and .u64 u 15 = u % 16 := by
  rw [u64_and u 15 h0 h1 (by decide) (by decide)]
  have e : (15 : Int).toNat = 2 ^ 4 - 1 := rfl
  rw [e, Nat.and_two_pow_sub_one_eq_mod]
  omega
theorem wpList_digs {ops : Array Oper} {rest : List Oper} {o : Oper} {a : Act} {w : World} {Q : Exit → Act → World → Prop} (hg : o.guard = none) (x : Operand) (ho : o.op = .index 9 (.const (.string digs)) x) (k : IntKind) (n : Nat) (hn : Hid (n < 16)) (hx : a.eval x = .int k (n : Int))
    (h : wpList Tryd.prog ops Q rest (a.put o.dst (.int .u8 (hexN n : Nat))) w) : wpList Tryd.prog ops Q (o :: rest) a w := by
  refine wpList_plain hg fun _ hK => ?_
  unfold Oper.wp execOp
  have e : a.eval (.const (.string digs)) = .string digs := rfl
  simp only [ho, hx, e, Sem.run_bind, run_digs n hn.out, Sem.run_pure, Result.andThen_ok]
  exact hK _ _ h
/-- What the program's tables hold. -/
def Pw (w : World) : Prop := Lib.TabIs Tryd.prog w "internal/strconv.uint64pow10" .u64 Lib.pow10Tab
theorem globPw : Tryd.prog.globalNamed "internal/strconv.uint64pow10" = some 0 := by kernel_rfl
theorem Db.keep {w w' : World} (h : Db w) (hk : ∀ k, k < 6 → w'.heap[k]? = w.heap[k]?) : Db w' := by
  have h' := h
  unfold Db Lib.TabIs World.var? at h ⊢
  rw [glob64] at h ⊢
  simp only [Option.bind_some, hk 5 (by decide)] at h ⊢
  exact h
theorem Pw.keep {w w' : World} (h : Pw w) (hk : ∀ k, k < 6 → w'.heap[k]? = w.heap[k]?) : Pw w' := by
  unfold Pw Lib.TabIs World.var? at h ⊢
  rw [globPw] at h ⊢
  simp only [Option.bind_some, hk 0 (by decide)] at h ⊢
  exact h
/-- The tables, and that the program's own variables are there. -/
structure Tb (w : World) : Prop where
  db : Db w
  pw : Pw w
  sz : 6 ≤ w.heap.size
theorem Tb.below {w w' : World} (h : Tb w) {B : Nat} (hb : Below B w w') (hB : w.heap.size ≤ B) : Tb w' := ⟨h.db.keep fun k hk => hb.block k (by have := h.sz; omega), h.pw.keep fun k hk => hb.block k (by have := h.sz; omega), Nat.le_trans h.sz hb.size⟩
theorem Tb.drewN {w : World} (h : Tb w) (n : Nat) : Tb (w.drewN n) := ⟨h.db, h.pw, h.sz⟩
def hexB (n : Nat) : UInt8 := (hexN n).toUInt8
/-- 65536 + f in hexadecimal digits. -/
def hexS (f : Nat) : List UInt8 := [49, hexB (f / 4096 % 16), hexB (f / 256 % 16), hexB (f / 16 % 16), hexB (f % 16)]
theorem Tryd.zero68 : (Tryd.prog.info? 68).bind (·.zero) = some (.agg (List.replicate 65 (Value.int .u8 0)).toArray) := by kernel_rfl
theorem hexB_nat (n : Nat) (h : n < 16) : ((hexB n).toNat : Int) = (hexN n : Nat) := by
  have : ∀ n : Fin 16, (hexB n.val).toNat = hexN n.val := by decide
  exact congrArg Int.ofNat (this ⟨n, h⟩)
set_option maxHeartbeats 2000000 in
theorem bits_any (f : Nat) (hf : f < 65536) (w : World) (h : Tb w) :
    Calls Tryd.prog 42 #[.slice none 0 0, .int .u64 (65536 + (f : Int)), .int .i64 16, .bool false, .bool false] w fun e w' => e = .returned (.tuple #[.slice none 0 0, .string ⟨(hexS f).toArray⟩]) ∧ Below w.heap.size w w' := by
  obtain ⟨u0, e0⟩ : ∃ u0 : Nat, u0 = 65536 + f := ⟨_, rfl⟩
  obtain ⟨u1, e1⟩ : ∃ u1 : Nat, u1 = u0 / 16 := ⟨_, rfl⟩
  obtain ⟨u2, e2⟩ : ∃ u2 : Nat, u2 = u1 / 16 := ⟨_, rfl⟩
  obtain ⟨u3, e3⟩ : ∃ u3 : Nat, u3 = u2 / 16 := ⟨_, rfl⟩
  obtain ⟨x0, g0⟩ : ∃ x0 : Nat, x0 = f % 16 := ⟨_, rfl⟩
  obtain ⟨x1, g1⟩ : ∃ x1 : Nat, x1 = f / 16 % 16 := ⟨_, rfl⟩
  obtain ⟨x2, g2⟩ : ∃ x2 : Nat, x2 = f / 256 % 16 := ⟨_, rfl⟩
  obtain ⟨x3, g3⟩ : ∃ x3 : Nat, x3 = f / 4096 % 16 := ⟨_, rfl⟩
  have hS : hexS f = [49, hexB x3, hexB x2, hexB x1, hexB x0] := by rw [g0, g1, g2, g3]; rfl
  rw [hS, show (65536 + (f : Int)) = (u0 : Int) by omega]
  have a0 : bits .and .u64 (u0 : Int) 15 = (x0 : Int) := by rw [and15 _ (by omega) (by omega)]; omega
  have a1 : bits .and .u64 (u1 : Int) 15 = (x1 : Int) := by rw [and15 _ (by omega) (by omega)]; omega
  have a2 : bits .and .u64 (u2 : Int) 15 = (x2 : Int) := by rw [and15 _ (by omega) (by omega)]; omega
  have a3 : bits .and .u64 (u3 : Int) 15 = (x3 : Int) := by rw [and15 _ (by omega) (by omega)]; omega
  have d0 : (u0 : Int) / 16 = (u1 : Int) := by omega
  have d1 : (u1 : Int) / 16 = (u2 : Int) := by omega
  have d2 : (u2 : Int) / 16 = (u3 : Int) := by omega
  have d3 : (u3 : Int) / 16 = 1 := by omega
  have l0 : (16 : Int) ≤ (u0 : Int) := by omega
  have l1 : (16 : Int) ≤ (u1 : Int) := by omega
  have l2 : (16 : Int) ≤ (u2 : Int) := by omega
  have l3 : (16 : Int) ≤ (u3 : Int) := by omega
  have m0 : Hid (x0 < 16) := hid_into (by omega)
  have m1 : Hid (x1 < 16) := hid_into (by omega)
  have m2 : Hid (x2 < 16) := hid_into (by omega)
  have m3 : Hid (x3 < 16) := hid_into (by omega)
  clear hS e0 e1 e2 e3 g0 g1 g2 g3 hf
  obtain ⟨cs, hcs⟩ : ∃ cs, cs = List.replicate 65 (Value.int .u8 0) := ⟨_, rfl⟩
  have HO : Hid ((Tryd.prog.info? 68).bind (·.zero) = some (.agg cs.toArray)) := by rw [hcs]; exact Tryd.zero68
  have HC : Hid (cs = List.replicate 65 (Value.int .u8 0)) := hid_into hcs
  clear hcs
  have HT := hid_into h
  clear h
  go_enter Tryd.func42, Tryd.ntmps42
  go_wp2_with (first
    | (refine wpList_alloc_row rfl 68 rfl cs HO.out ?_; intro W1 hc1 B1 HS1; have HB := hid_into (HT.out.below B1 (Nat.le_refl _)).db)
    | (go_at_call 50; refine (pow2_any _).mono ?_; rintro e w' ⟨rfl, hw⟩; replace hw := hw.symm; subst hw)
    | (go_at_call 51; refine (tz_any _ HB.out).mono ?_; rintro e w' ⟨rfl, hw⟩; replace hw := hw.symm; subst hw))
  have q : ∀ o, o < 65 → W1.cell? ⟨w.heap.size, o, none⟩ = some (.int .u8 0) := fun o ho => by
    rw [hc1.cell, HC.out, List.getElem?_replicate, if_pos ho]
  have k64 := q 64 (by decide); have k63 := q 63 (by decide); have k62 := q 62 (by decide); have k61 := q 61 (by decide); have k60 := q 60 (by decide)
  have f64 := hc1.frozen 64; have f63 := hc1.frozen 63; have f62 := hc1.frozen 62; have f61 := hc1.frozen 61; have f60 := hc1.frozen 60
  have HQ := hid_into hc1
  clear q hc1
  refine wp_loop_rounds 5 ?_
  rw [rounds_succ]
  go_wp2_with (refine wpList_digs rfl (.tmp 52) rfl .u64 x0 m0 rfl ?_)
  rw [rounds_succ]
  go_wp2_with (refine wpList_digs rfl (.tmp 52) rfl .u64 x1 m1 rfl ?_)
  rw [rounds_succ]
  go_wp2_with (refine wpList_digs rfl (.tmp 52) rfl .u64 x2 m2 rfl ?_)
  rw [rounds_succ]
  go_wp2_with (refine wpList_digs rfl (.tmp 52) rfl .u64 x3 m3 rfl ?_)
  rw [rounds_succ]
  have m4 : Hid (1 < 16) := hid_into (by decide)
  go_upto_region 30 with (refine wpList_digs rfl (.tmp 61) rfl .u64 1 m4 rfl ?_)
  obtain ⟨WW, hWW⟩ : ∃ WW, WW = (((((W1.setCell ⟨w.heap.size, 64, none⟩ (.int .u8 (hexN x0 : Nat))).setCell ⟨w.heap.size, 63, none⟩ (.int .u8 (hexN x1 : Nat))).setCell ⟨w.heap.size, 62, none⟩ (.int .u8 (hexN x2 : Nat))).setCell ⟨w.heap.size, 61, none⟩ (.int .u8 (hexN x3 : Nat))).setCell ⟨w.heap.size, 60, none⟩ (.int .u8 (hexN 1 : Nat))) := ⟨_, rfl⟩
  rw [← hWW]
  have hcw : Cw WW w.heap.size (((((cs.set 64 (.int .u8 (hexN x0 : Nat))).set 63 (.int .u8 (hexN x1 : Nat))).set 62 (.int .u8 (hexN x2 : Nat))).set 61 (.int .u8 (hexN x3 : Nat))).set 60 (.int .u8 (hexN 1 : Nat))) 68 := by
    rw [hWW]; exact ((((HQ.out.set _ _).set _ _).set _ _).set _ _).set _ _
  have hbw : Below w.heap.size w WW := by
    rw [hWW]; exact ((((B1.setCell (Nat.le_refl _) _).setCell (Nat.le_refl _) _).setCell (Nat.le_refl _) _).setCell (Nat.le_refl _) _).setCell (Nat.le_refl _) _
  have hL : cs.length = 65 := by rw [HC.out]; simp
  have hcv : (convert 43 9 (.slice (some ⟨w.heap.size, 60, none⟩) 5 5)).run Tryd.prog WW = .ok (.string ⟨[49, hexB x3, hexB x2, hexB x1, hexB x0].toArray⟩) WW := by
    refine run_convert_bytes_back WW 43 9 5 ⟨w.heap.size, 60, none⟩ 5 [49, hexB x3, hexB x2, hexB x1, hexB x0] Tryd.underlying43 Tryd.underlying5 Tryd.underlying9 ?_
    intro j hj
    have hj5 : j < 5 := hj
    rw [Addr.add_lit, hcw.cell]
    have := hexB_nat x0 m0.out; have := hexB_nat x1 m1.out; have := hexB_nat x2 m2.out; have := hexB_nat x3 m3.out
    match j, hj5 with
    | 0, _ => simp [hL]; rfl
    | 1, _ => simp [*]
    | 2, _ => simp [*]
    | 3, _ => simp [*]
    | 4, _ => simp [*]
  have hsl : ∀ W, (Instr.sliceAt 68 (.pointer (some ⟨w.heap.size, 0, none⟩)) (some (.int .i64 60)) none none).run Tryd.prog W = .ok (.slice (some ⟨w.heap.size, 60, none⟩) 5 5) W := by
    have ha : Tryd.prog.arrayLen 68 = 65 := by kernel_rfl
    intro W
    rw [run_sliceAt_array_l W 68 ⟨w.heap.size, 0, none⟩ (by kernel_rfl) .i64 60 (by decide) (by rw [ha]; decide)]
    have hs : ∀ W, (sizeOf (Tryd.prog.elem 68)).run Tryd.prog W = .ok 1 W := Tryd.sizeOf5
    rw [hs, ha]
    rfl
  have HB2 := hid_into hbw
  clear hcw hbw hL HQ hWW k64 k63 k62 k61 k60 f64 f63 f62 f61 f60
  go_wp2
  go_ret2
  exact ⟨rfl, HB2.out⟩
end Go.Proofs.YtfciaohicbchgaaDoor
