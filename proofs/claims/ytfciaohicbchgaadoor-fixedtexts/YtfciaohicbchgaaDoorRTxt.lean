/-
  The document's Dec and Text.
-/
import Derived.Test.YtfciaohicbchgaaDoorTxt
import Derived.Sort.EncStr
import Derived.Laws.IdiomStrings
import Derived.Test.YtfciaohicbchgaaDoorHeldL
namespace Go.Proofs.YtfciaohicbchgaaDoor
open Go.RowKit Go.Sort
theorem decDigits_more {k : Nat} (h : ¬ k < 10) : Lib.decDigits k = Lib.decDigits (k / 10) ++ [UInt8.ofNat (48 + k % 10)] := by
  rw [Lib.decDigits, dif_neg h]
set_option maxHeartbeats 2000000 in
set_option maxRecDepth 100000 in
theorem dec_ref (v : Nat) (hv : v < 18446744073709551616) (w : World) :
    Calls Tryd.prog 29 #[.int .u64 (v : Int)] w fun e w' => e = .returned (encStr (Lib.decDigits v)) ∧ Below w.heap.size w w' := by
  go_enter Tryd.func29, Tryd.ntmps29
  go_wp2
  go_loopw [0, 3] (fun a s wr => ∃ (k : Nat) (t : List UInt8), a = .int .u64 (k : Int) ∧ s = encStr t ∧ k < 18446744073709551616 ∧ t.length + Lib.nDigits k ≤ 20 ∧ Hid (Lib.decDigits k ++ t = Lib.decDigits v) ∧ Below w.heap.size w wr) (fun a _ _ => (intOf a).toNat)
  case atStart => exact ⟨v, [], rfl, rfl, hv, by have := Lib.nDigits_le20 v hv; simpa using this, by show _ = _; simp, Below.refl _ _⟩
  case round =>
    obtain ⟨k, t, rfl, rfl, hk, ht, HD, hB⟩ := hrel
    have hn1 := Lib.nDigits_pos k
    have htl : t.length ≤ 19 := by omega
    obtain ⟨d, hd⟩ : ∃ d, UInt8.ofNat (48 + k % 10) = d := ⟨_, rfl⟩
    have hdn : (d.toNat : Int) = 48 + (k : Int) % 10 := by
      rw [← hd]
      have : (UInt8.ofNat (48 + k % 10)).toNat = 48 + k % 10 := by
        rw [UInt8.toNat_ofNat']
        omega
      rw [this]
      omega
    have HC : Sem.run Tryd.prog (convert 43 9 (.slice (some ⟨wr.heap.size, 0, none⟩) 1 1)) (wr.alloc (.cells #[.int .u8 (48 + (k : Int) % 10)] 5)) = .ok (.string ⟨[d].toArray⟩) (wr.alloc (.cells #[.int .u8 (48 + (k : Int) % 10)] 5)) := by
      refine run_convert_bytes_back _ 43 9 5 ⟨wr.heap.size, 0, none⟩ 1 [d] Tryd.underlying43 Tryd.underlying5 Tryd.underlying9 ?_
      intro j hj
      obtain rfl : j = 0 := by simpa using hj
      rw [Addr.add_lit, cell_of_row _ _ _ _ _ _ (heap_alloc_new wr _)]
      simp [hdn]
    have hBa : Below w.heap.size w (wr.alloc (.cells #[.int .u8 (48 + (k : Int) % 10)] 5)) := hB.alloc hB.size _
    have HAP : Hid ((⟨[d].toArray⟩ : ByteArray) ++ ⟨t.toArray⟩ = ⟨(d :: t).toArray⟩) := ByteArray.mk_append_mk _ _
    have hz1 : (⟨[d].toArray⟩ : ByteArray).size = 1 := rfl
    have hz2 : (⟨t.toArray⟩ : ByteArray).size = t.length := by simp [ByteArray.size]
    have f4 : ¬ 9223372036854775807 < 1 + t.length := by omega
    by_cases hk0 : k < 10
    · have q0 : ((k : Int) / 10) = 0 := by omega
      have HR : Hid (d :: t = Lib.decDigits v) := by
        show _ = _
        rw [← HD.out, Lib.decDigits_one hk0, ← hd]
        have : k % 10 = k := by omega
        rw [this]; rfl
      clear HD hd
      go_wp2_with fail
      go_ret
      exact ⟨congrArg (fun b => Ending.returned (.string b)) (HAP.out.trans (by rw [HR.out])), hBa⟩
    · obtain ⟨m, hm⟩ : ∃ m, k / 10 = m := ⟨_, rfl⟩
      have qw : IntKind.u64.wrap ((k : Int).tdiv 10) = (m : Int) := by
        rw [Int.tdiv_eq_ediv_of_nonneg (by omega), IntKind.wrap_u64]
        omega
      have qn : ((k : Int) / 10 == 0) = false := beq_eq_false_iff_ne.2 (by omega)
      have HQ : Hid ((k : Int) / 10 = (m : Int)) := by show _ = _; omega
      have hm1 : m < 18446744073709551616 := by omega
      have HM : Hid (m < k) := by show _ < _; omega
      have HR : Hid (Lib.decDigits m ++ (d :: t) = Lib.decDigits v) := by
        show _ = _
        rw [← HD.out, decDigits_more hk0, ← hd, hm]
        simp
      have HN : Hid ((d :: t).length + Lib.nDigits m ≤ 20) := by
        show _ ≤ _
        rw [Lib.nDigits_big hk0, hm] at ht
        simp
        omega
      clear HD hd ht hm
      go_wp2_with fail
      go_roundw
      case rel => exact ⟨m, d :: t, congrArg (Value.int .u64) HQ.out, congrArg Value.string HAP.out, hm1, HN.out, HR, hBa⟩
      case measure =>
        have := HM.out
        simp [intOf]
        omega
def hex16 : ByteArray := ⟨#[48, 49, 50, 51, 52, 53, 54, 55, 56, 57, 97, 98, 99, 100, 101, 102]⟩
theorem hex16_at : ∀ n : Fin 16, ((hex16.data[n.val]'(by show n.val < 16; omega)).toNat) = hexN n.val := by decide
theorem run_hex16 (n : Nat) (hn : n < 16) (k : IntKind) (w : World) : (Instr.index 9 (.string hex16) (.int k (n : Int))).run Tryd.prog w = .ok (.int .u8 (hexN n : Nat)) w := by
  rw [run_index_string (h := Tryd.underlying9), dif_pos ⟨by omega, by show (n : Int) < 16; omega⟩]
  exact congrArg (fun m : Nat => Result.ok (Value.int .u8 (m : Int)) w) (hex16_at ⟨n, hn⟩)
theorem wpList_hex16 {ops : Array Oper} {rest : List Oper} {o : Oper} {a : Act} {w : World} {Q : Exit → Act → World → Prop} (hg : o.guard = none) (x : Operand) (ho : o.op = .index 9 (.const (.string hex16)) x) (k : IntKind) (n : Nat) (hn : Hid (n < 16)) (hx : a.eval x = .int k (n : Int))
    (h : wpList Tryd.prog ops Q rest (a.put o.dst (.int .u8 (hexN n : Nat))) w) : wpList Tryd.prog ops Q (o :: rest) a w := by
  refine wpList_plain hg fun _ hK => ?_
  unfold Oper.wp execOp
  have e : a.eval (.const (.string hex16)) = .string hex16 := rfl
  simp only [ho, hx, e, Sem.run_bind, run_hex16 n hn.out, Sem.run_pure, Result.andThen_ok]
  exact hK _ _ h
theorem i64_and (u m : Nat) (k : Nat) (hm : m = 2 ^ k - 1) (h1 : u < 9223372036854775808) (h2 : m < 9223372036854775808) : bits .and .i64 (u : Int) (m : Int) = ((u % 2 ^ k : Nat) : Int) := by
  have e : bits .and .i64 (u : Int) (m : Int) = IntKind.i64.wrap (((BitVec.ofInt 64 (u : Int) &&& BitVec.ofInt 64 (m : Int)).toNat : Nat) : Int) := rfl
  rw [e, BitVec.toNat_and, BitVec.toNat_ofInt, BitVec.toNat_ofInt]
  have e1 : ((u : Int) % (2 ^ 64 : Nat)).toNat = u := by omega
  have e2 : ((m : Int) % (2 ^ 64 : Nat)).toNat = m := by omega
  rw [e1, e2, hm, Nat.and_two_pow_sub_one_eq_mod, IntKind.wrap_i64]
  have := Nat.mod_le u (2 ^ k)
  omega
theorem below_undrew {B : Nat} {w w' : World} (h : Below B w.drew w') : Below B w w' := ⟨h.os, h.tape, h.output, h.size, h.block⟩
theorem exec_hex16 {a : Act} {o : Oper} {x : Operand} (ho : o.op = .index 9 (.const (.string hex16)) x) (k : IntKind) (n : Nat) (hn : Hid (n < 16)) (hx : a.eval x = .int k (n : Int)) (u : World) : (execOp a.eval o).run Tryd.prog u = .ok (.value (.int .u8 (hexN n : Nat))) u := by
  unfold execOp
  have e : a.eval (.const (.string hex16)) = .string hex16 := rfl
  simp only [ho, hx, e, Sem.run_bind, run_hex16 n hn.out, Sem.run_pure, Result.andThen_ok]
set_option maxHeartbeats 4000000 in
set_option maxRecDepth 20000 in
theorem RefText_any (a : Int) (ha : In32 a) (w : World) :
    Calls Tryd.prog 23 #[.int .i32 a] w fun e w' => e = .returned (.string ⟨(textS a).toArray⟩) ∧ Below w.heap.size w w' := by
  obtain ⟨n, hn⟩ : ∃ n : Nat, n = a.natAbs := ⟨_, rfl⟩
  obtain ⟨f, hf⟩ : ∃ f : Nat, f = n % 65536 := ⟨_, rfl⟩
  obtain ⟨v, hv⟩ : ∃ v : Nat, v = n / 65536 := ⟨_, rfl⟩
  have h1 := ha.1; have h2 := ha.2
  have C2 := dec_ref v (by omega)
  have hd2 : (Lib.decDigits v).length ≤ 20 := by
    rw [Lib.decDigits_length]
    exact Lib.nDigits_le20 _ (by omega)
  obtain ⟨x0, g0⟩ : ∃ x0 : Nat, x0 = f % 16 := ⟨_, rfl⟩
  obtain ⟨x1, g1⟩ : ∃ x1 : Nat, x1 = f / 16 % 16 := ⟨_, rfl⟩
  obtain ⟨x2, g2⟩ : ∃ x2 : Nat, x2 = f / 256 % 16 := ⟨_, rfl⟩
  obtain ⟨x3, g3⟩ : ∃ x3 : Nat, x3 = f / 4096 := ⟨_, rfl⟩
  have hS : (hexS f).drop 1 = [hexB x3, hexB x2, hexB x1, hexB x0] := by
    rw [g0, g1, g2, g3, hexS]
    have : f / 4096 % 16 = f / 4096 := Nat.mod_eq_of_lt (by omega)
    rw [this]; rfl
  have HT : Hid (textS a = (if a < 0 then [45] else []) ++ (Lib.decDigits v ++ (46 :: [hexB x3, hexB x2, hexB x1, hexB x0]))) := hid_into (by rw [textS, ← hn, ← hv, ← hf, hS])
  have u0 : bits .and .i64 (n : Int) 65535 = (f : Int) := by rw [hf]; exact i64_and n 65535 16 rfl (by omega) (by decide)
  obtain ⟨y2, k2⟩ : ∃ y2 : Nat, y2 = f / 256 := ⟨_, rfl⟩
  obtain ⟨y1, k1⟩ : ∃ y1 : Nat, y1 = f / 16 := ⟨_, rfl⟩
  have u1 : bits .and .i64 (f : Int) 15 = (x0 : Int) := by rw [g0]; exact i64_and f 15 4 rfl (by omega) (by decide)
  have u2 : bits .and .i64 (y1 : Int) 15 = (x1 : Int) := by rw [g1, ← k1]; exact i64_and y1 15 4 rfl (by omega) (by decide)
  have u3 : bits .and .i64 (y2 : Int) 15 = (x2 : Int) := by rw [g2, ← k2]; exact i64_and y2 15 4 rfl (by omega) (by decide)
  have w1 : (f : Int) / 4096 = (x3 : Int) := by omega
  have w2 : (f : Int) / 256 = (y2 : Int) := by omega
  have w3 : (f : Int) / 16 = (y1 : Int) := by omega
  have w4 : (n : Int) / 65536 = (v : Int) := by omega
  have m0 : Hid (x0 < 16) := hid_into (by omega)
  have m1 : Hid (x1 < 16) := hid_into (by omega)
  have m2 : Hid (x2 < 16) := hid_into (by omega)
  have m3 : Hid (x3 < 16) := hid_into (by omega)
  have cu : IntKind.u64.wrap (v : Int) = (v : Int) := by rw [IntKind.wrap_u64]; omega
  have b0 := hexB_nat x0 m0.out; have b1 := hexB_nat x1 m1.out; have b2 := hexB_nat x2 m2.out; have b3 := hexB_nat x3 m3.out
  have HC : Hid (∀ (u : World) (g : Nat), u.heap[g]? = some (.cells #[.int .u8 (hexN x3 : Nat), .int .u8 (hexN x2 : Nat), .int .u8 (hexN x1 : Nat), .int .u8 (hexN x0 : Nat)] 5 (0, 0)) → Sem.run Tryd.prog (convert 43 9 (.slice (some ⟨g, 0, none⟩) 4 4)) u = .ok (.string ⟨[hexB x3, hexB x2, hexB x1, hexB x0].toArray⟩) u) := hid_into fun u g hu => by
      refine run_convert_bytes_back _ 43 9 5 ⟨g, 0, none⟩ 4 [hexB x3, hexB x2, hexB x1, hexB x0] Tryd.underlying43 Tryd.underlying5 Tryd.underlying9 ?_
      intro j hj
      have hj4 : j < 4 := hj
      rw [Addr.add_lit, cell_of_row _ _ _ _ _ _ hu]
      match j, hj4 with
      | 0, _ => simp [b3]
      | 1, _ => simp [b2]
      | 2, _ => simp [b1]
      | 3, _ => simp [b0]
  generalize Lib.decDigits v = d at *
  have hdz : (⟨d.toArray⟩ : ByteArray).size = d.length := by simp [ByteArray.size]
  clear b0 b1 b2 b3 hS g0 g1 g2 g3 k1 k2
  have hez : (⟨[hexB x3, hexB x2, hexB x1, hexB x0].toArray⟩ : ByteArray).size = 4 := rfl
  generalize [hexB x3, hexB x2, hexB x1, hexB x0] = tl at *
  have HE : Hid (d.length ≤ 20) := hid_into hd2
  by_cases hneg : a < 0
  · obtain ⟨U, hU⟩ : ∃ U : Int, U = (n : Int) := ⟨_, rfl⟩
    obtain rfl : a = -U := by omega
    rw [← hU] at u0 w4
    have q7 : wrap64 U = U := by unfold wrap64; omega
    have q6 : wrap64 (-U) = -U := by unfold wrap64; omega
    have q8 : 1 ≤ U := by omega
    rw [HT.out, if_pos hneg]
    have HAP : Hid (((⟨#[45]⟩ : ByteArray) ++ ⟨d.toArray⟩ ++ ⟨#[46]⟩ ++ ⟨tl.toArray⟩) = ⟨([45] ++ (d ++ 46 :: tl)).toArray⟩) := hid_into (by
      rw [show (⟨#[45]⟩ : ByteArray) = ⟨([45] : List UInt8).toArray⟩ from rfl, show (⟨#[46]⟩ : ByteArray) = ⟨[46].toArray⟩ from rfl, ByteArray.mk_append_mk, ByteArray.mk_append_mk, ByteArray.mk_append_mk]
      simp)
    have s1 : ((⟨#[45]⟩ : ByteArray) ++ ⟨d.toArray⟩).size = d.length + 1 := by rw [ByteArray.size_append, hdz]; exact Nat.add_comm _ _
    have s2 : ((⟨#[45]⟩ : ByteArray) ++ ⟨d.toArray⟩ ++ ⟨#[46]⟩).size = d.length + 2 := by rw [ByteArray.size_append, s1]; rfl
    have z1 : (⟨#[45]⟩ : ByteArray).size = 1 := rfl
    have z2 : (⟨#[46]⟩ : ByteArray).size = 1 := rfl
    generalize d.length = dl at *
    have t1 : ¬ 9223372036854775807 < 1 + dl := by omega
    have t2 : ¬ 9223372036854775807 < dl + 1 + 1 := by omega
    have t3 : ¬ 9223372036854775807 < dl + 2 + 4 := by omega
    have t4 : ¬ 9223372036854775807 < dl := by omega
    have t5 : ¬ 9223372036854775807 < dl + 1 := by omega
    have t6 : ¬ 9223372036854775807 < dl + 1 + 4 := by omega
    clear hn hf hv hd2 HE HT hU
    go_enter Tryd.func23, Tryd.ntmps23
    go_wp2
    have hS : True := trivial
    refine wp_region_L 24 (fun _ => True) (by kernel_rfl) ?_
    refine' wpL_take 0 14 rfl rfl (by kernel_rfl) (by kernel_rfl) (by kernel_rfl) (by kernel_rfl) (fun _ _ _ h => h) (by rfl) hS ?y14x1 ?r14x1
    case y14x1 => (intro u hSu; (try dsimp only at hSu); go_simp; try with_reducible rfl)
    simp only [Act.put, List.setIfInBounds_toArray, List.set_cons_zero, List.set_cons_succ]
    refine' wpL_take 1 15 rfl rfl (by kernel_rfl) (by kernel_rfl) (by kernel_rfl) (by kernel_rfl) (fun _ _ _ h => h) (by rfl) hS ?y15x1 ?r15x1
    case y15x1 => (intro u hSu; (try dsimp only at hSu); go_simp; try with_reducible rfl)
    simp only [Act.put, List.setIfInBounds_toArray, List.set_cons_zero, List.set_cons_succ]
    refine' wpL_take 2 16 rfl rfl (by kernel_rfl) (by kernel_rfl) (by kernel_rfl) (by kernel_rfl) (fun _ _ _ h => h) (by rfl) hS ?y16x1 ?r16x1
    case y16x1 => (intro u hSu; (try dsimp only at hSu); go_simp; try with_reducible rfl)
    simp only [Act.put, List.setIfInBounds_toArray, List.set_cons_zero, List.set_cons_succ]
    refine' wpL_take 3 17 rfl rfl (by kernel_rfl) (by kernel_rfl) (by kernel_rfl) (by kernel_rfl) (fun _ _ _ h => h) (by rfl) hS ?y17x1 ?r17x1
    case y17x1 => (intro u hSu; (try dsimp only at hSu); go_simp; try with_reducible rfl)
    simp only [Act.put, List.setIfInBounds_toArray, List.set_cons_zero, List.set_cons_succ]
    refine' wpL_take 7 21 rfl rfl (by kernel_rfl) (by kernel_rfl) (by kernel_rfl) (by kernel_rfl) (fun _ _ _ h => h) (by rfl) hS ?y21x1 ?r21x1
    case y21x1 => (intro u hSu; (try dsimp only at hSu); go_simp; try with_reducible rfl)
    simp only [Act.put, List.setIfInBounds_toArray, List.set_cons_zero, List.set_cons_succ]
    refine' wpL_take 8 22 rfl rfl (by kernel_rfl) (by kernel_rfl) (by kernel_rfl) (by kernel_rfl) (fun _ _ _ h => h) (by rfl) hS ?y22x1 ?r22x1
    case y22x1 => (intro u hSu; (try dsimp only at hSu); go_simp; try with_reducible rfl)
    simp only [Act.put, List.setIfInBounds_toArray, List.set_cons_zero, List.set_cons_succ]
    refine' wpL_take (v := .int .u8 (hexN x3 : Nat)) 9 23 rfl rfl (by kernel_rfl) (by kernel_rfl) (by kernel_rfl) (by kernel_rfl) (fun _ _ _ h => h) (by rfl) hS ?y23x1 ?r23x1
    case y23x1 => exact fun u _ => exec_hex16 rfl .i64 x3 m3 rfl u
    simp only [Act.put, List.setIfInBounds_toArray, List.set_cons_zero, List.set_cons_succ]
    refine' wpL_take 10 24 rfl rfl (by kernel_rfl) (by kernel_rfl) (by kernel_rfl) (by kernel_rfl) (fun _ _ _ h => h) (by rfl) hS ?y24x1 ?r24x1
    case y24x1 => (intro u hSu; (try dsimp only at hSu); go_simp; try with_reducible rfl)
    simp only [Act.put, List.setIfInBounds_toArray, List.set_cons_zero, List.set_cons_succ]
    refine' wpL_take 11 25 rfl rfl (by kernel_rfl) (by kernel_rfl) (by kernel_rfl) (by kernel_rfl) (fun _ _ _ h => h) (by rfl) hS ?y25x1 ?r25x1
    case y25x1 => (intro u hSu; (try dsimp only at hSu); go_simp; try with_reducible rfl)
    simp only [Act.put, List.setIfInBounds_toArray, List.set_cons_zero, List.set_cons_succ]
    refine' wpL_take 12 26 rfl rfl (by kernel_rfl) (by kernel_rfl) (by kernel_rfl) (by kernel_rfl) (fun _ _ _ h => h) (by rfl) hS ?y26x1 ?r26x1
    case y26x1 => (intro u hSu; (try dsimp only at hSu); go_simp; try with_reducible rfl)
    simp only [Act.put, List.setIfInBounds_toArray, List.set_cons_zero, List.set_cons_succ]
    refine' wpL_take (v := .int .u8 (hexN x2 : Nat)) 13 27 rfl rfl (by kernel_rfl) (by kernel_rfl) (by kernel_rfl) (by kernel_rfl) (fun _ _ _ h => h) (by rfl) hS ?y27x1 ?r27x1
    case y27x1 => exact fun u _ => exec_hex16 rfl .i64 x2 m2 rfl u
    simp only [Act.put, List.setIfInBounds_toArray, List.set_cons_zero, List.set_cons_succ]
    refine' wpL_take 14 28 rfl rfl (by kernel_rfl) (by kernel_rfl) (by kernel_rfl) (by kernel_rfl) (fun _ _ _ h => h) (by rfl) hS ?y28x1 ?r28x1
    case y28x1 => (intro u hSu; (try dsimp only at hSu); go_simp; try with_reducible rfl)
    simp only [Act.put, List.setIfInBounds_toArray, List.set_cons_zero, List.set_cons_succ]
    refine' wpL_take 15 29 rfl rfl (by kernel_rfl) (by kernel_rfl) (by kernel_rfl) (by kernel_rfl) (fun _ _ _ h => h) (by rfl) hS ?y29x1 ?r29x1
    case y29x1 => (intro u hSu; (try dsimp only at hSu); go_simp; try with_reducible rfl)
    simp only [Act.put, List.setIfInBounds_toArray, List.set_cons_zero, List.set_cons_succ]
    refine' wpL_take 16 30 rfl rfl (by kernel_rfl) (by kernel_rfl) (by kernel_rfl) (by kernel_rfl) (fun _ _ _ h => h) (by rfl) hS ?y30x1 ?r30x1
    case y30x1 => (intro u hSu; (try dsimp only at hSu); go_simp; try with_reducible rfl)
    simp only [Act.put, List.setIfInBounds_toArray, List.set_cons_zero, List.set_cons_succ]
    refine' wpL_take (v := .int .u8 (hexN x1 : Nat)) 17 31 rfl rfl (by kernel_rfl) (by kernel_rfl) (by kernel_rfl) (by kernel_rfl) (fun _ _ _ h => h) (by rfl) hS ?y31x1 ?r31x1
    case y31x1 => exact fun u _ => exec_hex16 rfl .i64 x1 m1 rfl u
    simp only [Act.put, List.setIfInBounds_toArray, List.set_cons_zero, List.set_cons_succ]
    refine' wpL_take 18 32 rfl rfl (by kernel_rfl) (by kernel_rfl) (by kernel_rfl) (by kernel_rfl) (fun _ _ _ h => h) (by rfl) hS ?y32x1 ?r32x1
    case y32x1 => (intro u hSu; (try dsimp only at hSu); go_simp; try with_reducible rfl)
    simp only [Act.put, List.setIfInBounds_toArray, List.set_cons_zero, List.set_cons_succ]
    refine' wpL_take 19 33 rfl rfl (by kernel_rfl) (by kernel_rfl) (by kernel_rfl) (by kernel_rfl) (fun _ _ _ h => h) (by rfl) hS ?y33x1 ?r33x1
    case y33x1 => (intro u hSu; (try dsimp only at hSu); go_simp; try with_reducible rfl)
    simp only [Act.put, List.setIfInBounds_toArray, List.set_cons_zero, List.set_cons_succ]
    refine' wpL_take (v := .int .u8 (hexN x0 : Nat)) 20 34 rfl rfl (by kernel_rfl) (by kernel_rfl) (by kernel_rfl) (by kernel_rfl) (fun _ _ _ h => h) (by rfl) hS ?y34x1 ?r34x1
    case y34x1 => exact fun u _ => exec_hex16 rfl .i64 x0 m0 rfl u
    simp only [Act.put, List.setIfInBounds_toArray, List.set_cons_zero, List.set_cons_succ]
    refine' wpL_two (i := 4) (j := 21) (by kernel_rfl) rfl rfl ?c1 ?c2
    case c1 =>
      intro K hK
      rw [if_pos (by rfl)]
      go_simp
      refine (C2 _).mono ?_
      rintro e w1 ⟨rfl, B1⟩
      dsimp only
      refine hK.out _ _ (fun _ => trivial) ?_
      clear hK K
      refine' wpL_take 5 19 rfl rfl (by kernel_rfl) (by kernel_rfl) (by kernel_rfl) (by kernel_rfl) (fun _ _ _ h => h) (by rfl) hS ?y19x2 ?r19x2
      case y19x2 => (intro u hSu; (try dsimp only at hSu); go_simp; try with_reducible rfl)
      simp only [Act.put, List.setIfInBounds_toArray, List.set_cons_zero, List.set_cons_succ]
      refine' wpL_take 6 20 rfl rfl (by kernel_rfl) (by kernel_rfl) (by kernel_rfl) (by kernel_rfl) (fun _ _ _ h => h) (by rfl) hS ?y20x2 ?r20x2
      case y20x2 => (intro u hSu; (try dsimp only at hSu); go_simp; try with_reducible rfl)
      simp only [Act.put, List.setIfInBounds_toArray, List.set_cons_zero, List.set_cons_succ]
      refine wpL_one (i := 21) (by kernel_rfl) rfl (fun K hK => ?_)
      rw [if_pos (by rfl)]
      go_simp
      refine hK.out _ _ (fun _ => trivial) ?_
      clear hK K
      have hcv := HC.out _ _ (heap_alloc_new w1 (.cells #[.int .u8 (hexN x3 : Nat), .int .u8 (hexN x2 : Nat), .int .u8 (hexN x1 : Nat), .int .u8 (hexN x0 : Nat)] 5))
      refine wpL_one (i := 22) (by kernel_rfl) rfl (fun K hK => ?_)
      rw [if_pos (by rfl)]
      go_simp
      refine hK.out _ _ (fun _ => trivial) ?_
      clear hK K
      refine' wpL_take 23 37 rfl rfl (by kernel_rfl) (by kernel_rfl) (by kernel_rfl) (by kernel_rfl) (fun _ _ _ h => h) (by rfl) hS ?y37x3 ?r37x3
      case y37x3 => (intro u hSu; (try dsimp only at hSu); go_simp; try with_reducible rfl)
      simp only [Act.put, List.setIfInBounds_toArray, List.set_cons_zero, List.set_cons_succ]
      refine wpL_one (i := 24) (by kernel_rfl) rfl (fun K hK => ?_)
      rw [if_pos (by rfl)]
      go_simp
      refine hK.out _ _ (fun _ => trivial) ?_
      clear hK K
      refine wpL_done (by kernel_rfl) ?_ _
      go_wp2
      go_ret
      exact ⟨congrArg (fun b => Ending.returned (.string b)) HAP.out, below_undrew (B1.alloc B1.size _)⟩
    case c2 =>
      intro K hK
      rw [if_pos (by rfl)]
      go_simp
      refine hK.out _ _ (fun _ => trivial) ?_
      clear hK K
      have hA : (w.alloc (.cells #[.int .u8 (hexN x3 : Nat), .int .u8 (hexN x2 : Nat), .int .u8 (hexN x1 : Nat), .int .u8 (hexN x0 : Nat)] 5)).drew.heap[w.heap.size]? = some (.cells #[.int .u8 (hexN x3 : Nat), .int .u8 (hexN x2 : Nat), .int .u8 (hexN x1 : Nat), .int .u8 (hexN x0 : Nat)] 5 (0, 0)) := heap_alloc_new w _
      have BA : Below w.heap.size w (w.alloc (.cells #[.int .u8 (hexN x3 : Nat), .int .u8 (hexN x2 : Nat), .int .u8 (hexN x1 : Nat), .int .u8 (hexN x0 : Nat)] 5)).drew := ((Below.refl _ _).alloc (Nat.le_refl _) _).drew
      have hsz : w.heap.size < (w.alloc (.cells #[.int .u8 (hexN x3 : Nat), .int .u8 (hexN x2 : Nat), .int .u8 (hexN x1 : Nat), .int .u8 (hexN x0 : Nat)] 5)).drew.heap.size := (Array.getElem?_eq_some_iff.1 hA).1
      have HAA := hid_into hA
      have HSZ := hid_into hsz
      clear hA hsz
      refine' wpL_two (i := 4) (j := 22) (by kernel_rfl) rfl rfl ?d1 ?d2
      case d1 =>
        intro K hK
        rw [if_pos (by rfl)]
        go_simp
        refine (C2 _).mono ?_
        rintro e w1 ⟨rfl, B1⟩
        dsimp only
        refine hK.out _ _ (fun _ => trivial) ?_
        clear hK K
        have hcv := HC.out w1 w.heap.size ((B1.block _ HSZ.out).trans HAA.out)
        refine' wpL_take 5 19 rfl rfl (by kernel_rfl) (by kernel_rfl) (by kernel_rfl) (by kernel_rfl) (fun _ _ _ h => h) (by rfl) hS ?y19x4 ?r19x4
        case y19x4 => (intro u hSu; (try dsimp only at hSu); go_simp; try with_reducible rfl)
        simp only [Act.put, List.setIfInBounds_toArray, List.set_cons_zero, List.set_cons_succ]
        refine' wpL_take 6 20 rfl rfl (by kernel_rfl) (by kernel_rfl) (by kernel_rfl) (by kernel_rfl) (fun _ _ _ h => h) (by rfl) hS ?y20x4 ?r20x4
        case y20x4 => (intro u hSu; (try dsimp only at hSu); go_simp; try with_reducible rfl)
        simp only [Act.put, List.setIfInBounds_toArray, List.set_cons_zero, List.set_cons_succ]
        refine wpL_one (i := 22) (by kernel_rfl) rfl (fun K hK => ?_)
        rw [if_pos (by rfl)]
        go_simp
        refine hK.out _ _ (fun _ => trivial) ?_
        clear hK K
        refine' wpL_take 23 37 rfl rfl (by kernel_rfl) (by kernel_rfl) (by kernel_rfl) (by kernel_rfl) (fun _ _ _ h => h) (by rfl) hS ?y37x5 ?r37x5
        case y37x5 => (intro u hSu; (try dsimp only at hSu); go_simp; try with_reducible rfl)
        simp only [Act.put, List.setIfInBounds_toArray, List.set_cons_zero, List.set_cons_succ]
        refine wpL_one (i := 24) (by kernel_rfl) rfl (fun K hK => ?_)
        rw [if_pos (by rfl)]
        go_simp
        refine hK.out _ _ (fun _ => trivial) ?_
        clear hK K
        refine wpL_done (by kernel_rfl) ?_ _
        go_wp2
        go_ret
        exact ⟨congrArg (fun b => Ending.returned (.string b)) HAP.out, BA.trans (B1.mono BA.size)⟩
      case d2 =>
        intro K hK
        rw [if_pos (by rfl)]
        have hcv := HC.out _ _ HAA.out
        go_simp
        refine hK.out _ _ (fun _ => trivial) ?_
        clear hK K
        refine wpL_one (i := 4) (by kernel_rfl) rfl (fun K hK => ?_)
        rw [if_pos (by rfl)]
        go_simp
        refine (C2 _).mono ?_
        rintro e w1 ⟨rfl, B1⟩
        dsimp only
        refine hK.out _ _ (fun _ => trivial) ?_
        clear hK K
        refine' wpL_take 5 19 rfl rfl (by kernel_rfl) (by kernel_rfl) (by kernel_rfl) (by kernel_rfl) (fun _ _ _ h => h) (by rfl) hS ?y19x6 ?r19x6
        case y19x6 => (intro u hSu; (try dsimp only at hSu); go_simp; try with_reducible rfl)
        simp only [Act.put, List.setIfInBounds_toArray, List.set_cons_zero, List.set_cons_succ]
        refine' wpL_take 6 20 rfl rfl (by kernel_rfl) (by kernel_rfl) (by kernel_rfl) (by kernel_rfl) (fun _ _ _ h => h) (by rfl) hS ?y20x6 ?r20x6
        case y20x6 => (intro u hSu; (try dsimp only at hSu); go_simp; try with_reducible rfl)
        simp only [Act.put, List.setIfInBounds_toArray, List.set_cons_zero, List.set_cons_succ]
        refine' wpL_take 23 37 rfl rfl (by kernel_rfl) (by kernel_rfl) (by kernel_rfl) (by kernel_rfl) (fun _ _ _ h => h) (by rfl) hS ?y37x7 ?r37x7
        case y37x7 => (intro u hSu; (try dsimp only at hSu); go_simp; try with_reducible rfl)
        simp only [Act.put, List.setIfInBounds_toArray, List.set_cons_zero, List.set_cons_succ]
        refine wpL_one (i := 24) (by kernel_rfl) rfl (fun K hK => ?_)
        rw [if_pos (by rfl)]
        go_simp
        refine hK.out _ _ (fun _ => trivial) ?_
        clear hK K
        refine wpL_done (by kernel_rfl) ?_ _
        go_wp2
        go_ret
        exact ⟨congrArg (fun b => Ending.returned (.string b)) HAP.out, BA.trans (B1.mono BA.size)⟩
  · obtain ⟨U, hU⟩ : ∃ U : Int, U = (n : Int) := ⟨_, rfl⟩
    obtain rfl : a = U := by omega
    rw [← hU] at u0 w4
    have q6 : wrap64 a = a := by unfold wrap64; omega
    rw [HT.out, if_neg hneg]
    have HAP : Hid (((⟨#[]⟩ : ByteArray) ++ ⟨d.toArray⟩ ++ ⟨#[46]⟩ ++ ⟨tl.toArray⟩) = ⟨([] ++ (d ++ 46 :: tl)).toArray⟩) := hid_into (by
      rw [show (⟨#[]⟩ : ByteArray) = ⟨([] : List UInt8).toArray⟩ from rfl, show (⟨#[46]⟩ : ByteArray) = ⟨[46].toArray⟩ from rfl, ByteArray.mk_append_mk, ByteArray.mk_append_mk, ByteArray.mk_append_mk]
      simp)
    have s1 : ((⟨#[]⟩ : ByteArray) ++ ⟨d.toArray⟩).size = d.length + 0 := by rw [ByteArray.size_append, hdz]; exact Nat.add_comm _ _
    have s2 : ((⟨#[]⟩ : ByteArray) ++ ⟨d.toArray⟩ ++ ⟨#[46]⟩).size = d.length + 1 := by rw [ByteArray.size_append, s1]; rfl
    have z1 : (⟨#[]⟩ : ByteArray).size = 0 := rfl
    have z2 : (⟨#[46]⟩ : ByteArray).size = 1 := rfl
    generalize d.length = dl at *
    have t1 : ¬ 9223372036854775807 < 0 + dl := by omega
    have t2 : ¬ 9223372036854775807 < dl + 0 + 1 := by omega
    have t3 : ¬ 9223372036854775807 < dl + 1 + 4 := by omega
    have t4 : ¬ 9223372036854775807 < dl := by omega
    have t5 : ¬ 9223372036854775807 < dl + 1 := by omega
    have t6 : ¬ 9223372036854775807 < dl + 1 + 4 := by omega
    clear hn hf hv hd2 HE HT hU
    go_enter Tryd.func23, Tryd.ntmps23
    go_wp2
    have hS : True := trivial
    refine wp_region_L 24 (fun _ => True) (by kernel_rfl) ?_
    refine' wpL_take 0 14 rfl rfl (by kernel_rfl) (by kernel_rfl) (by kernel_rfl) (by kernel_rfl) (fun _ _ _ h => h) (by rfl) hS ?y14x8 ?r14x8
    case y14x8 => (intro u hSu; (try dsimp only at hSu); go_simp; try with_reducible rfl)
    simp only [Act.put, List.setIfInBounds_toArray, List.set_cons_zero, List.set_cons_succ]
    refine' wpL_take 1 15 rfl rfl (by kernel_rfl) (by kernel_rfl) (by kernel_rfl) (by kernel_rfl) (fun _ _ _ h => h) (by rfl) hS ?y15x8 ?r15x8
    case y15x8 => (intro u hSu; (try dsimp only at hSu); go_simp; try with_reducible rfl)
    simp only [Act.put, List.setIfInBounds_toArray, List.set_cons_zero, List.set_cons_succ]
    refine' wpL_take 2 16 rfl rfl (by kernel_rfl) (by kernel_rfl) (by kernel_rfl) (by kernel_rfl) (fun _ _ _ h => h) (by rfl) hS ?y16x8 ?r16x8
    case y16x8 => (intro u hSu; (try dsimp only at hSu); go_simp; try with_reducible rfl)
    simp only [Act.put, List.setIfInBounds_toArray, List.set_cons_zero, List.set_cons_succ]
    refine' wpL_take 3 17 rfl rfl (by kernel_rfl) (by kernel_rfl) (by kernel_rfl) (by kernel_rfl) (fun _ _ _ h => h) (by rfl) hS ?y17x8 ?r17x8
    case y17x8 => (intro u hSu; (try dsimp only at hSu); go_simp; try with_reducible rfl)
    simp only [Act.put, List.setIfInBounds_toArray, List.set_cons_zero, List.set_cons_succ]
    refine' wpL_take 7 21 rfl rfl (by kernel_rfl) (by kernel_rfl) (by kernel_rfl) (by kernel_rfl) (fun _ _ _ h => h) (by rfl) hS ?y21x8 ?r21x8
    case y21x8 => (intro u hSu; (try dsimp only at hSu); go_simp; try with_reducible rfl)
    simp only [Act.put, List.setIfInBounds_toArray, List.set_cons_zero, List.set_cons_succ]
    refine' wpL_take 8 22 rfl rfl (by kernel_rfl) (by kernel_rfl) (by kernel_rfl) (by kernel_rfl) (fun _ _ _ h => h) (by rfl) hS ?y22x8 ?r22x8
    case y22x8 => (intro u hSu; (try dsimp only at hSu); go_simp; try with_reducible rfl)
    simp only [Act.put, List.setIfInBounds_toArray, List.set_cons_zero, List.set_cons_succ]
    refine' wpL_take (v := .int .u8 (hexN x3 : Nat)) 9 23 rfl rfl (by kernel_rfl) (by kernel_rfl) (by kernel_rfl) (by kernel_rfl) (fun _ _ _ h => h) (by rfl) hS ?y23x8 ?r23x8
    case y23x8 => exact fun u _ => exec_hex16 rfl .i64 x3 m3 rfl u
    simp only [Act.put, List.setIfInBounds_toArray, List.set_cons_zero, List.set_cons_succ]
    refine' wpL_take 10 24 rfl rfl (by kernel_rfl) (by kernel_rfl) (by kernel_rfl) (by kernel_rfl) (fun _ _ _ h => h) (by rfl) hS ?y24x8 ?r24x8
    case y24x8 => (intro u hSu; (try dsimp only at hSu); go_simp; try with_reducible rfl)
    simp only [Act.put, List.setIfInBounds_toArray, List.set_cons_zero, List.set_cons_succ]
    refine' wpL_take 11 25 rfl rfl (by kernel_rfl) (by kernel_rfl) (by kernel_rfl) (by kernel_rfl) (fun _ _ _ h => h) (by rfl) hS ?y25x8 ?r25x8
    case y25x8 => (intro u hSu; (try dsimp only at hSu); go_simp; try with_reducible rfl)
    simp only [Act.put, List.setIfInBounds_toArray, List.set_cons_zero, List.set_cons_succ]
    refine' wpL_take 12 26 rfl rfl (by kernel_rfl) (by kernel_rfl) (by kernel_rfl) (by kernel_rfl) (fun _ _ _ h => h) (by rfl) hS ?y26x8 ?r26x8
    case y26x8 => (intro u hSu; (try dsimp only at hSu); go_simp; try with_reducible rfl)
    simp only [Act.put, List.setIfInBounds_toArray, List.set_cons_zero, List.set_cons_succ]
    refine' wpL_take (v := .int .u8 (hexN x2 : Nat)) 13 27 rfl rfl (by kernel_rfl) (by kernel_rfl) (by kernel_rfl) (by kernel_rfl) (fun _ _ _ h => h) (by rfl) hS ?y27x8 ?r27x8
    case y27x8 => exact fun u _ => exec_hex16 rfl .i64 x2 m2 rfl u
    simp only [Act.put, List.setIfInBounds_toArray, List.set_cons_zero, List.set_cons_succ]
    refine' wpL_take 14 28 rfl rfl (by kernel_rfl) (by kernel_rfl) (by kernel_rfl) (by kernel_rfl) (fun _ _ _ h => h) (by rfl) hS ?y28x8 ?r28x8
    case y28x8 => (intro u hSu; (try dsimp only at hSu); go_simp; try with_reducible rfl)
    simp only [Act.put, List.setIfInBounds_toArray, List.set_cons_zero, List.set_cons_succ]
    refine' wpL_take 15 29 rfl rfl (by kernel_rfl) (by kernel_rfl) (by kernel_rfl) (by kernel_rfl) (fun _ _ _ h => h) (by rfl) hS ?y29x8 ?r29x8
    case y29x8 => (intro u hSu; (try dsimp only at hSu); go_simp; try with_reducible rfl)
    simp only [Act.put, List.setIfInBounds_toArray, List.set_cons_zero, List.set_cons_succ]
    refine' wpL_take 16 30 rfl rfl (by kernel_rfl) (by kernel_rfl) (by kernel_rfl) (by kernel_rfl) (fun _ _ _ h => h) (by rfl) hS ?y30x8 ?r30x8
    case y30x8 => (intro u hSu; (try dsimp only at hSu); go_simp; try with_reducible rfl)
    simp only [Act.put, List.setIfInBounds_toArray, List.set_cons_zero, List.set_cons_succ]
    refine' wpL_take (v := .int .u8 (hexN x1 : Nat)) 17 31 rfl rfl (by kernel_rfl) (by kernel_rfl) (by kernel_rfl) (by kernel_rfl) (fun _ _ _ h => h) (by rfl) hS ?y31x8 ?r31x8
    case y31x8 => exact fun u _ => exec_hex16 rfl .i64 x1 m1 rfl u
    simp only [Act.put, List.setIfInBounds_toArray, List.set_cons_zero, List.set_cons_succ]
    refine' wpL_take 18 32 rfl rfl (by kernel_rfl) (by kernel_rfl) (by kernel_rfl) (by kernel_rfl) (fun _ _ _ h => h) (by rfl) hS ?y32x8 ?r32x8
    case y32x8 => (intro u hSu; (try dsimp only at hSu); go_simp; try with_reducible rfl)
    simp only [Act.put, List.setIfInBounds_toArray, List.set_cons_zero, List.set_cons_succ]
    refine' wpL_take 19 33 rfl rfl (by kernel_rfl) (by kernel_rfl) (by kernel_rfl) (by kernel_rfl) (fun _ _ _ h => h) (by rfl) hS ?y33x8 ?r33x8
    case y33x8 => (intro u hSu; (try dsimp only at hSu); go_simp; try with_reducible rfl)
    simp only [Act.put, List.setIfInBounds_toArray, List.set_cons_zero, List.set_cons_succ]
    refine' wpL_take (v := .int .u8 (hexN x0 : Nat)) 20 34 rfl rfl (by kernel_rfl) (by kernel_rfl) (by kernel_rfl) (by kernel_rfl) (fun _ _ _ h => h) (by rfl) hS ?y34x8 ?r34x8
    case y34x8 => exact fun u _ => exec_hex16 rfl .i64 x0 m0 rfl u
    simp only [Act.put, List.setIfInBounds_toArray, List.set_cons_zero, List.set_cons_succ]
    refine' wpL_two (i := 4) (j := 21) (by kernel_rfl) rfl rfl ?c1b ?c2b
    case c1b =>
      intro K hK
      rw [if_pos (by rfl)]
      go_simp
      refine (C2 _).mono ?_
      rintro e w1 ⟨rfl, B1⟩
      dsimp only
      refine hK.out _ _ (fun _ => trivial) ?_
      clear hK K
      refine' wpL_take 5 19 rfl rfl (by kernel_rfl) (by kernel_rfl) (by kernel_rfl) (by kernel_rfl) (fun _ _ _ h => h) (by rfl) hS ?y19x9 ?r19x9
      case y19x9 => (intro u hSu; (try dsimp only at hSu); go_simp; try with_reducible rfl)
      simp only [Act.put, List.setIfInBounds_toArray, List.set_cons_zero, List.set_cons_succ]
      refine' wpL_take 6 20 rfl rfl (by kernel_rfl) (by kernel_rfl) (by kernel_rfl) (by kernel_rfl) (fun _ _ _ h => h) (by rfl) hS ?y20x9 ?r20x9
      case y20x9 => (intro u hSu; (try dsimp only at hSu); go_simp; try with_reducible rfl)
      simp only [Act.put, List.setIfInBounds_toArray, List.set_cons_zero, List.set_cons_succ]
      refine wpL_one (i := 21) (by kernel_rfl) rfl (fun K hK => ?_)
      rw [if_pos (by rfl)]
      go_simp
      refine hK.out _ _ (fun _ => trivial) ?_
      clear hK K
      have hcv := HC.out _ _ (heap_alloc_new w1 (.cells #[.int .u8 (hexN x3 : Nat), .int .u8 (hexN x2 : Nat), .int .u8 (hexN x1 : Nat), .int .u8 (hexN x0 : Nat)] 5))
      refine wpL_one (i := 22) (by kernel_rfl) rfl (fun K hK => ?_)
      rw [if_pos (by rfl)]
      go_simp
      refine hK.out _ _ (fun _ => trivial) ?_
      clear hK K
      refine' wpL_take 23 37 rfl rfl (by kernel_rfl) (by kernel_rfl) (by kernel_rfl) (by kernel_rfl) (fun _ _ _ h => h) (by rfl) hS ?y37x10 ?r37x10
      case y37x10 => (intro u hSu; (try dsimp only at hSu); go_simp; try with_reducible rfl)
      simp only [Act.put, List.setIfInBounds_toArray, List.set_cons_zero, List.set_cons_succ]
      refine wpL_one (i := 24) (by kernel_rfl) rfl (fun K hK => ?_)
      rw [if_pos (by rfl)]
      go_simp
      refine hK.out _ _ (fun _ => trivial) ?_
      clear hK K
      refine wpL_done (by kernel_rfl) ?_ _
      go_wp2
      go_ret
      exact ⟨congrArg (fun b => Ending.returned (.string b)) HAP.out, below_undrew (B1.alloc B1.size _)⟩
    case c2b =>
      intro K hK
      rw [if_pos (by rfl)]
      go_simp
      refine hK.out _ _ (fun _ => trivial) ?_
      clear hK K
      have hA : (w.alloc (.cells #[.int .u8 (hexN x3 : Nat), .int .u8 (hexN x2 : Nat), .int .u8 (hexN x1 : Nat), .int .u8 (hexN x0 : Nat)] 5)).drew.heap[w.heap.size]? = some (.cells #[.int .u8 (hexN x3 : Nat), .int .u8 (hexN x2 : Nat), .int .u8 (hexN x1 : Nat), .int .u8 (hexN x0 : Nat)] 5 (0, 0)) := heap_alloc_new w _
      have BA : Below w.heap.size w (w.alloc (.cells #[.int .u8 (hexN x3 : Nat), .int .u8 (hexN x2 : Nat), .int .u8 (hexN x1 : Nat), .int .u8 (hexN x0 : Nat)] 5)).drew := ((Below.refl _ _).alloc (Nat.le_refl _) _).drew
      have hsz : w.heap.size < (w.alloc (.cells #[.int .u8 (hexN x3 : Nat), .int .u8 (hexN x2 : Nat), .int .u8 (hexN x1 : Nat), .int .u8 (hexN x0 : Nat)] 5)).drew.heap.size := (Array.getElem?_eq_some_iff.1 hA).1
      have HAA := hid_into hA
      have HSZ := hid_into hsz
      clear hA hsz
      refine' wpL_two (i := 4) (j := 22) (by kernel_rfl) rfl rfl ?d1b ?d2b
      case d1b =>
        intro K hK
        rw [if_pos (by rfl)]
        go_simp
        refine (C2 _).mono ?_
        rintro e w1 ⟨rfl, B1⟩
        dsimp only
        refine hK.out _ _ (fun _ => trivial) ?_
        clear hK K
        have hcv := HC.out w1 w.heap.size ((B1.block _ HSZ.out).trans HAA.out)
        refine' wpL_take 5 19 rfl rfl (by kernel_rfl) (by kernel_rfl) (by kernel_rfl) (by kernel_rfl) (fun _ _ _ h => h) (by rfl) hS ?y19x11 ?r19x11
        case y19x11 => (intro u hSu; (try dsimp only at hSu); go_simp; try with_reducible rfl)
        simp only [Act.put, List.setIfInBounds_toArray, List.set_cons_zero, List.set_cons_succ]
        refine' wpL_take 6 20 rfl rfl (by kernel_rfl) (by kernel_rfl) (by kernel_rfl) (by kernel_rfl) (fun _ _ _ h => h) (by rfl) hS ?y20x11 ?r20x11
        case y20x11 => (intro u hSu; (try dsimp only at hSu); go_simp; try with_reducible rfl)
        simp only [Act.put, List.setIfInBounds_toArray, List.set_cons_zero, List.set_cons_succ]
        refine wpL_one (i := 22) (by kernel_rfl) rfl (fun K hK => ?_)
        rw [if_pos (by rfl)]
        go_simp
        refine hK.out _ _ (fun _ => trivial) ?_
        clear hK K
        refine' wpL_take 23 37 rfl rfl (by kernel_rfl) (by kernel_rfl) (by kernel_rfl) (by kernel_rfl) (fun _ _ _ h => h) (by rfl) hS ?y37x12 ?r37x12
        case y37x12 => (intro u hSu; (try dsimp only at hSu); go_simp; try with_reducible rfl)
        simp only [Act.put, List.setIfInBounds_toArray, List.set_cons_zero, List.set_cons_succ]
        refine wpL_one (i := 24) (by kernel_rfl) rfl (fun K hK => ?_)
        rw [if_pos (by rfl)]
        go_simp
        refine hK.out _ _ (fun _ => trivial) ?_
        clear hK K
        refine wpL_done (by kernel_rfl) ?_ _
        go_wp2
        go_ret
        exact ⟨congrArg (fun b => Ending.returned (.string b)) HAP.out, BA.trans (B1.mono BA.size)⟩
      case d2b =>
        intro K hK
        rw [if_pos (by rfl)]
        have hcv := HC.out _ _ HAA.out
        go_simp
        refine hK.out _ _ (fun _ => trivial) ?_
        clear hK K
        refine wpL_one (i := 4) (by kernel_rfl) rfl (fun K hK => ?_)
        rw [if_pos (by rfl)]
        go_simp
        refine (C2 _).mono ?_
        rintro e w1 ⟨rfl, B1⟩
        dsimp only
        refine hK.out _ _ (fun _ => trivial) ?_
        clear hK K
        refine' wpL_take 5 19 rfl rfl (by kernel_rfl) (by kernel_rfl) (by kernel_rfl) (by kernel_rfl) (fun _ _ _ h => h) (by rfl) hS ?y19x13 ?r19x13
        case y19x13 => (intro u hSu; (try dsimp only at hSu); go_simp; try with_reducible rfl)
        simp only [Act.put, List.setIfInBounds_toArray, List.set_cons_zero, List.set_cons_succ]
        refine' wpL_take 6 20 rfl rfl (by kernel_rfl) (by kernel_rfl) (by kernel_rfl) (by kernel_rfl) (fun _ _ _ h => h) (by rfl) hS ?y20x13 ?r20x13
        case y20x13 => (intro u hSu; (try dsimp only at hSu); go_simp; try with_reducible rfl)
        simp only [Act.put, List.setIfInBounds_toArray, List.set_cons_zero, List.set_cons_succ]
        refine' wpL_take 23 37 rfl rfl (by kernel_rfl) (by kernel_rfl) (by kernel_rfl) (by kernel_rfl) (fun _ _ _ h => h) (by rfl) hS ?y37x14 ?r37x14
        case y37x14 => (intro u hSu; (try dsimp only at hSu); go_simp; try with_reducible rfl)
        simp only [Act.put, List.setIfInBounds_toArray, List.set_cons_zero, List.set_cons_succ]
        refine wpL_one (i := 24) (by kernel_rfl) rfl (fun K hK => ?_)
        rw [if_pos (by rfl)]
        go_simp
        refine hK.out _ _ (fun _ => trivial) ?_
        clear hK K
        refine wpL_done (by kernel_rfl) ?_ _
        go_wp2
        go_ret
        exact ⟨congrArg (fun b => Ending.returned (.string b)) HAP.out, BA.trans (B1.mono BA.size)⟩
end Go.Proofs.YtfciaohicbchgaaDoor
