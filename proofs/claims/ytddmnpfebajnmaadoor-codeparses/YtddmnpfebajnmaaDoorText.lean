/-
  Numbers and instructions as text: Itoa, the document's Dec and Whole; the document's names.
-/
import Derived.Test.YtddmnpfebajnmaaDoorTable
import Derived.Test.YtddmnpfebajnmaaDoorShelf
import Derived.Lib.ItoaLen
import Derived.Sort.EncStr
import Derived.Laws.IdiomStrings
namespace Go.Proofs.YtddmnpfebajnmaaDoor
open Go.RowKit Go.Sort
/-- The table of tens. -/
def Pw (w : World) : Prop := Lib.TabIs Tryd.prog w "internal/strconv.uint64pow10" .u64 Lib.pow10Tab
theorem globPw : Tryd.prog.globalNamed "internal/strconv.uint64pow10" = some 3 := by kernel_rfl
theorem Pw.keep {w w' : World} (h : Pw w) (hk : w'.heap[3]? = w.heap[3]?) : Pw w' := by
  unfold Pw Lib.TabIs World.var? at h ⊢
  rw [globPw] at h ⊢
  simp only [Option.bind_some, hk] at h ⊢
  exact h
/-- The table of tens, and that the program's own variables are there. -/
structure Tp (w : World) : Prop where
  pw : Pw w
  sz : 6 ≤ w.heap.size
theorem Tp.below {w w' : World} (h : Tp w) {B : Nat} (hb : Below B w w') (hB : w.heap.size ≤ B) : Tp w' := ⟨h.pw.keep (hb.block 3 (by have := h.sz; omega)), Nat.le_trans h.sz hb.size⟩
theorem Tp.sm {w w' : World} (h : Tp w) (hb : Sm w w') : Tp w' := h.below (hb.below _) (Nat.le_refl _)
theorem grow_below (w : World) (k : Nat) (os : Array Obj) : Below w.heap.size w (Sort.grow (w.drewN k) os) := ⟨rfl, rfl, rfl, by show w.heap.size ≤ (w.heap ++ os).size; rw [Array.size_append]; omega, fun j hj => by
    show (w.heap ++ os)[j]? = _
    rw [Array.getElem?_append_left hj]⟩
/-- Numbers that an int holds. -/
def In64 (a : Int) : Prop := -9223372036854775808 ≤ a ∧ a ≤ 9223372036854775807
theorem itoa_any (n : Int) (hn : In64 n) (w : World) (h : Tp w) : Calls Tryd.prog 55 #[.int .i64 n] w fun e w' => e = .returned (.string ⟨(Lib.itoa n).toArray⟩) ∧ Below w.heap.size w w' := by
  refine (Any.strconv_Itoa (ρ := sh_laysM171_ren) sh_laysM171 n hn.1 hn.2 w h.pw).mono ?_
  rintro e w' ⟨he, k, os, rfl⟩
  exact ⟨he, grow_below w k os⟩
/-- An instruction's line. -/
def lineL (x : Ii) : List UInt8 := nameL x.1.toNat ++ (if hasA x.1 then 32 :: Lib.itoa x.2 else [])
theorem itoa_len (a : Int) (h : In64 a) : (Lib.itoa a).length ≤ 21 := by
  unfold Lib.itoa
  split
  · rw [List.length_cons, Lib.decDigits_length]
    have := Lib.nDigits_le20 a.natAbs (by have := h.1; omega)
    omega
  · rw [Lib.decDigits_length]
    have := Lib.nDigits_le20 a.toNat (by have := h.2; omega)
    omega
theorem nameL_len (n : Nat) : (nameL n).length ≤ 5 := by
  unfold nameL
  split <;> simp
theorem lineL_len (x : Ii) (h : In64 x.2) : (lineL x).length ≤ 27 := by
  have h1 := nameL_len x.1.toNat
  have h2 := itoa_len x.2 h
  unfold lineL
  rw [List.length_append]
  split
  · rw [List.length_cons]; omega
  · simp; omega
theorem decDigits_more {k : Nat} (h : ¬ k < 10) : Lib.decDigits k = Lib.decDigits (k / 10) ++ [UInt8.ofNat (48 + k % 10)] := by
  rw [Lib.decDigits, dif_neg h]
set_option maxHeartbeats 2000000 in
set_option maxRecDepth 100000 in
theorem dec_ref (v : Nat) (hv : v < 18446744073709551616) (w : World) :
    Calls Tryd.prog 68 #[.int .u64 (v : Int)] w fun e w' => e = .returned (encStr (Lib.decDigits v)) ∧ Below w.heap.size w w' := by
  go_enter Tryd.func68, Tryd.ntmps68
  go_wp2
  go_loopw [0, 3] (fun a s wr => ∃ (k : Nat) (t : List UInt8), a = .int .u64 (k : Int) ∧ s = encStr t ∧ k < 18446744073709551616 ∧ t.length + Lib.nDigits k ≤ 20 ∧ Hid (Lib.decDigits k ++ t = Lib.decDigits v) ∧ Below w.heap.size w wr) (fun a _ _ => (intOf a).toNat)
  case atStart => exact ⟨v, [], rfl, rfl, hv, by have := Lib.nDigits_le20 v hv; simpa using this, by show _ = _; simp, Below.refl _ _⟩
  case round =>
    obtain ⟨k, t, rfl, rfl, hk, ht, HD, hB⟩ := hrel
    have hn1 := Lib.nDigits_pos k
    have htl : t.length ≤ 19 := by omega
    obtain ⟨d, hd⟩ : ∃ d, UInt8.ofNat (48 + k % 10) = d := ⟨_, rfl⟩
    have hdn : (d.toNat : Int) = 48 + (k : Int) % 10 := by
      rw [← hd]
      have : (UInt8.ofNat (48 + k % 10)).toNat = 48 + k % 10 := by
        rw [UInt8.toNat_ofNat']
        omega
      rw [this]
      omega
    have HC : Sem.run Tryd.prog (convert 28 9 (.slice (some ⟨wr.heap.size, 0, none⟩) 1 1)) (wr.alloc (.cells #[.int .u8 (48 + (k : Int) % 10)] 5)) = .ok (.string ⟨[d].toArray⟩) (wr.alloc (.cells #[.int .u8 (48 + (k : Int) % 10)] 5)) := by
      refine run_convert_bytes_back _ 28 9 5 ⟨wr.heap.size, 0, none⟩ 1 [d] Tryd.underlying28 Tryd.underlying5 Tryd.underlying9 ?_
      intro j hj
      obtain rfl : j = 0 := by simpa using hj
      rw [Addr.add_lit, cell_of_row _ _ _ _ _ _ (heap_alloc_new wr _)]
      simp [hdn]
    have hBa : Below w.heap.size w (wr.alloc (.cells #[.int .u8 (48 + (k : Int) % 10)] 5)) := hB.alloc hB.size _
    have HAP : Hid ((⟨[d].toArray⟩ : ByteArray) ++ ⟨t.toArray⟩ = ⟨(d :: t).toArray⟩) := ByteArray.mk_append_mk _ _
    have hz1 : (⟨[d].toArray⟩ : ByteArray).size = 1 := rfl
    have hz2 : (⟨t.toArray⟩ : ByteArray).size = t.length := by simp [ByteArray.size]
    have f4 : ¬ 9223372036854775807 < 1 + t.length := by omega
    by_cases hk0 : k < 10
    · have q0 : ((k : Int) / 10) = 0 := by omega
      have HR : Hid (d :: t = Lib.decDigits v) := by
        show _ = _
        rw [← HD.out, Lib.decDigits_one hk0, ← hd]
        have : k % 10 = k := by omega
        rw [this]; rfl
      clear HD hd
      go_wp2_with fail
      go_ret
      exact ⟨congrArg (fun b => Ending.returned (.string b)) (HAP.out.trans (by rw [HR.out])), hBa⟩
    · obtain ⟨m, hm⟩ : ∃ m, k / 10 = m := ⟨_, rfl⟩
      have qw : IntKind.u64.wrap ((k : Int).tdiv 10) = (m : Int) := by
        rw [Int.tdiv_eq_ediv_of_nonneg (by omega), IntKind.wrap_u64]
        omega
      have qn : ((k : Int) / 10 == 0) = false := beq_eq_false_iff_ne.2 (by omega)
      have HQ : Hid ((k : Int) / 10 = (m : Int)) := by show _ = _; omega
      have hm1 : m < 18446744073709551616 := by omega
      have HM : Hid (m < k) := by show _ < _; omega
      have HR : Hid (Lib.decDigits m ++ (d :: t) = Lib.decDigits v) := by
        show _ = _
        rw [← HD.out, decDigits_more hk0, ← hd, hm]
        simp
      have HN : Hid ((d :: t).length + Lib.nDigits m ≤ 20) := by
        show _ ≤ _
        rw [Lib.nDigits_big hk0, hm] at ht
        simp
        omega
      clear HD hd ht hm
      go_wp2_with fail
      go_roundw
      case rel => exact ⟨m, d :: t, congrArg (Value.int .u64) HQ.out, congrArg Value.string HAP.out, hm1, HN.out, HR, hBa⟩
      case measure =>
        have := HM.out
        simp [intOf]
        omega

set_option maxRecDepth 20000 in
set_option maxHeartbeats 2000000 in
theorem whole_any (a : Int) (ha : In64 a) (w : World) : Calls Tryd.prog 57 #[.int .i64 a] w fun e w' => e = .returned (.string ⟨(Lib.itoa a).toArray⟩) ∧ Below w.heap.size w w' := by
  have h1 := ha.1; have h2 := ha.2
  by_cases hneg : a < 0
  · obtain ⟨n, hn⟩ : ∃ n : Nat, n = a.natAbs := ⟨_, rfl⟩
    have HT : Hid (Lib.itoa a = 45 :: Lib.decDigits n) := hid_into (by rw [Lib.itoa, if_pos hneg, hn])
    have C := fun W => dec_ref n (by omega) W
    have hd : (Lib.decDigits n).length ≤ 20 := by rw [Lib.decDigits_length]; exact Lib.nDigits_le20 _ (by omega)
    have hdz : (⟨(Lib.decDigits n).toArray⟩ : ByteArray).size = (Lib.decDigits n).length := by simp [ByteArray.size]
    have HA : Hid ((⟨#[45]⟩ : ByteArray) ++ ⟨(Lib.decDigits n).toArray⟩ = ⟨(45 :: Lib.decDigits n).toArray⟩) := hid_into (ByteArray.mk_append_mk _ _)
    generalize Lib.decDigits n = d at *
    have z1 : (⟨#[45]⟩ : ByteArray).size = 1 := rfl
    have t1 : ¬ 9223372036854775807 < 1 + d.length := by omega
    have q0 : wrap64 (a + 1) = a + 1 := by unfold wrap64; omega
    have q1 : wrap64 (-(a + 1)) = -(a + 1) := by unfold wrap64; omega
    have q2 : IntKind.u64.wrap (-(a + 1)) = -(a + 1) := by rw [IntKind.wrap_u64]; omega
    have q3 : IntKind.u64.wrap (-(a + 1) + 1) = (n : Int) := by rw [IntKind.wrap_u64]; omega
    clear hn
    go_enter Tryd.func57, Tryd.ntmps57
    go_wp2_with (go_at_call 68; refine (C _).mono ?_; rintro e w1 ⟨rfl, B1⟩)
    go_ret
    exact ⟨congrArg (fun b => Ending.returned (.string b)) (HA.out.trans (by rw [HT.out])), B1⟩
  · obtain ⟨n, rfl⟩ := Int.eq_ofNat_of_zero_le (show 0 ≤ a by omega)
    have HT : Hid (Lib.itoa ((n : Nat) : Int) = Lib.decDigits n) := hid_into (Lib.itoa_nonneg _)
    have C := fun W => dec_ref n (by omega) W
    have q2 : IntKind.u64.wrap (n : Int) = (n : Int) := by rw [IntKind.wrap_u64]; omega
    go_enter Tryd.func57, Tryd.ntmps57
    go_wp2_with (go_at_call 68; refine (C _).mono ?_; rintro e w1 ⟨rfl, B1⟩)
    go_ret
    exact ⟨congrArg (fun l : List UInt8 => Ending.returned (.string ⟨l.toArray⟩)) HT.out.symm, B1⟩
def namesR : List Value := [.string ⟨#[]⟩, .string ⟨#[112, 117, 115, 104]⟩, .string ⟨#[108, 111, 97, 100]⟩, .string ⟨#[115, 116, 111, 114, 101]⟩, .string ⟨#[97, 100, 100]⟩, .string ⟨#[115, 117, 98]⟩, .string ⟨#[109, 117, 108]⟩, .string ⟨#[100, 105, 118]⟩, .string ⟨#[109, 105, 110]⟩, .string ⟨#[109, 97, 120]⟩, .string ⟨#[108, 101, 115, 115]⟩, .string ⟨#[115, 97, 109, 101]⟩, .string ⟨#[110, 111, 116]⟩, .string ⟨#[100, 117, 112]⟩, .string ⟨#[115, 119, 97, 112]⟩, .string ⟨#[100, 114, 111, 112]⟩, .string ⟨#[105, 110]⟩, .string ⟨#[102, 114, 97, 109, 101]⟩, .string ⟨#[106, 117, 109, 112]⟩, .string ⟨#[122, 101, 114, 111]⟩, .string ⟨#[119, 105, 110]⟩, .string ⟨#[114, 97, 110, 100]⟩, .string ⟨#[104, 97, 108, 116]⟩]
theorem namesR_at : ∀ (n : Nat), n ≤ 22 → namesR[n]? = some (.string ⟨(nameL n).toArray⟩)
  | 0, _ => rfl
  | 1, _ => rfl
  | 2, _ => rfl
  | 3, _ => rfl
  | 4, _ => rfl
  | 5, _ => rfl
  | 6, _ => rfl
  | 7, _ => rfl
  | 8, _ => rfl
  | 9, _ => rfl
  | 10, _ => rfl
  | 11, _ => rfl
  | 12, _ => rfl
  | 13, _ => rfl
  | 14, _ => rfl
  | 15, _ => rfl
  | 16, _ => rfl
  | 17, _ => rfl
  | 18, _ => rfl
  | 19, _ => rfl
  | 20, _ => rfl
  | 21, _ => rfl
  | 22, _ => rfl
  | n + 23, h => absurd h (by omega)
set_option maxRecDepth 20000 in
theorem names_any (w : World) : Calls Tryd.prog 56 #[] w fun e w' => e = .returned (.slice (some ⟨w.heap.size, 0, none⟩) 23 23) ∧ w' = w.alloc (.cells namesR.toArray 9) := by
  go_enter Tryd.func56, Tryd.ntmps56
  go_wp2
  go_ret
  exact ⟨rfl, rfl⟩
end Go.Proofs.YtddmnpfebajnmaaDoor
