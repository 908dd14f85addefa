/-
  The document's Print.
-/
import Derived.Test.YtddmnpfebajnmaaDoorPrint
import Derived.Test.YtddmnpfebajnmaaDoorRLine
import Derived.Test.YtddmnpfebajnmaaDoorRCheck
namespace Go.Proofs.YtddmnpfebajnmaaDoor
open Go.RowKit
theorem join_nl (tx ln : List UInt8) : (⟨tx.toArray⟩ : ByteArray) ++ ⟨ln.toArray⟩ ++ ⟨#[10]⟩ = ⟨(tx ++ ln ++ [10]).toArray⟩ := by
  rw [show (⟨#[10]⟩ : ByteArray) = ⟨([10] : List UInt8).toArray⟩ from rfl, ByteArray.mk_append_mk, ByteArray.mk_append_mk]
set_option maxRecDepth 20000 in
set_option maxHeartbeats 4000000 in
theorem rprint_any (v : Value) (l : List Ii) (w : World) (h : Ls w v l) :
    Calls Tryd.prog 14 #[v] w fun e w' => e = .returned (.tuple #[.string ⟨(prnL l).toArray⟩, .int .i64 (chk l).2]) ∧ Below w.heap.size w w' := by
  obtain ⟨ao, cap, rfl, hm⟩ := h.len
  have hm' : l.length ≤ 9223372036854775807 := by unfold maxLen at hm; omega
  have HL := hid_into h
  have HCK := fun W h' => rcheck_any (.slice ao l.length cap) l W h'
  clear h hm
  by_cases hok : (chk l).2 = 0
  · have hO : Okp l := hok
    have HO := hid_into hO
    rw [hO.chk] at HCK
    rw [show prnL l = textL l from if_pos hok, hO.chk]
    have hl := hO.len
    clear hok hO
    go_enter Tryd.func14, Tryd.ntmps14
    go_wp2_with (first
      | (go_at_call 10; refine (HCK _ HL.out).mono ?_; rintro e w0 ⟨rfl, B0⟩))
    have HB := hid_into B0
    clear B0 HCK
    go_loopw [6, 7] (fun s i wr => ∃ k : Nat, k ≤ l.length ∧ i = .int .i64 (k : Int) ∧ s = .string ⟨(textL (l.take k)).toArray⟩ ∧ Hid (Below w.heap.size w wr)) (fun _ i _ => l.length - (intOf i).toNat)
    case atStart => exact ⟨0, Nat.zero_le _, rfl, rfl, HB.out⟩
    case round =>
      clear HB
      obtain ⟨k, hk, rfl, rfl, HB⟩ := hrel
      by_cases hlt : k < l.length
      · obtain ⟨⟨o, a⟩, hx⟩ : ∃ x, l[k]? = some x := ⟨_, List.getElem?_eq_getElem hlt⟩
        obtain ⟨g, off, hao, x0, x1⟩ := HL.out.at HB.out (Nat.le_refl _) k _ hx
        subst hao
        simp only at x0 x1
        have hmem := List.mem_of_getElem? hx
        have hmay := HO.out.may _ hmem
        have ha : In64 a := HO.out.in64 _ hmem
        obtain ⟨o1, o2⟩ := mayI_op hmay
        simp only at o1 o2
        obtain ⟨n, rfl⟩ := Int.eq_ofNat_of_zero_le (show 0 ≤ o by omega)
        have HX := hid_into (take_snoc2 l k _ hx)
        have hline := fun W => rline_any n a W (by omega) (by omega) ha
        have hll := lineL_len ((n : Int), a) ha
        have HTL : Hid ((textL (l.take k)).length ≤ 28 * 256) := by
          have h1 := textL_len (l.take k) (fun y hy => HO.out.in64 y (List.mem_of_mem_take hy))
          have h2 : (l.take k).length ≤ 256 := by rw [List.length_take]; omega
          show _ ≤ _
          omega
        have HTS : Hid (textL (l.take (k + 1)) = textL (l.take k) ++ lineL ((n : Int), a) ++ [10]) := hid_into (by rw [HX.out, textL_snoc, List.append_assoc])
        have HJ := hid_into (join_nl (textL (l.take k)) (lineL ((n : Int), a)))
        clear hx hmem hmay HX
        generalize lineL ((n : Int), a) = ln at *
        generalize textL (l.take k) = tx at *
        have htl := HTL.out
        have z0 : (⟨tx.toArray⟩ : ByteArray).size = tx.length := by simp [ByteArray.size]
        have z1 : (⟨ln.toArray⟩ : ByteArray).size = ln.length := by simp [ByteArray.size]
        have z2 : ((⟨tx.toArray⟩ : ByteArray) ++ ⟨ln.toArray⟩).size = tx.length + ln.length := by rw [ByteArray.size_append, z0, z1]
        have z3 : (⟨#[10]⟩ : ByteArray).size = 1 := rfl
        generalize tx.length = tl at *
        generalize ln.length = nl at *
        have u1 : ¬ 9223372036854775807 < tl + nl := by omega
        have u2 : ¬ 9223372036854775807 < tl + nl + 1 := by omega
        clear HTL htl
        go_wp2_with (first
          | (go_at_call 36; refine (hline _).mono ?_; rintro e w3 ⟨rfl, B3⟩; have HB3 := hid_into (HB.out.trans (B3.mono HB.out.size)); clear B3))
        go_roundw
        case rel => exact ⟨k + 1, by omega, by go_num, by rw [HTS.out]; exact congrArg Value.string HJ.out, HB3⟩
        case measure => simp [intOf]; omega
      · obtain rfl : k = l.length := by omega
        have e : l.take l.length = l := List.take_length
        rw [e]
        go_wp2_with fail
        go_ret2
        exact ⟨rfl, HB.out⟩
  · have HP : Hid (prnL l = []) := hid_into (if_neg hok)
    generalize chk l = c at *
    have hne : (c.2 != 0) = true := by simp [hok]
    go_enter Tryd.func14, Tryd.ntmps14
    go_wp2_with (first
      | (go_at_call 10; refine (HCK _ HL.out).mono ?_; rintro e w0 ⟨rfl, B0⟩))
    go_ret2
    exact ⟨by rw [HP.out]; rfl, B0⟩
end Go.Proofs.YtddmnpfebajnmaaDoor
