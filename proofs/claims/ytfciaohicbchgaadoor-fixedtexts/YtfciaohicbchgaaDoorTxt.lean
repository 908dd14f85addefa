/-
  FormatInt at sixteen; a number's text (textS) and Text.
-/
import Derived.Test.YtfciaohicbchgaaDoorFmt
import Derived.Lib.ItoaLen
import Derived.Lib.TrimByte
namespace Go.Proofs.YtfciaohicbchgaaDoor
open Go.RowKit
theorem grow_below (w : World) (k : Nat) (os : Array Obj) : Below w.heap.size w (Sort.grow (w.drewN k) os) := ⟨rfl, rfl, rfl, by show w.heap.size ≤ (w.heap ++ os).size; rw [Array.size_append]; omega, fun j hj => by
    show (w.heap ++ os)[j]? = _
    rw [Array.getElem?_append_left hj]⟩
theorem intern16 (f : Nat) (hf : f < 65536) (w : World) (h : Tb w) :
    Calls Tryd.prog 31 #[.int .i64 (65536 + (f : Int)), .int .i64 16] w fun e w' => e = .returned (.string ⟨(hexS f).toArray⟩) ∧ Below w.heap.size w w' := by
  have C := bits_any f hf w h
  obtain ⟨u, hu⟩ : ∃ u : Int, u = 65536 + (f : Int) := ⟨_, rfl⟩
  rw [← hu] at C ⊢
  have c1 : IntKind.u64.wrap u = u := by rw [IntKind.wrap_u64]; omega
  have c2 : ¬ u < 0 := by omega
  have c3 : decide (u < 0) = false := by simp [c2]
  clear hu c2
  go_enter Tryd.func31, Tryd.ntmps31
  go_wp2_with (go_at_call 42; refine C.mono ?_; rintro e w1 ⟨rfl, B1⟩)
  go_ret
  exact ⟨rfl, B1⟩
theorem format16 (f : Nat) (hf : f < 65536) (w : World) (h : Tb w) :
    Calls Tryd.prog 26 #[.int .i64 (65536 + (f : Int)), .int .i64 16] w fun e w' => e = .returned (.string ⟨(hexS f).toArray⟩) ∧ Below w.heap.size w w' := by
  have C := intern16 f hf w h
  go_enter Tryd.func26, Tryd.ntmps26
  go_wp2_with (go_at_call 31; refine C.mono ?_; rintro e w1 ⟨rfl, B1⟩)
  go_ret
  exact ⟨rfl, B1⟩
/-- A number's text. -/
def textS (a : Int) : List UInt8 := (if a < 0 then [45] else []) ++ (Lib.decDigits (a.natAbs / 65536) ++ (46 :: (hexS (a.natAbs % 65536)).drop 1))
set_option maxHeartbeats 2000000 in
set_option maxRecDepth 20000 in
theorem Text_any (a : Int) (ha : In32 a) (w : World) (h : Tb w) :
    Calls Tryd.prog 20 #[.int .i32 a] w fun e w' => e = .returned (.string ⟨(textS a).toArray⟩) ∧ Below w.heap.size w w' := by
  obtain ⟨n, hn⟩ : ∃ n : Nat, n = a.natAbs := ⟨_, rfl⟩
  obtain ⟨f, hf⟩ : ∃ f : Nat, f = n % 65536 := ⟨_, rfl⟩
  obtain ⟨v, hv⟩ : ∃ v : Nat, v = n / 65536 := ⟨_, rfl⟩
  have h1 := ha.1; have h2 := ha.2
  have C1 := format16 f (by omega) w h
  have C2 := fun (w' : World) (hb : Below w.heap.size w w') => format10 (v : Int) (by omega) (by omega) w' (h.below hb (Nat.le_refl _)).pw
  have hit : Lib.itoa (v : Int) = Lib.decDigits v := Lib.itoa_nonneg _
  rw [hit] at C2
  have hd2 : (Lib.decDigits v).length ≤ 20 := by
    rw [Lib.decDigits_length]
    exact Lib.nDigits_le20 _ (by omega)
  have HT : Hid (textS a = (if a < 0 then [45] else []) ++ (Lib.decDigits v ++ (46 :: (hexS f).drop 1))) := hid_into (by rw [textS, hv, hf, hn])
  have hhl : (hexS f).length = 5 := rfl
  generalize hexS f = hx at *
  generalize Lib.decDigits v = d at *
  obtain ⟨F, hF⟩ : ∃ F : Int, F = (f : Int) := ⟨_, rfl⟩
  obtain ⟨V, hV⟩ : ∃ V : Int, V = (v : Int) := ⟨_, rfl⟩
  obtain ⟨U, hU⟩ : ∃ U : Int, U = (n : Int) := ⟨_, rfl⟩
  rw [← hF] at C1
  rw [← hV] at C2
  have q1 : U % 65536 = F := by omega
  have q2 : U / 65536 = V := by omega
  have q3 : 0 ≤ U := by omega
  have q4 : U ≤ 2147483648 := by omega
  have q6 : wrap64 a = a := by unfold wrap64; omega
  have hsz : (⟨hx.toArray⟩ : ByteArray).size = 5 := by simp [ByteArray.size, hhl]
  have hx1 : (⟨hx.toArray⟩ : ByteArray).extract 1 5 = ⟨(hx.drop 1).toArray⟩ := by
    rw [Lib.extract_mk]
    congr 2
    rw [List.take_of_length_le]
    simp [hhl]
  have hdz : (⟨d.toArray⟩ : ByteArray).size = d.length := by simp [ByteArray.size]
  have hez : (⟨(hx.drop 1).toArray⟩ : ByteArray).size = 4 := by simp [ByteArray.size, hhl]
  generalize hx.drop 1 = tl at *
  have HE : Hid (d.length ≤ 20) := hid_into hd2
  have HG : Hid (∀ w1, Below w.heap.size w w1 → ∀ k os, Below w.heap.size w (Sort.grow (w1.drewN k) os)) := hid_into fun w1 B1 k os => B1.trans ((grow_below w1 k os).mono B1.size)
  by_cases hneg : a < 0
  · obtain rfl : a = -U := by omega
    have q7 : wrap64 U = U := by unfold wrap64; omega
    have q8 : 1 ≤ U := by omega
    rw [HT.out, if_pos hneg]
    have HAP : Hid (((⟨#[45]⟩ : ByteArray) ++ ⟨d.toArray⟩ ++ ⟨#[46]⟩ ++ ⟨tl.toArray⟩) = ⟨([45] ++ (d ++ 46 :: tl)).toArray⟩) := hid_into (by
      rw [show (⟨#[45]⟩ : ByteArray) = ⟨([45] : List UInt8).toArray⟩ from rfl, show (⟨#[46]⟩ : ByteArray) = ⟨[46].toArray⟩ from rfl, ByteArray.mk_append_mk, ByteArray.mk_append_mk, ByteArray.mk_append_mk]
      simp)
    have s1 : ((⟨#[45]⟩ : ByteArray) ++ ⟨d.toArray⟩).size = d.length + 1 := by rw [ByteArray.size_append, hdz]; exact Nat.add_comm _ _
    have s2 : ((⟨#[45]⟩ : ByteArray) ++ ⟨d.toArray⟩ ++ ⟨#[46]⟩).size = d.length + 2 := by rw [ByteArray.size_append, s1]; rfl
    have z1 : (⟨#[45]⟩ : ByteArray).size = 1 := rfl
    have z2 : (⟨#[46]⟩ : ByteArray).size = 1 := rfl
    generalize d.length = dl at *
    have t1 : ¬ 9223372036854775807 < 1 + dl := by omega
    have t2 : ¬ 9223372036854775807 < dl + 1 + 1 := by omega
    have t3 : ¬ 9223372036854775807 < dl + 2 + 4 := by omega
    clear hn hf hv hF hV hU hhl hd2 HE HT
    go_enter Tryd.func20, Tryd.ntmps20
    go_wp2_with (first
      | (go_at_call 26; refine C1.mono ?_; rintro e w1 ⟨rfl, B1⟩)
      | (go_at_call 26; refine (C2 _ B1).mono ?_; rintro e w2 ⟨rfl, k, os, hw2⟩; subst hw2))
    go_ret
    exact ⟨congrArg (fun b => Ending.returned (.string b)) HAP.out, HG.out _ B1 _ _⟩
  · obtain rfl : a = U := by omega
    rw [HT.out, if_neg hneg]
    have HAP : Hid (((⟨#[]⟩ : ByteArray) ++ ⟨d.toArray⟩ ++ ⟨#[46]⟩ ++ ⟨tl.toArray⟩) = ⟨([] ++ (d ++ 46 :: tl)).toArray⟩) := hid_into (by
      rw [show (⟨#[]⟩ : ByteArray) = ⟨([] : List UInt8).toArray⟩ from rfl, show (⟨#[46]⟩ : ByteArray) = ⟨[46].toArray⟩ from rfl, ByteArray.mk_append_mk, ByteArray.mk_append_mk, ByteArray.mk_append_mk]
      simp)
    have s1 : ((⟨#[]⟩ : ByteArray) ++ ⟨d.toArray⟩).size = d.length + 0 := by rw [ByteArray.size_append, hdz]; exact Nat.add_comm _ _
    have s2 : ((⟨#[]⟩ : ByteArray) ++ ⟨d.toArray⟩ ++ ⟨#[46]⟩).size = d.length + 1 := by rw [ByteArray.size_append, s1]; rfl
    have z1 : (⟨#[]⟩ : ByteArray).size = 0 := rfl
    have z2 : (⟨#[46]⟩ : ByteArray).size = 1 := rfl
    generalize d.length = dl at *
    have t1 : ¬ 9223372036854775807 < 0 + dl := by omega
    have t2 : ¬ 9223372036854775807 < dl + 0 + 1 := by omega
    have t3 : ¬ 9223372036854775807 < dl + 1 + 4 := by omega
    clear hn hf hv hF hV hU hhl hd2 HE HT
    go_enter Tryd.func20, Tryd.ntmps20
    go_wp2_with (first
      | (go_at_call 26; refine C1.mono ?_; rintro e w1 ⟨rfl, B1⟩)
      | (go_at_call 26; refine (C2 _ B1).mono ?_; rintro e w2 ⟨rfl, k, os, hw2⟩; subst hw2))
    go_ret
    exact ⟨congrArg (fun b => Ending.returned (.string b)) HAP.out, HG.out _ B1 _ _⟩
end Go.Proofs.YtfciaohicbchgaaDoor
