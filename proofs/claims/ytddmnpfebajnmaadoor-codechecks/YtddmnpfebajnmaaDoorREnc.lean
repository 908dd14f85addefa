/-
  The document's Encode.
-/
import Derived.Test.YtddmnpfebajnmaaDoorEnc
import Derived.Test.YtddmnpfebajnmaaDoorRefNum
import Derived.Test.YtddmnpfebajnmaaDoorRPrint
import Derived.Test.YtddmnpfebajnmaaDoorSlices
namespace Go.Proofs.YtddmnpfebajnmaaDoor
open Go.RowKit
set_option maxRecDepth 20000 in
set_option maxHeartbeats 4000000 in
theorem rencode_any (v : Value) (l : List Ii) (w : World) (h : Ls w v l) :
    Calls Tryd.prog 12 #[v] w fun e w' => ∃ sv, e = .returned (.tuple #[sv, .int .i64 (chk l).2]) ∧ Bs w' sv (encR l) ∧ Below w.heap.size w w' := by
  obtain ⟨ao, cap, rfl, hm⟩ := h.len
  have hm' : l.length ≤ 9223372036854775807 := by unfold maxLen at hm; omega
  have HL := hid_into h
  have HCK := fun W h' => rcheck_any (.slice ao l.length cap) l W h'
  clear h hm
  by_cases hok : (chk l).2 = 0
  · have hO : Okp l := hok
    have HO := hid_into hO
    rw [hO.chk] at HCK
    rw [show encR l = encB l from if_pos hok, hO.chk]
    have hl := hO.len
    clear hok hO
    go_enter Tryd.func12, Tryd.ntmps12
    go_wp2_with (first
      | (go_at_call 10; refine (HCK _ HL.out).mono ?_; rintro e w0 ⟨rfl, B0⟩)
      | (go_at_call 30; refine (refNum_any _ _ (by omega) (by omega)).mono ?_; rintro e w1 ⟨ao1, cap1, rfl, h1, B1⟩))
    have HB : Hid (Below w.heap.size w w1) := B0.trans (B1.mono B0.size)
    have HO1 : Hid (Ow w1 w.heap.size (.slice ao1 (numOf l.length).length cap1) (numOf l.length)) := h1.mono B0.size
    clear B0 B1 HCK h1
    go_loopw [6, 7] (fun s i wr => ∃ (k : Nat) (tx : List Int) (ao : Option Addr) (cap : Nat), k ≤ l.length ∧ i = .int .i64 (k : Int) ∧ s = .slice ao tx.length cap ∧ Hid (tx = numOf l.length ++ bodyB (l.take k)) ∧ Hid (Ow wr w.heap.size (.slice ao tx.length cap) tx) ∧ Hid (Below w.heap.size w wr)) (fun _ i _ => l.length - (intOf i).toNat)
    case atStart => exact ⟨0, numOf l.length, ao1, cap1, Nat.zero_le _, rfl, rfl, hid_into (by simp [bodyB]), HO1, HB⟩
    case round =>
      clear HB HO1
      obtain ⟨k, tx, ao1, cap1, hk, rfl, rfl, HTX, HO1, HB⟩ := hrel
      have hxl : tx.length ≤ 10000 := by
        have h1 := bodyB_len (l.take k)
        have h2 : (l.take k).length ≤ 256 := by rw [List.length_take]; omega
        have h3 := numOf_length l.length
        rw [HTX.out, List.length_append]
        omega
      have hbs := HB.out.size
      by_cases hlt : k < l.length
      · obtain ⟨⟨o, a⟩, hx⟩ : ∃ x, l[k]? = some x := ⟨_, List.getElem?_eq_getElem hlt⟩
        have hmem := List.mem_of_getElem? hx
        have hmay := HO.out.may _ hmem
        have ha : In64 a := HO.out.in64 _ hmem
        obtain ⟨o1, o2⟩ := mayI_op hmay
        simp only at o1 o2
        obtain ⟨n, rfl⟩ := Int.eq_ofNat_of_zero_le (show 0 ≤ o by omega)
        obtain ⟨g, off, hao, x0, x1⟩ := HL.out.at HB.out (Nat.le_refl _) k _ hx
        subst hao
        simp only at x0 x1
        have HAT : Hid (∀ W, Below w.heap.size w W → W.cell? ⟨g, off + k * 2, none⟩ = some (.int .i64 (n : Int)) ∧ W.cell? ⟨g, off + k * 2 + 1, none⟩ = some (.int .i64 a)) := hid_into fun W hW => by
          obtain ⟨g', off', e, y0, y1⟩ := HL.out.at hW (Nat.le_refl _) k _ hx
          simp only [Option.some.injEq, Addr.mk.injEq, and_true] at e
          obtain ⟨rfl, rfl⟩ := e
          exact ⟨y0, y1⟩
        have HBS : Hid (numOf l.length ++ bodyB (l.take (k + 1)) = tx ++ [(n : Int)] ++ (if hasA (n : Int) then numOf a else [])) := hid_into (by
          rw [take_snoc2 l k _ hx, bodyB_snoc, HTX.out]
          have e : ((n : Int) % 256) = n := by omega
          simp only [insB, e]
          simp)
        have q8 : IntKind.u8.wrap (n : Int) = (n : Int) := by
          rw [IntKind.wrap_u8]; omega
        have hmod : (n : Int) % 256 = (n : Int) := by omega
        have CH := rhas_any (n : Int)
        generalize hasA (n : Int) = hs at *
        have hown1 : Ow (wr.alloc (.cells #[.int .u8 (n : Int)] 5)) w.heap.size (.slice ao1 tx.length cap1) tx := World.ownsRow.alloc HO1.out _
        have hbs1 : Bs (wr.alloc (.cells #[.int .u8 (n : Int)] 5)) (.slice (some ⟨wr.heap.size, 0, none⟩) 1 1) [(n : Int)] := Bs_of_block (heap_alloc_new wr _) (by simp [maxLen])
        clear hx hmem hmay HTX HO1
        go_wp2_with (at_builtin; refine wpList_append_bs _ rfl (.tmp 25) (.tmp 32) rfl w.heap.size _ tx rfl hown1 _ [(n : Int)] rfl hbs1 (by simp; omega) (by simp; omega) ?_)
        intro ao2 cap2 w2 hown2 hgrow2 hat2
        have B2 : Below w.heap.size w w2 := (HB.out.alloc hbs _).grown hgrow2 (by simp; omega) (fun k hk => (World.ownsRow.lt hown1 k hk).1)
        obtain ⟨y0, y1⟩ := HAT.out w2 B2
        have HB2 := hid_into B2
        have HO2 := hid_into hown2
        clear hown1 hbs1 hgrow2 hat2 x0 x1 B2 hown2
        cases hs with
        | false =>
          go_wp2_with (go_at_call 31; refine (CH _).mono ?_; rintro e w3 ⟨rfl, rfl⟩)
          go_roundw
          case rel => exact ⟨k + 1, tx ++ [(n : Int)], ao2, cap2, by omega, by go_num, by simp, hid_into (by rw [HBS.out]; simp), hid_into (by simpa using HO2.out), HB2⟩
          case measure => simp [intOf]; omega
        | true =>
          have HO3 : Hid (Ow w2 w.heap.size (.slice ao2 (tx.length + 1) cap2) (tx ++ [(n : Int)])) := hid_into HO2.out
          have hnl := numOf_length a
          have hbs2 := HB2.out.size
          go_wp2_with (first
            | (go_at_call 31; refine (CH _).mono ?_; rintro e w3 ⟨rfl, rfl⟩)
            | (go_at_call 30; refine (refNum_any _ _ ha.1 ha.2).mono ?_; rintro e w4 ⟨ao4, cap4, rfl, h4, B4⟩; have h43 := HO3.out.keep (w' := w4) fun k _ hk => B4.block k hk; have hb4 := h4.bs; have hs4 := B4.size)
            | (at_builtin; refine wpList_append_bs _ rfl (.tmp 40) (.tmp 46) rfl w.heap.size _ (tx ++ [(n : Int)]) rfl h43 _ (numOf a) rfl hb4 (by simp; omega) (by omega) ?_))
          intro ao5 cap5 w5 hown5 hgrow5 hat5
          have B5 : Below w.heap.size w w5 := (HB2.out.trans (B4.mono hbs2)).grown hgrow5 (by omega) (fun k hk => (World.ownsRow.lt h43 k hk).1)
          have HO5 := hid_into hown5
          clear hown5 hgrow5 hat5 h43 hb4 h4 B4
          go_wp2_with fail
          go_roundw
          case rel => exact ⟨k + 1, tx ++ [(n : Int)] ++ numOf a, ao5, cap5, by omega, by go_num, congrArg (fun m => Value.slice ao5 m cap5) (by simp; omega), hid_into (by rw [HBS.out]; simp), hid_into (by have e1 : (tx ++ [(n : Int)] ++ numOf a).length = tx.length + 1 + (numOf a).length := (by simp; omega); have e2 : tx ++ [(n : Int)] ++ numOf a = tx ++ (n : Int) :: numOf a := (by simp); rw [e1, e2]; exact HO5.out), B5⟩
          case measure => simp [intOf]; omega
      · obtain rfl : k = l.length := by omega
        have e : l.take l.length = l := List.take_length
        rw [e] at HTX
        have HE : Hid (encB l = tx) := hid_into HTX.out.symm
        clear HTX
        go_wp2_with fail
        go_ret2
        exact ⟨_, rfl, by rw [HE.out]; exact HO1.out.bs, HB.out⟩
  · have HP : Hid (encR l = []) := hid_into (if_neg hok)
    generalize chk l = c at *
    have hne : (c.2 != 0) = true := by simp [hok]
    go_enter Tryd.func12, Tryd.ntmps12
    go_wp2_with (first
      | (go_at_call 10; refine (HCK _ HL.out).mono ?_; rintro e w0 ⟨rfl, B0⟩))
    go_ret2
    exact ⟨_, rfl, by rw [HP.out]; exact Bs_none _, B0⟩
end Go.Proofs.YtddmnpfebajnmaaDoor
