/-
  A program as bytes: Encode.
-/
import Derived.Test.YtddmnpfebajnmaaDoorPrint
import Derived.Test.YtddmnpfebajnmaaDoorKnown
namespace Go.Proofs.YtddmnpfebajnmaaDoor
open Go.RowKit
/-- A block that holds no bytes stays as it was behind a Writer's step. -/
theorem Cw.wstep {w w' : World} {g b : Nat} {cs : List Value} {t : TypeId} {v v' : Value} {xs : List Int} (h : Cw w g cs t) (ht : t ≠ 5) (hw : Wr w b v xs) (hs : Wstep b w v w' v') (hb : g ≠ b) : Cw w' g cs t := by
  refine h.keep (hs.block g h.lt hb fun e => ?_)
  obtain ⟨ao, cap, rfl, ⟨rfl, _⟩ | ⟨g', cur, rfl, _, _, hg, _⟩⟩ := hw.2.form
  · simp [Value.ownBlock] at e
  · have e' : g = g' := by simpa [Value.ownBlock] using e
    subst e'
    have h' : w.heap[g]? = some (.cells cs.toArray t (0, 0)) := h
    rw [hg] at h'
    simp only [Option.some.injEq, Obj.cells.injEq] at h'
    exact ht h'.2.1.symm
theorem Wr.below2 {w w' : World} {b : Nat} {v : Value} {xs : List Int} (h : Wr w b v xs) (hb : Below w.heap.size w w') : Wr w' b v xs := by
  refine ⟨(hb.block b h.lt).trans h.1, ⟨h.2.1, ?_⟩⟩
  rcases h.2.2 with h2 | ⟨g, cap, cur, h1, hb1, hg, rest⟩
  · exact Or.inl h2
  · exact Or.inr ⟨g, cap, cur, h1, hb1, by rw [hb.block g (Array.getElem?_eq_some_iff.1 hg).1]; exact hg, rest⟩
/-- What Encode lays. -/
def encR (l : List Ii) : List Int := if (chk l).2 = 0 then encB l else []
theorem Bs_none (w : World) : Bs w (.slice none 0 0) [] := Or.inl ⟨rfl, none, 0, rfl, by unfold maxLen; omega, fun _ => rfl⟩
theorem Tryd.zero64 : (Tryd.prog.info? 64).bind (·.zero) = some (.agg [Value.slice none 0 0].toArray) := by kernel_rfl
set_option maxRecDepth 20000 in
set_option maxHeartbeats 4000000 in
theorem encode_any (v : Value) (l : List Ii) (w : World) (h : Ls w v l) :
    Calls Tryd.prog 11 #[v] w fun e w' => ∃ sv, e = .returned (.tuple #[sv, .int .i64 (chk l).2]) ∧ Bs w' sv (encR l) ∧ Below w.heap.size w w' := by
  obtain ⟨ao, cap, rfl, hm⟩ := h.len
  have hm' : l.length ≤ 9223372036854775807 := by unfold maxLen at hm; omega
  have HL := hid_into h
  have HCK := fun W h' => check_any (.slice ao l.length cap) l W h'
  clear h hm
  by_cases hok : (chk l).2 = 0
  · have hO : Okp l := hok
    have HO := hid_into hO
    rw [hO.chk] at HCK
    rw [show encR l = encB l from if_pos hok, hO.chk]
    have hl := hO.len
    clear hok hO
    obtain ⟨cs, hcs⟩ : ∃ cs, cs = opsR := ⟨_, rfl⟩
    obtain ⟨os, hos⟩ : ∃ os, os = zeroT := ⟨_, rfl⟩
    have HI : Hid ((Tryd.prog.info? 57).map (·.size) = some os.length) := by rw [hos]; exact Tryd.size57
    have HLn : Hid (os.length = cs.length) := by rw [hos, hcs]; exact hid_into rfl
    have HC : Hid (∀ v ∈ cs, v.oneCell' = true) := by rw [hcs]; exact hid_into (by decide)
    have HOz : Hid ((Tryd.prog.info? 57).bind (·.zero) = some (.agg os.toArray)) := by rw [hos]; exact Tryd.zero57
    have HOP : ∀ W, Calls Tryd.prog 24 #[] W fun e w' => e = .returned (.agg cs.toArray) ∧ Below W.heap.size W w' := by rw [hcs]; exact ops_any
    have HE : Hid (cs = opsR) := hid_into hcs
    clear hcs hos
    go_enter Tryd.func11, Tryd.ntmps11
    go_wp2_with (first
      | (go_at_call 9; refine (HCK _ HL.out).mono ?_; rintro e w0 ⟨rfl, B0⟩)
      | (refine wpList_alloc_row rfl 64 rfl [.slice none 0 0] Tryd.zero64 ?_; intro W0 hb0 B00 HS0; have hw0 : Wr W0 w0.heap.size (.slice none 0 0) [] := ⟨hb0, World.ownsRow_nil _ _ _ _⟩)
      | (go_at_call 27; refine (num_w _ _ _ _ _ hw0 (by simp) (by omega) (by omega)).mono ?_; rintro e wn ⟨rfl, vn, hwn, hsn⟩)
      | (go_at_call 24; refine (HOP _).mono ?_; rintro e w1 ⟨rfl, B1⟩)
      | (refine wpList_alloc_row rfl 57 rfl os HOz.out ?_; intro W1 hc1 B2 HS1)
      | (refine wpList_store_rw rfl 57 (.tmp 7) (.tmp 21) rfl w1.heap.size os cs 57 rfl rfl hc1 HI HLn HC.out ?_; intro W2 hc2 O2))
    have hs0 := B0.size
    have hs1 := B1.size
    have hs00 := HS0.out
    have hsn2 := hsn.size
    have hs2 := B2.size
    have HT : Hid (Tb W2 w1.heap.size) := by
      have e := HE.out
      subst e
      exact hc2
    have hB12 : Below wn.heap.size wn W2 := B1.trans ((B2.mono (by omega)).trans (O2.below (by omega)))
    have HW : Hid (∃ v', Wr W2 w0.heap.size v' (numOf l.length)) := ⟨vn, by simpa using hwn.below2 hB12⟩
    have HB : Hid (Below w.heap.size w W2) := B0.trans ((B00.mono hs0).trans ((hw0.below hsn (by omega)).trans (hB12.mono (by omega))))
    have hne : w1.heap.size ≠ w0.heap.size := by omega
    have htb : w.heap.size ≤ w0.heap.size := hs0
    clear HE hc1 hc2 O2 B2 HS1 HOz HI HLn HC HOP B0 B00 B1 hb0 HS0 hs0 hs1 hs00 HCK hw0 hwn hsn hB12 hsn2 hs2
    generalize w0.heap.size = b at *
    generalize w1.heap.size = tb at *
    go_loopw [24] (fun i wr => ∃ k : Nat, k ≤ l.length ∧ i = .int .i64 (k : Int) ∧ Hid (∃ v', Wr wr b v' (numOf l.length ++ bodyB (l.take k))) ∧ Hid (Tb wr tb) ∧ Hid (Below w.heap.size w wr)) (fun i _ => l.length - (intOf i).toNat)
    case atStart => exact ⟨0, Nat.zero_le _, rfl, hid_into (by simpa [bodyB] using HW.out), HT.out, HB.out⟩
    case round =>
      clear HT HB HW
      obtain ⟨k, hk, rfl, HW, HT, HB⟩ := hrel
      obtain ⟨vw, hw⟩ := HW.out
      clear HW
      have HXL : Hid ((numOf l.length ++ bodyB (l.take k)).length ≤ 10000) := by
        have h1 := bodyB_len (l.take k)
        have h2 : (l.take k).length ≤ 256 := by rw [List.length_take]; omega
        have h3 := numOf_length l.length
        show _ ≤ _
        rw [List.length_append]
        omega
      by_cases hlt : k < l.length
      · obtain ⟨⟨o, a⟩, hx⟩ : ∃ x, l[k]? = some x := ⟨_, List.getElem?_eq_getElem hlt⟩
        obtain ⟨g, off, hao, x0, x1⟩ := HL.out.at HB.out (Nat.le_refl _) k _ hx
        subst hao
        simp only at x0 x1
        have hmem := List.mem_of_getElem? hx
        have hmay := HO.out.may _ hmem
        have ha : In64 a := HO.out.in64 _ hmem
        obtain ⟨o1, o2⟩ := mayI_op hmay
        simp only at o1 o2
        obtain ⟨n, rfl⟩ := Int.eq_ofNat_of_zero_le (show 0 ≤ o by omega)
        have hA : Below wr.heap.size wr (wr.alloc (.cells #[.int .i64 (n : Int), .int .i64 a] 60)) := (Below.refl _ _).alloc (Nat.le_refl _) _
        have hxb : wr.heap.size ≠ b := by have := hw.lt; omega
        have HXB : Hid (Cw (wr.alloc (.cells #[.int .i64 (n : Int), .int .i64 a] 60)) wr.heap.size [.int .i64 (n : Int), .int .i64 a] 60) := Cw.new wr _ _
        have HT2 := hid_into (HT.out.below hA)
        have HB2 := hid_into (HB.out.trans (hA.mono HB.out.size))
        have HW2 := hid_into (hw.below2 hA)
        have HBS : Hid (numOf l.length ++ bodyB (l.take (k + 1)) = numOf l.length ++ bodyB (l.take k) ++ [(n : Int)] ++ (if hasA (n : Int) then numOf a else [])) := hid_into (by
          rw [take_snoc2 l k _ hx, bodyB_snoc]
          have e : ((n : Int) % 256) = n := by omega
          simp only [insB, e]
          simp)
        have q8 : IntKind.u8.wrap (n : Int) = (n : Int) := by
          rw [IntKind.wrap_u8]; omega
        have HH := fun (W : World) (hT' : Tb W tb) => (hT'.at n (by omega) (by omega)).2.1
        generalize hasA (n : Int) = hs at *
        clear hx hmem hmay hA HT
        generalize numOf l.length ++ bodyB (l.take k) = tx at *
        clear hw
        cases hs with
        | true =>
          go_wp2_with (first
            | (go_at_call 28; refine (byte_w _ _ _ _ _ HW2.out (by have := HXL.out; omega)).mono ?_; rintro e w3 ⟨rfl, v3, h3, s3⟩; have HXB3 := hid_into (HXB.out.wstep (by decide) HW2.out s3 hxb); have hT3 := Cw.wstep HT2.out (by decide) HW2.out s3 hne; have c30 := HXB3.out.cell 0; have c31 := HXB3.out.cell 1; simp only [List.getElem?_cons_succ, List.getElem?_cons_zero] at c30 c31; have d3 := HH _ hT3; have HT3 := hid_into hT3; have HB3 := hid_into (HB2.out.trans (HW2.out.below s3 htb)); have HW3 := hid_into h3; clear h3 s3 hT3)
            | (go_at_call 27; refine (num_w _ _ _ _ _ HW3.out (by have := HXL.out; simp only [List.length_append, List.length_cons, List.length_nil]; omega) ha.1 ha.2).mono ?_; rintro e w4 ⟨rfl, v4, h4, s4⟩; have hT4 := Cw.wstep HT3.out (by decide) HW3.out s4 hne; have HT4 := hid_into hT4; have HB4 := hid_into (HB3.out.trans (HW3.out.below s4 htb)); have HW4 := hid_into h4; clear h4 s4 hT4))
          go_roundw
          case rel => exact ⟨k + 1, by omega, by go_num, hid_into ⟨v4, by rw [HBS.out]; simpa using HW4.out⟩, HT4, HB4⟩
          case measure => simp [intOf]; omega
        | false =>
          go_wp2_with (first
            | (go_at_call 28; refine (byte_w _ _ _ _ _ HW2.out (by have := HXL.out; omega)).mono ?_; rintro e w3 ⟨rfl, v3, h3, s3⟩; have HXB3 := hid_into (HXB.out.wstep (by decide) HW2.out s3 hxb); have hT3 := Cw.wstep HT2.out (by decide) HW2.out s3 hne; have c30 := HXB3.out.cell 0; have c31 := HXB3.out.cell 1; simp only [List.getElem?_cons_succ, List.getElem?_cons_zero] at c30 c31; have d3 := HH _ hT3; have HT3 := hid_into hT3; have HB3 := hid_into (HB2.out.trans (HW2.out.below s3 htb)); have HW3 := hid_into h3; clear h3 s3 hT3))
          go_roundw
          case rel => exact ⟨k + 1, by omega, by go_num, hid_into ⟨v3, by rw [HBS.out]; simpa using HW3.out⟩, HT3, HB3⟩
          case measure => simp [intOf]; omega
      · obtain rfl : k = l.length := by omega
        have e : l.take l.length = l := List.take_length
        rw [e] at hw HXL
        have HE : Hid (encB l = numOf l.length ++ bodyB l) := hid_into rfl
        generalize numOf l.length ++ bodyB l = tx at *
        go_wp2_with (go_at_call 29; refine (out_w _ _ _ _ hw (by have := HXL.out; omega)).mono ?_; rintro e w5 ⟨ao5, cap5, rfl, h5, B5⟩)
        go_ret2
        exact ⟨_, rfl, by rw [HE.out]; exact h5.bs, HB.out.trans (B5.mono HB.out.size)⟩
  · have HP : Hid (encR l = []) := hid_into (if_neg hok)
    generalize chk l = c at *
    have hne : (c.2 != 0) = true := by simp [hok]
    go_enter Tryd.func11, Tryd.ntmps11
    go_wp2_with (first
      | (go_at_call 9; refine (HCK _ HL.out).mono ?_; rintro e w0 ⟨rfl, B0⟩))
    go_ret2
    exact ⟨_, rfl, by rw [HP.out]; exact Bs_none _, B0⟩
end Go.Proofs.YtddmnpfebajnmaaDoor
