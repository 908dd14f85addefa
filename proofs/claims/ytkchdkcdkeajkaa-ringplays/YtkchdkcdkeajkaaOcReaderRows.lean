/-
  The Reader's rows of bytes: takeRow over r.Byte, fill, Two, Four, Hash, by contracts.
-/
import Derived.Test.YtkchdkcdkeajkaaOcNumsWalk
namespace Go.Proofs.Ytkchdkcdkeajkaa.Oc
open Go.RowKit

/-- Block g is a row of bytes. -/
def Rw (w : World) (g : Nat) (ys : List Int) (t : TypeId) : Prop := w.heap[g]? = some (.cells (cellsOf ys).toArray t (0, 0))
theorem Rw.lt {w : World} {g : Nat} {ys : List Int} {t : TypeId} (h : Rw w g ys t) : g < w.heap.size := (Array.getElem?_eq_some_iff.1 h).1
theorem Rw.cell {w : World} {g : Nat} {ys : List Int} {t : TypeId} (h : Rw w g ys t) (i : Nat) (hi : i < ys.length) : w.cell? ⟨g, i, none⟩ = some (.int .u8 (ys.getD i 0)) := by
  rw [cell_of_row w g i _ _ _ h]
  simpa using cellsOf_get' ys i hi
theorem Rw.frozen {w : World} {g : Nat} {ys : List Int} {t : TypeId} (h : Rw w g ys t) (i : Nat) : w.frozen? ⟨g, i, none⟩ = false := by
  simp only [World.frozen?, show w.heap[g]? = _ from h]; simp
theorem Rw.set {w : World} {g : Nat} {ys : List Int} {t : TypeId} (h : Rw w g ys t) (i : Nat) (x : Int) : Rw (w.setCell ⟨g, i, none⟩ (.int .u8 x)) g (ys.set i x) t := by
  have h' : w.heap[g]? = some (.cells (cellsOf ys).toArray t (0, 0)) := h
  simp only [Rw, World.setCell, Array.getElem?_modify, h']
  simp [cellsOf, List.map_set]

/-- All but two blocks is as it was. -/
structure Two2 (b g : Nat) (w w' : World) : Prop where
  os : w'.os = w.os
  tape : w'.tape = w.tape
  output : w'.output = w.output
  size : w.heap.size ≤ w'.heap.size
  block : ∀ k, k < w.heap.size → k ≠ b → k ≠ g → w'.heap[k]? = w.heap[k]?
theorem Two2.refl (b g : Nat) (w : World) : Two2 b g w w := ⟨rfl, rfl, rfl, Nat.le_refl _, fun _ _ _ _ => rfl⟩
theorem Two2.trans {b g : Nat} {w w1 w2 : World} (h : Two2 b g w w1) (k : Two2 b g w1 w2) : Two2 b g w w2 :=
  ⟨k.os.trans h.os, k.tape.trans h.tape, k.output.trans h.output, Nat.le_trans h.size k.size, fun i hi hb hg => (k.block i (Nat.lt_of_lt_of_le hi h.size) hb hg).trans (h.block i hi hb hg)⟩
theorem Rstep.two {b g : Nat} {w w' : World} (h : Rstep b w w') : Two2 b g w w' := ⟨h.os, h.tape, h.output, h.size, fun k hk hb _ => h.block k hk hb⟩
theorem Two2.set (b g i : Nat) (w : World) (v : Value) : Two2 b g w (w.setCell ⟨g, i, none⟩ v) := ⟨rfl, rfl, rfl, by simp [World.setCell], fun k _ _ hg => Below.heap_setCell _ _ _ _ hg⟩

theorem set_take (zs ys : List Int) (k : Nat) (h1 : k < ys.length) (h2 : ys.length ≤ zs.length) : (zs.take k ++ ys.drop k).set k (zs.getD k 0) = zs.take (k + 1) ++ ys.drop (k + 1) := by
  rw [List.set_append]
  have hl : (zs.take k).length = k := by simp; omega
  simp only [hl, Nat.lt_irrefl, if_false, Nat.sub_self]
  rw [take_snoc zs k (by omega), List.append_assoc]
  congr 1
  rw [List.drop_eq_getElem_cons h1]
  rfl

set_option maxHeartbeats 1600000 in
theorem takeRow_any (b g : Nat) (v : Value) (zs ys : List Int) (t : TypeId) (w : World) (hr : Rd w b v zs 0) (hg : Rw w g ys t) (hgb : g ≠ b) (hgv : v.ownBlock ≠ some g) (hl : ys.length ≤ zs.length) (hs : ys.length ≤ 1000000) :
    Calls Try.prog 43 #[.func (.func 27) #[.pointer (some ⟨b, 0, none⟩)] #[], .slice (some ⟨g, 0, none⟩) ys.length ys.length] w fun r w' => r = .returned (.tuple #[]) ∧
      ∃ v', v'.ownBlock = v.ownBlock ∧ Rd w' b v' (zs.drop ys.length) 0 ∧ Rw w' g (zs.take ys.length) t ∧ Two2 b g w w' := by
  go_enter Try.func43, Try.ntmps43
  go_wp2
  go_loopw [7] (fun i wr => ∃ (k : Nat) (v1 : Value), k ≤ ys.length ∧ i = .int .i64 k ∧ v1.ownBlock = v.ownBlock ∧ Rd wr b v1 (zs.drop k) 0 ∧ Rw wr g (zs.take k ++ ys.drop k) t ∧ Two2 b g w wr) (fun i _ => ys.length - (intOf i).toNat)
  case atStart => exact ⟨0, v, Nat.zero_le _, rfl, rfl, by simpa using hr, by simpa using hg, Two2.refl _ _ _⟩
  case round =>
    obtain ⟨k, v1, hk, rfl, hv1, hr1, hg1, hs1⟩ := hrel
    by_cases hlt : k < ys.length
    · have HD : Hid (zs.drop k = zs.getD k 0 :: zs.drop (k + 1)) := by
        show _ = _
        rw [List.drop_eq_getElem_cons (by omega)]; simp [List.getD, show k < zs.length by omega]
      rw [HD.out] at hr1
      have HS : Hid ((zs.take k ++ ys.drop k).set k (zs.getD k 0) = zs.take (k + 1) ++ ys.drop (k + 1)) := set_take zs ys k hlt hl
      generalize zs.getD k 0 = z at *
      have hlen : (zs.take k ++ ys.drop k).length = ys.length := by simp; omega
      clear HD
      go_wp2_with fail
      refine (rbyte_yes b v1 z _ _ hr1).mono ?_
      rintro e w2 ⟨rfl, v2, hv2, hr2, hs2⟩
      have hg2 : Rw w2 g (zs.take k ++ ys.drop k) t := by
        have := hs2.block g hg1.lt hgb
        unfold Rw; rw [this]; exact hg1
      have hcg := hg2.cell k (by rw [hlen]; exact hlt)
      have hfg := hg2.frozen k
      have hg3 := hg2.set k z
      rw [HS.out] at hg3
      have hr3 : Rd (w2.setCell ⟨g, k, none⟩ (.int .u8 z)) b v2 (zs.drop (k + 1)) 0 :=
        hr2.keep (Below.heap_setCell _ _ _ _ (fun e => hgb e.symm)) (fun j hj _ => Below.heap_setCell _ _ _ _ (fun e => hgv (by rw [← hv1, ← hv2, hj, e])))
      have hs3 : Two2 b g w (w2.setCell ⟨g, k, none⟩ (.int .u8 z)) := (hs1.trans hs2.two).trans (Two2.set b g k w2 _)
      clear hg1 hg2 hr1 hr2 hlen HS
      go_wp2
      go_roundw
      case rel => exact ⟨k + 1, v2, by omega, by go_num, hv2.trans hv1, hr3, hg3, hs3⟩
      case measure => simp [intOf]; omega
    · obtain rfl : k = ys.length := by omega
      have e1 : ys.drop ys.length = [] := by simp
      rw [e1, List.append_nil] at hg1
      go_wp2
      go_end0
      exact ⟨rfl, v1, hv1, hr1, hg1, hs1⟩

/-- A row ys is filled: what it holds, what is left, the error. -/
def rowR (ys zs : List Int) (e : Int) : List Int × List Int × Int := if e = 0 then (if ys.length ≤ zs.length then (zs.take ys.length, zs.drop ys.length, 0) else (ys, [], 2)) else (ys, zs, e)
theorem rowR_yes {ys zs : List Int} (h : ys.length ≤ zs.length) : rowR ys zs 0 = (zs.take ys.length, zs.drop ys.length, 0) := by simp [rowR, h]
theorem rowR_no {ys zs : List Int} (h : ¬ ys.length ≤ zs.length) : rowR ys zs 0 = (ys, [], 2) := by simp [rowR, h]
theorem rowR_err {ys zs : List Int} {e : Int} (h : e ≠ 0) : rowR ys zs e = (ys, zs, e) := by simp [rowR, h]
theorem rowR_len (ys zs : List Int) (e : Int) : (rowR ys zs e).1.length = ys.length := by
  unfold rowR; split
  · split
    · simp; omega
    · rfl
  · rfl
theorem rowR_byt {ys zs : List Int} {e : Int} (hy : Byt ys) (hz : Byt zs) : Byt (rowR ys zs e).1 ∧ Byt (rowR ys zs e).2.1 := by
  unfold rowR; split
  · split
    · exact ⟨fun z h => hz z (List.mem_of_mem_take h), fun z h => hz z (List.mem_of_mem_drop h)⟩
    · exact ⟨hy, fun z h => by cases h⟩
  · exact ⟨hy, hz⟩

set_option maxHeartbeats 800000 in
theorem fill_any (b g : Nat) (v : Value) (zs ys : List Int) (e : Int) (t : TypeId) (w : World) (hr : Rd w b v zs e) (hg : Rw w g ys t) (hgb : g ≠ b) (hgv : v.ownBlock ≠ some g) (hs : ys.length ≤ 1000000) :
    Calls Try.prog 40 #[.pointer (some ⟨b, 0, none⟩), .slice (some ⟨g, 0, none⟩) ys.length ys.length] w fun r w' => r = .returned (.tuple #[]) ∧
      ∃ v', (v'.ownBlock = v.ownBlock ∨ v'.ownBlock = none) ∧ Rd w' b v' (rowR ys zs e).2.1 (rowR ys zs e).2.2 ∧ Rw w' g (rowR ys zs e).1 t ∧ Two2 b g w w' := by
  by_cases he : e = 0
  · subst he
    by_cases hl : ys.length ≤ zs.length
    · have HR : Hid (rowR ys zs 0 = _) := rowR_yes hl
      go_enter Try.func40, Try.ntmps40
      go_wp2_with fail
      refine (has_yes b v zs _ _ hr (by omega)).mono ?_
      rintro e w1 ⟨rfl, rfl⟩
      go_wp2_with fail
      refine (takeRow_any b g v zs ys t _ hr hg hgb hgv hl hs).mono ?_
      rintro e w2 ⟨rfl, v2, hv2, hr2, hg2, hs2⟩
      go_wp2
      go_end0
      rw [HR.out]
      exact ⟨rfl, v2, Or.inl hv2, hr2, hg2, hs2⟩
    · have HR : Hid (rowR ys zs 0 = _) := rowR_no hl
      go_enter Try.func40, Try.ntmps40
      go_wp2_with fail
      refine (has_no b v zs _ _ hr (by omega)).mono ?_
      rintro e w1 ⟨rfl, hr1, hs1⟩
      go_wp2
      go_end0
      rw [HR.out]
      refine ⟨rfl, _, Or.inr rfl, hr1, ?_, hs1.two⟩
      unfold Rw; rw [hs1.block g hg.lt hgb]; exact hg
  · have HR : Hid (rowR ys zs e = _) := rowR_err he
    go_enter Try.func40, Try.ntmps40
    go_wp2_with fail
    refine (has_err b v zs e _ _ hr he).mono ?_
    rintro e w1 ⟨rfl, rfl⟩
    go_wp2
    go_end0
    rw [HR.out]
    exact ⟨rfl, v, Or.inl rfl, hr, hg, Two2.refl _ _ _⟩
theorem fill_nil (sv : Value) (zs : List Int) (w : World) (hb : Bs w sv zs) : Calls Try.prog 40 #[.pointer none, sv] w fun r w' => r = .returned (.tuple #[]) ∧ w = w' := by
  obtain ⟨ao, cap, hsv, hm⟩ := hb.len
  subst hsv
  go_enter Try.func40, Try.ntmps40
  go_wp2_with fail
  refine (has_nil _ _).mono ?_
  rintro e w1 ⟨rfl, rfl⟩
  go_wp2
  go_end0
  exact ⟨rfl, rfl⟩

/-- A new row of noughts beside a Reader. -/
theorem Rw_new (w : World) (ys : List Int) (t : TypeId) : Rw (w.alloc (.cells (cellsOf ys).toArray t)) w.heap.size ys t := heap_alloc_new w _
theorem Rd.alloc {w : World} {b : Nat} {v : Value} {zs : List Int} {e : Int} (h : Rd w b v zs e) (o : Obj) : Rd (w.alloc o) b v zs e := h.below ((Below.refl _ _).alloc (Nat.le_refl _) _) (Nat.le_refl _)
theorem Two2.rstep {b : Nat} {w w1 w' : World} (h0 : Below w.heap.size w w1) (h : Two2 b w.heap.size w1 w') : Rstep b w w' :=
  ⟨h.os.trans h0.os, h.tape.trans h0.tape, h.output.trans h0.output, Nat.le_trans h0.size h.size, fun k hk hb => (h.block k (Nat.lt_of_lt_of_le hk h0.size) hb (by omega)).trans (h0.block k hk)⟩

theorem or16 (a c : Int) (ha0 : 0 ≤ a) (ha : a < 256) (hc0 : 0 ≤ c) (hc : c < 256) : bits .or .u16 a (c * 256) = a + 256 * c := by
  rw [u16_or a (c * 256) ha0 (by omega) (by omega) (by omega)]
  have := nat_join 8 (c * 256).toNat a.toNat (by omega) (by omega)
  rw [Nat.or_comm, this]
  omega
theorem or32 (a c : Int) (i : Nat) (hi : i ≤ 24) (ha0 : 0 ≤ a) (ha : a < 2 ^ i) (hc0 : 0 ≤ c) (hc : c < 256) : bits .or .u32 a (c * 2 ^ i) = a + c * 2 ^ i := by
  obtain ⟨A, rfl⟩ := Int.eq_ofNat_of_zero_le ha0
  obtain ⟨C, rfl⟩ := Int.eq_ofNat_of_zero_le hc0
  have hA : A < 2 ^ i := by have e : ((2 ^ i : Nat) : Int) = (2 : Int) ^ i := by simp
                            rw [← e] at ha; omega
  have hp : 2 ^ i ≤ 2 ^ 24 := Nat.pow_le_pow_right (by decide) hi
  have hm : C * 2 ^ i ≤ 255 * 2 ^ 24 := Nat.mul_le_mul (by omega) hp
  have e2 : ((C : Int) * 2 ^ i) = ((C * 2 ^ i : Nat) : Int) := by simp
  rw [e2, u32_or_nat A (C * 2 ^ i) (by omega) (by omega), Nat.or_comm, nat_join i (C * 2 ^ i) A (Nat.mul_mod_left _ _) hA]
  omega
def twoV (l : List Int) : Int := l.getD 0 0 + 256 * l.getD 1 0
def fourV (l : List Int) : Int := l.getD 0 0 + 256 * l.getD 1 0 + 65536 * l.getD 2 0 + 16777216 * l.getD 3 0
set_option maxHeartbeats 800000 in
theorem rfour_any (b : Nat) (v : Value) (zs : List Int) (e : Int) (w : World) (hr : Rd w b v zs e) (hz : Byt zs) (hv : ∀ k, v.ownBlock = some k → k < w.heap.size) :
    Calls Try.prog 26 #[.pointer (some ⟨b, 0, none⟩)] w fun r w' => r = .returned (.int .u32 (fourV (rowR [0, 0, 0, 0] zs e).1)) ∧ Rleft w b v w' (rowR [0, 0, 0, 0] zs e).2.1 (rowR [0, 0, 0, 0] zs e).2.2 := by
  have hlen := rowR_len [0, 0, 0, 0] zs e
  have hby := (rowR_byt (ys := [0, 0, 0, 0]) (e := e) (by intro z hz; simp at hz; omega) hz).1
  have hr0 := hr.alloc (.cells #[.int .u8 0, .int .u8 0, .int .u8 0, .int .u8 0] 77)
  have hg0 : Rw (w.alloc (.cells #[.int .u8 0, .int .u8 0, .int .u8 0, .int .u8 0] 77)) w.heap.size [0, 0, 0, 0] 77 := Rw_new w [0, 0, 0, 0] 77
  have hlt := hr.lt
  generalize hres : rowR [0, 0, 0, 0] zs e = R at *
  obtain ⟨row, zs2, e2⟩ := R
  have HR : Hid (rowR [0, 0, 0, 0] zs e = (row, zs2, e2)) := hres
  clear hres
  go_enter Try.func26, Try.ntmps26
  go_wp2_with fail
  refine (fill_any b w.heap.size v zs [0, 0, 0, 0] e 77 _ hr0 hg0 (by omega) (fun h => Nat.lt_irrefl _ (hv _ h)) (by simp)).mono ?_
  rintro e w2 ⟨rfl, v2, hv2, hr2, hg2, hs2⟩
  rw [HR.out] at hr2 hg2
  obtain ⟨x0, x1, x2, x3, rfl⟩ : ∃ x0 x1 x2 x3, row = [x0, x1, x2, x3] := by
    match row, hlen with
    | [x0, x1, x2, x3], _ => exact ⟨x0, x1, x2, x3, rfl⟩
  have c0 : w2.cell? ⟨w.heap.size, 0, none⟩ = some (.int .u8 x0) := hg2.cell 0 (by simp)
  have c1 : w2.cell? ⟨w.heap.size, 1, none⟩ = some (.int .u8 x1) := hg2.cell 1 (by simp)
  have c2 : w2.cell? ⟨w.heap.size, 2, none⟩ = some (.int .u8 x2) := hg2.cell 2 (by simp)
  have c3 : w2.cell? ⟨w.heap.size, 3, none⟩ = some (.int .u8 x3) := hg2.cell 3 (by simp)
  have b0 := hby x0 (by simp)
  have b1 := hby x1 (by simp)
  have b2 := hby x2 (by simp)
  have b3 := hby x3 (by simp)
  have S : Rleft w b v w2 zs2 e2 := ⟨v2, hr2, Two2.rstep ((Below.refl _ _).alloc (Nat.le_refl _) _) hs2, hv2⟩
  have o1 : bits .or .u32 x0 (x1 * 256) = x0 + x1 * 256 := or32 x0 x1 8 (by decide) b0.1 (by simpa using b0.2) b1.1 b1.2
  obtain ⟨y1, hy1⟩ : ∃ y1, y1 = x0 + x1 * 256 := ⟨_, rfl⟩
  rw [← hy1] at o1
  have o2 : bits .or .u32 y1 (x2 * 65536) = y1 + x2 * 65536 := or32 y1 x2 16 (by decide) (by omega) (by simp; omega) b2.1 b2.2
  obtain ⟨y2, hy2⟩ : ∃ y2, y2 = y1 + x2 * 65536 := ⟨_, rfl⟩
  rw [← hy2] at o2
  have o3 : bits .or .u32 y2 (x3 * 16777216) = y2 + x3 * 16777216 := or32 y2 x3 24 (by decide) (by omega) (by simp; omega) b3.1 b3.2
  obtain ⟨y3, hy3⟩ : ∃ y3, y3 = y2 + x3 * 16777216 := ⟨_, rfl⟩
  rw [← hy3] at o3
  have HE : Hid (y3 = fourV [x0, x1, x2, x3]) := by
    have e : fourV [x0, x1, x2, x3] = x0 + 256 * x1 + 65536 * x2 + 16777216 * x3 := rfl
    show _ = _
    rw [e]; omega
  clear hg2 hr2 hs2 hv2 hby hlen hr0 hg0 hy1 hy2 hy3
  go_wp2
  go_ret
  exact ⟨ret_int HE.out, S⟩
theorem rfour_nil (w : World) : Calls Try.prog 26 #[.pointer none] w fun r w' => r = .returned (.int .u32 0) ∧ Below w.heap.size w w' := by
  have hbs : Bs (w.alloc (.cells #[.int .u8 0, .int .u8 0, .int .u8 0, .int .u8 0] 77)) (.slice (some ⟨w.heap.size, 0, none⟩) 4 4) [0, 0, 0, 0] := Bs_of_block (heap_alloc_new w _) (by simp [maxLen])
  go_enter Try.func26, Try.ntmps26
  go_wp2_with fail
  refine (fill_nil _ _ _ hbs).mono ?_
  rintro e w2 ⟨rfl, rfl⟩
  go_wp2
  go_ret
  exact ⟨rfl, (Below.refl _ _).alloc (Nat.le_refl _) _⟩
end Go.Proofs.Ytkchdkcdkeajkaa.Oc
