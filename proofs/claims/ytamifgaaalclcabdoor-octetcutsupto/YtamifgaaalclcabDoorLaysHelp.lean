/-
  For OctetLays: a field copied into a variable of its own; fields' bytes (encL); a field taken from where it was laid, kind by kind.
-/
import Derived.Test.YtamifgaaalclcabDoorBytesF
import Derived.Test.YtamifgaaalclcabDoorJoinsWalk
import Derived.Test.YtamifgaaalclcabDoorHashEq
namespace Go.Proofs.YtamifgaaalclcabDoor
open Go.RowKit

/-- 'x := l[i]': the field is stored into a new variable. -/
theorem wpList_store_new {ops : Array Oper} {rest : List Oper} {op : Oper} {a : Act} {Q : Exit → Act → World → Prop} (w : World) (hgd : op.guard = none) (x y : Operand) (ho : op.op = .store 30 x y) (cs : List Value)
    (hx : a.eval x = .pointer (some ⟨w.heap.size, 0, none⟩)) (hy : a.eval y = .agg cs.toArray) (hl : Hid (cs.length = 35)) (h1 : ∀ u ∈ cs, u.oneCell' = true)
    (h : ∀ WX : World, WX.heap[w.heap.size]? = some (.cells cs.toArray 30 (0, 0)) → Below w.heap.size w WX → w.heap.size < WX.heap.size → wpList Tryd.prog ops Q rest (a.put op.dst undef) WX) :
    wpList Tryd.prog ops Q (op :: rest) a (w.alloc (.cells zeroFd.toArray 30)) := by
  have hb : (w.alloc (.cells zeroFd.toArray 30)).heap[w.heap.size]? = some (.cells ([] ++ zeroFd).toArray 30 (0, 0)) := heap_alloc_new w _
  have hth : (w.alloc (.cells zeroFd.toArray 30)).there w.heap.size 0 cs.toArray.size := by
    intro j hj
    have hj' : j < 35 := by simpa [hl.out] using hj
    have hc := cell_of_row (w.alloc (.cells zeroFd.toArray 30)) w.heap.size j _ _ _ hb
    rw [Nat.zero_add, hc, frozen_of_row _ w.heap.size j _ _ hb]
    refine ⟨?_, rfl⟩
    have hzl : zeroFd.length = 35 := rfl
    simp [hzl, hj']
  refine wpList_store_mid hgd 30 x y ho w.heap.size 0 cs.toArray hx hy hth (by simp only [List.size_toArray, hl.out]; exact Tryd.info30) (all_oneCell_toArray h1) ?_
  have hs := setCells_same w.heap.size 30 cs [] zeroFd _ hb (by rw [hl.out]; rfl)
  have hr := setCells_rest w.heap.size cs 0 (w.alloc (.cells zeroFd.toArray 30))
  refine h _ hs ?_ (by rw [hr.2.2.2]; simp)
  refine ⟨hr.1, hr.2.1, hr.2.2.1, by rw [hr.2.2.2]; simp, fun k hk => ?_⟩
  rw [setCells_other _ _ (by omega)]
  exact Below.heap_alloc _ _ _ hk

def encL (fs : List Fd) : List Int := fs.flatMap encF
theorem encL_append (a b : List Fd) : encL (a ++ b) = encL a ++ encL b := by simp [encL]
theorem encL_one (f : Fd) : encL [f] = encF f := by simp [encL]
theorem encF_len (f : Fd) (h : f.h.length = 32) : (encF f).length ≤ 32 + (10 + f.bs.length) := by
  have h1 := numOf_length f.n
  have h2 := numOf_length (f.bs.length : Int)
  unfold encF
  split
  · simp only [List.length_cons, List.length_nil]; omega
  split
  · simp only [twoB, List.length_cons, List.length_nil]; omega
  split
  · simp only [fourB, List.length_cons, List.length_nil]; omega
  split
  · omega
  split
  · rw [List.length_append]; omega
  · omega
theorem encL_len (fs : List Fd) (h : ∀ f ∈ fs, f.h.length = 32) : (encL fs).length ≤ 32 * fs.length + roomF fs := by
  induction fs with
  | nil => simp [encL, roomF]
  | cons f fs ih =>
    have e1 : encL (f :: fs) = encF f ++ encL fs := rfl
    have e2 : roomF (f :: fs) = 10 + f.bs.length + roomF fs := by simp [roomF]
    have := encF_len f (h f (by simp))
    have := ih (fun g hg => h g (by simp [hg]))
    rw [e1, e2, List.length_append, List.length_cons]
    omega
theorem twoB_byt (x : Int) : Byt (twoB x) := by intro z hz; simp [twoB] at hz; omega
theorem fourB_byt (x : Int) : Byt (fourB x) := by intro z hz; simp [fourB] at hz; omega
theorem encF_byt {f : Fd} {w : World} (h : f.ok w) : Byt (encF f) := by
  unfold encF
  split
  · intro z hz; simp at hz; omega
  split
  · exact twoB_byt _
  split
  · exact fourB_byt _
  split
  · exact numOf_byt _ h.n0 h.n1
  split
  · exact (numOf_byt _ (by omega) (by have := h.small; omega)).append h.byt
  · exact h.hbyt
theorem encL_byt {fs : List Fd} {w : World} (h : ∀ f ∈ fs, f.ok w) : Byt (encL fs) := by
  intro z hz
  obtain ⟨f, hf, hz⟩ := List.mem_flatMap.1 hz
  exact encF_byt (h f hf) z hz
theorem encL_take (l : List Fd) (k : Nat) (h : k < l.length) : encL (l.take (k + 1)) = encL (l.take k) ++ encF l[k] := by
  rw [List.take_succ_eq_append_getElem h, encL_append, encL_one]
theorem encL_drop (l : List Fd) (k : Nat) (h : k < l.length) : encL (l.drop k) = encF l[k] ++ encL (l.drop (k + 1)) := by
  rw [List.drop_eq_getElem_cons h]; rfl

theorem rowR_app (ys xs r : List Int) (h : ys.length = xs.length) : rowR ys (xs ++ r) 0 = (xs, r, 0) := by
  rw [rowR_yes (by rw [List.length_append]; omega), h]
  simp
theorem twoV_twoB (x : Int) (h0 : 0 ≤ x) (h1 : x < 65536) : twoV (twoB x) = x := by
  have e : twoV (twoB x) = x % 256 + 256 * (x / 256 % 256) := rfl
  rw [e]; omega
theorem fourV_fourB (x : Int) (h0 : 0 ≤ x) (h1 : x < 4294967296) : fourV (fourB x) = x := by
  have e : fourV (fourB x) = x % 256 + 256 * (x / 256 % 256) + 65536 * (x / 65536 % 256) + 16777216 * (x / 16777216 % 256) := rfl
  rw [e]; omega

section
variable (b : Nat) (v : Value) (f : Fd) (r : List Int) (w : World)
theorem take1 (hr : Rd w b v (encF f ++ r) 0) (hk : f.kind = 1) : Calls Tryd.prog 8 #[.pointer (some ⟨b, 0, none⟩)] w fun e w' => e = .returned (.int .u8 (f.n % 256)) ∧ Rleft w b v w' r 0 := by
  rw [show encF f = [f.n % 256] by simp [encF, hk]] at hr
  refine (rbyte_yes b v _ _ w hr).mono ?_
  rintro e w' ⟨rfl, v', hv, h1, h2⟩
  exact ⟨rfl, v', h1, h2, Or.inl hv⟩
theorem take2 (hr : Rd w b v (encF f ++ r) 0) (hk : f.kind = 2) (hby : Byt (encF f ++ r)) (hv : ∀ k, v.ownBlock = some k → k < w.heap.size) : Calls Tryd.prog 9 #[.pointer (some ⟨b, 0, none⟩)] w fun e w' => e = .returned (.int .u16 (f.n % 65536)) ∧ Rleft w b v w' r 0 := by
  refine (rtwo_any b v _ 0 w hr hby hv).mono ?_
  rw [show encF f = twoB (f.n % 65536) by simp [encF, hk], rowR_app _ _ _ (by rfl), twoV_twoB _ (by omega) (by omega)]
  exact fun e w' h => h
theorem take3 (hr : Rd w b v (encF f ++ r) 0) (hk : f.kind = 3) (hby : Byt (encF f ++ r)) (hv : ∀ k, v.ownBlock = some k → k < w.heap.size) : Calls Tryd.prog 10 #[.pointer (some ⟨b, 0, none⟩)] w fun e w' => e = .returned (.int .u32 (f.n % 4294967296)) ∧ Rleft w b v w' r 0 := by
  refine (rfour_any b v _ 0 w hr hby hv).mono ?_
  rw [show encF f = fourB (f.n % 4294967296) by simp [encF, hk], rowR_app _ _ _ (by rfl), fourV_fourB _ (by omega) (by omega)]
  exact fun e w' h => h
theorem take4 (hr : Rd w b v (encF f ++ r) 0) (hk : f.kind = 4) (hby : Byt (encF f ++ r)) (h0 : -9223372036854775808 ≤ f.n) (h1 : f.n ≤ 9223372036854775807) : Calls Tryd.prog 11 #[.pointer (some ⟨b, 0, none⟩)] w fun e w' => e = .returned (.int .i64 f.n) ∧ Rleft w b v w' r 0 := by
  refine (rnum_any b v _ w hr hby).mono ?_
  rw [show encF f = numOf f.n by simp [encF, hk], numR_numOf _ _ h0 h1]
  exact fun e w' h => h
theorem take5 (hr : Rd w b v (encF f ++ r) 0) (hk : f.kind = 5) (hby : Byt (encF f ++ r)) (hl : f.bs.length ≤ 16777216) : Calls Tryd.prog 13 #[.pointer (some ⟨b, 0, none⟩)] w fun e w' => ∃ ao cap, e = .returned (.slice ao f.bs.length cap) ∧ Ow w' w.heap.size (.slice ao f.bs.length cap) f.bs ∧ Rleft w b v w' r 0 := by
  refine (rbytes_any b v _ 0 w hr hby).mono ?_
  have e : encF f ++ r = encB [f] ++ r := by rw [encB_one]; simp [encF, hk]
  rw [e, bytesR_enc f r hl]
  exact fun e w' h => h
theorem take6 (hr : Rd w b v (encF f ++ r) 0) (hk : f.kind ≠ 1 ∧ f.kind ≠ 2 ∧ f.kind ≠ 3 ∧ f.kind ≠ 4 ∧ f.kind ≠ 5) (hh : f.h.length = 32) (hv : ∀ k, v.ownBlock = some k → k < w.heap.size) : Calls Tryd.prog 14 #[.pointer (some ⟨b, 0, none⟩)] w fun e w' => e = .returned (.agg (cellsOf f.h).toArray) ∧ Rleft w b v w' r 0 := by
  refine (rhash_any b v _ 0 w hr hv).mono ?_
  rw [show encF f = f.h by simp [encF, hk], rowR_app _ _ _ (by rw [hh]; rfl)]
  exact fun e w' h => h
end
end Go.Proofs.YtamifgaaalclcabDoor
