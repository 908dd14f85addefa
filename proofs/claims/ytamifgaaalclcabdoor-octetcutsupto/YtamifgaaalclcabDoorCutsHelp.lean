/-
  OctetCuts: what the Reader gives of bytes that are cut short; rows of numbers that grow.
-/
import Derived.Test.YtamifgaaalclcabDoorLaysHelp
namespace Go.Proofs.YtamifgaaalclcabDoor
open Go.RowKit

theorem numR_cut (f : Nat) (t : Int) (m k u g : Nat) (hm : m < (numB f t).length) (hg : m < g) : numR g k u ((numB f t).take m) = (0, [], 2) := by
  induction f generalizing t m k u g with
  | zero =>
    have : m = 0 := by have := (numB_length 0 t).2; omega
    subst this
    cases g with
    | zero => omega
    | succ g => rfl
  | succ f ih =>
    cases g with
    | zero => omega
    | succ g =>
      cases m with
      | zero => rfl
      | succ m =>
        by_cases ht : t < 128
        · rw [numB_small _ _ ht] at hm; simp at hm
        · rw [numB_more _ _ ht] at hm ⊢
          rw [List.take_succ_cons, numR_more (by omega)]
          exact ih _ _ _ _ _ (by simpa using hm) (by omega)
theorem numR_numOf_cut (v : Int) (m : Nat) (hm : m < (numOf v).length) : numR 10 0 0 ((numOf v).take m) = (0, [], 2) :=
  numR_cut 9 (foldI v) m 0 0 10 hm (by have := (numB_length 9 (foldI v)).2; unfold numOf at hm; omega)

theorem hid_into {p : Prop} (h : p) : Hid p := h
/-- The field's bytes are not all there; or an error was before. -/
def Shrt (f : Fd) (zs : List Int) (e : Int) : Prop := (e = 0 ∧ ∃ m, m < (encF f).length ∧ zs = (encF f).take m) ∨ (e = 2 ∧ zs = [])
theorem rowR_shrt {f : Fd} {zs : List Int} {e : Int} (h : Shrt f zs e) (ys : List Int) (hl : (encF f).length ≤ ys.length) : rowR ys zs e = (ys, [], 2) := by
  rcases h with ⟨rfl, m, hm, rfl⟩ | ⟨rfl, rfl⟩
  · exact rowR_no (by simp; omega)
  · exact rowR_err (by decide)
theorem bytesR_shrt {f : Fd} {zs : List Int} {e : Int} (h : Shrt f zs e) (hk : f.kind = 5) (hl : f.bs.length ≤ 16777216) : bytesR zs e = ([], [], 2) := by
  rcases h with ⟨rfl, m, hm, rfl⟩ | ⟨rfl, rfl⟩
  · have he : encF f = numOf f.bs.length ++ f.bs := by simp [encF, hk]
    rw [he] at hm ⊢
    by_cases hmn : m < (numOf f.bs.length).length
    · rw [List.take_append_of_le_length (by omega)]
      unfold bytesR
      rw [numR_numOf_cut _ _ hmn]
      simp
    · rw [List.take_append, List.take_of_length_le (by omega)]
      unfold bytesR
      rw [numR_numOf _ _ (by omega) (by omega)]
      rw [List.length_append] at hm
      have h1 : ¬ ((f.bs.length : Int) < 0 ∨ (16777216 : Int) < f.bs.length) := by omega
      have h2 : (((f.bs.take (m - (numOf f.bs.length).length)).length : Nat) : Int) < f.bs.length := by simp; omega
      simp only [ne_eq, not_true_eq_false, if_false, h1, h2, if_true]
  · rfl

section
variable {b : Nat} {v : Value} {f : Fd} {zs : List Int} {e : Int} {w : World}
theorem short1 (hr : Rd w b v zs e) (h : Shrt f zs e) (hk : f.kind = 1) : Calls Tryd.prog 8 #[.pointer (some ⟨b, 0, none⟩)] w fun r w' => r = .returned (.int .u8 0) ∧ Rleft w b v w' [] 2 := by
  rcases h with ⟨rfl, m, hm, rfl⟩ | ⟨rfl, rfl⟩
  · have hm0 : m = 0 := by simp [encF, hk] at hm; exact hm
    subst hm0
    refine (rbyte_no b v w hr).mono ?_
    rintro r w' ⟨rfl, h1, h2⟩
    exact ⟨rfl, _, h1, h2, Or.inr rfl⟩
  · refine (rbyte_err b v [] 2 w hr (by decide)).mono ?_
    rintro r w' ⟨rfl, rfl⟩
    exact ⟨rfl, v, hr, Rstep.refl _ _, Or.inl rfl⟩
theorem short2 (hr : Rd w b v zs e) (h : Shrt f zs e) (hk : f.kind = 2) (hz : Byt zs) (hv : ∀ k, v.ownBlock = some k → k < w.heap.size) : Calls Tryd.prog 9 #[.pointer (some ⟨b, 0, none⟩)] w fun r w' => r = .returned (.int .u16 0) ∧ Rleft w b v w' [] 2 := by
  refine (rtwo_any b v zs e w hr hz hv).mono ?_
  rw [rowR_shrt h _ (by simp [encF, hk, twoB])]
  exact fun _ _ h => h
theorem short3 (hr : Rd w b v zs e) (h : Shrt f zs e) (hk : f.kind = 3) (hz : Byt zs) (hv : ∀ k, v.ownBlock = some k → k < w.heap.size) : Calls Tryd.prog 10 #[.pointer (some ⟨b, 0, none⟩)] w fun r w' => r = .returned (.int .u32 0) ∧ Rleft w b v w' [] 2 := by
  refine (rfour_any b v zs e w hr hz hv).mono ?_
  rw [rowR_shrt h _ (by simp [encF, hk, fourB])]
  exact fun _ _ h => h
theorem short4 (hr : Rd w b v zs e) (h : Shrt f zs e) (hk : f.kind = 4) (hz : Byt zs) : Calls Tryd.prog 11 #[.pointer (some ⟨b, 0, none⟩)] w fun r w' => r = .returned (.int .i64 0) ∧ Rleft w b v w' [] 2 := by
  rcases h with ⟨rfl, m, hm, rfl⟩ | ⟨rfl, rfl⟩
  · have he : encF f = numOf f.n := by simp [encF, hk]
    rw [he] at hm hr hz
    refine (rnum_any b v _ w hr hz).mono ?_
    rw [numR_numOf_cut _ _ hm]
    exact fun _ _ h => h
  · refine (rnum_err b v [] 2 w hr (by decide)).mono ?_
    rintro r w' ⟨rfl, rfl⟩
    exact ⟨rfl, v, hr, Rstep.refl _ _, Or.inl rfl⟩
theorem short5 (hr : Rd w b v zs e) (h : Shrt f zs e) (hk : f.kind = 5) (hz : Byt zs) (hl : f.bs.length ≤ 16777216) : Calls Tryd.prog 13 #[.pointer (some ⟨b, 0, none⟩)] w fun r w' => ∃ ao cap, r = .returned (.slice ao 0 cap) ∧ Ow w' w.heap.size (.slice ao 0 cap) [] ∧ Rleft w b v w' [] 2 := by
  refine (rbytes_any b v zs e w hr hz).mono ?_
  rw [bytesR_shrt h hk hl]
  exact fun _ _ h => h
theorem short6 (hr : Rd w b v zs e) (h : Shrt f zs e) (hk : f.kind ≠ 1 ∧ f.kind ≠ 2 ∧ f.kind ≠ 3 ∧ f.kind ≠ 4 ∧ f.kind ≠ 5) (hh : f.h.length = 32) (hv : ∀ k, v.ownBlock = some k → k < w.heap.size) : Calls Tryd.prog 14 #[.pointer (some ⟨b, 0, none⟩)] w fun r w' => r = .returned (.agg (cellsOf zero32).toArray) ∧ Rleft w b v w' [] 2 := by
  refine (rhash_any b v zs e w hr hv).mono ?_
  rw [rowR_shrt h _ (by simp [encF, hk, hh, zero32])]
  exact fun _ _ h => h
end

/-- Where the Reader of the first cut bytes stands at field k. -/
def St (fs : List Fd) (cut k : Nat) (zs : List Int) (e : Int) : Prop :=
  ((encL (fs.take k)).length ≤ cut ∧ e = 0 ∧ zs = (encL (fs.drop k)).take (cut - (encL (fs.take k)).length)) ∨ (cut < (encL (fs.take k)).length ∧ e = 2 ∧ zs = [])
theorem St.start (fs : List Fd) (cut : Nat) : St fs cut 0 ((encL fs).take cut) 0 := Or.inl ⟨by simp [encL], rfl, by simp [encL]⟩
theorem St.byt {fs : List Fd} {cut k : Nat} {zs : List Int} {e : Int} (h : St fs cut k zs e) (hb : Byt (encL fs)) : Byt zs := by
  rcases h with ⟨_, _, rfl⟩ | ⟨_, _, rfl⟩
  · intro z hz
    refine hb z ?_
    rw [← List.take_append_drop k fs, encL_append]
    exact List.mem_append_right _ (List.mem_of_mem_take hz)
  · intro z hz; cases hz
theorem St.step {fs : List Fd} {cut k : Nat} {zs : List Int} {e : Int} (h : St fs cut k zs e) (hk : k < fs.length) :
    ((encL (fs.take (k + 1))).length ≤ cut ∧ ∃ r, e = 0 ∧ zs = encF fs[k] ++ r ∧ St fs cut (k + 1) r 0) ∨ (cut < (encL (fs.take (k + 1))).length ∧ Shrt fs[k] zs e ∧ St fs cut (k + 1) [] 2) := by
  have ht := encL_take fs k hk
  have hl : (encL (fs.take (k + 1))).length = (encL (fs.take k)).length + (encF fs[k]).length := by rw [ht, List.length_append]
  have hd := encL_drop fs k hk
  by_cases hw : (encL (fs.take (k + 1))).length ≤ cut
  · refine Or.inl ⟨hw, ?_⟩
    rcases h with ⟨h1, rfl, rfl⟩ | ⟨h1, _⟩
    · refine ⟨(encL (fs.drop (k + 1))).take (cut - (encL (fs.take (k + 1))).length), rfl, ?_, Or.inl ⟨hw, rfl, rfl⟩⟩
      rw [hd, List.take_append, List.take_of_length_le (by omega)]
      congr 2
      omega
    · omega
  · refine Or.inr ⟨by omega, ?_, Or.inr ⟨by omega, rfl, rfl⟩⟩
    rcases h with ⟨h1, rfl, rfl⟩ | ⟨h1, rfl, rfl⟩
    · exact Or.inl ⟨rfl, cut - (encL (fs.take k)).length, by omega, by rw [hd, List.take_append_of_le_length (by omega)]⟩
    · exact Or.inr ⟨rfl, rfl⟩
theorem St.done {fs : List Fd} {cut k : Nat} {zs : List Int} {e : Int} (h : St fs cut k zs e) (hk : fs.length ≤ k) (hc : cut < (encL fs).length) : e = 2 ∧ zs = [] := by
  rcases h with ⟨h1, _⟩ | ⟨_, h2, h3⟩
  · rw [List.take_of_length_le hk] at h1; omega
  · exact ⟨h2, h3⟩
theorem encF_pos (f : Fd) (h : f.h.length = 32) : 0 < (encF f).length := by
  have := (numB_length 9 (foldI f.n)).1
  have h2 := (numB_length 9 (foldI (f.bs.length : Int))).1
  unfold encF
  repeat' split
  · simp
  · simp [twoB]
  · simp [fourB]
  · exact this
  · rw [List.length_append]; unfold numOf; omega
  · omega

/-- The slice v, of its own row from block base on, holds the numbers es. -/
def intsOf (es : List Nat) : List Value := es.map fun (n : Nat) => .int .i64 (n : Int)
def Oi (w : World) (base : Nat) (v : Value) (es : List Nat) : Prop := w.ownsRow base 3 1 v es.length (intsOf es)
theorem Tryd.info3w : (Tryd.prog.info? 3).map (fun i => (i.zero, i.size, i.bytes)) = some (some (.int .i64 0), 1, 8) := by kernel_rfl
theorem Oi.shape {w : World} {base : Nat} {v : Value} {es : List Nat} (h : Oi w base v es) : ∃ ao cap, v = .slice ao es.length cap ∧ (es ≠ [] → es.length ≤ cap ∧ cap ≤ maxLen ∧ ∃ g, ao = some ⟨g, 0, none⟩ ∧ ∀ (k n : Nat), es[k]? = some n → w.cell? ⟨g, k, none⟩ = some (.int .i64 (n : Int))) := by
  rcases h.2 with ⟨rfl, h0⟩ | ⟨g, cap, cur, rfl, hb, hg, hn, hc, hs, ht⟩
  · refine ⟨none, 0, by rw [h0], fun hne => absurd (List.eq_nil_of_length_eq_zero h0) hne⟩
  · refine ⟨_, cap, rfl, fun _ => ⟨hn, hc, g, rfl, fun k n hk => ?_⟩⟩
    have := World.ownsRow.cells h (g := g) rfl k (.int .i64 (n : Int)) (by simp [intsOf, hk])
    simpa [Addr.add_lit] using this
/-- Rows of bytes and rows of numbers are two. -/
theorem Oi.ne {w : World} {base base' : Nat} {v u : Value} {es : List Nat} {zs : List Int} (h : Oi w base v es) (k : Ow w base' u zs) : v.ownBlock = none ∨ v.ownBlock ≠ u.ownBlock := by
  rcases h.2 with ⟨rfl, h0⟩ | ⟨g, cap, cur, rfl, hb, hg, _⟩
  · exact Or.inl rfl
  · right
    intro e
    rcases k.2 with ⟨rfl, h0⟩ | ⟨g', cap', cur', rfl, hb', hg', _⟩
    · simp [Value.ownBlock] at e
    · simp [Value.ownBlock] at e
      subst e
      rw [hg] at hg'
      simp at hg'
theorem Oi.ne' {w : World} {base base' : Nat} {v u : Value} {es : List Nat} {zs : List Int} (h : Oi w base v es) (k : Ow w base' u zs) : u.ownBlock = none ∨ u.ownBlock ≠ v.ownBlock := by
  rcases h.ne k with e | e
  · rw [e]
    cases u.ownBlock with
    | none => exact Or.inl rfl
    | some a => exact Or.inr (by simp)
  · exact Or.inr (Ne.symm e)
theorem wpList_append_int (w : World) {ops : Array Oper} {rest : List Oper} {o : Oper} {a : Act} {Q : Exit → Act → World → Prop} (hgd : o.guard = none) (s x : Operand)
    (ho : o.op = .call { callee := .builtin .append, args := #[s, x], argTypes := #[25, 25] })
    (base : Nat) (v : Value) (es : List Nat) (hs : a.eval s = v) (hown : Oi w base v es) (B n : Nat) (hx : a.eval x = .slice (some ⟨B, 0, none⟩) 1 1) (hb : w.cell? ⟨B, 0, none⟩ = some (.int .i64 (n : Int)))
    (h63 : es.length ≤ 100000) (hbase : base ≤ w.heap.size)
    (h : ∀ ao cap w', Oi w' base (.slice ao (es.length + 1) cap) (es ++ [n]) → w.grownBy w' v.ownBlock →
      ((Value.slice ao (es.length + 1) cap).ownBlock = v.ownBlock ∨ (Value.slice ao (es.length + 1) cap).ownBlock = some w.heap.size) →
      wpList Tryd.prog ops Q rest (a.put o.dst (.slice ao (es.length + 1) cap)) w') : wpList Tryd.prog ops Q (o :: rest) a w := by
  obtain ⟨i0, hi, hz0, hz1, hz2⟩ := info_parts Tryd.info3w
  obtain ⟨v', w', hr, h2, h3, _, h5⟩ := run_append_own_at (P := Tryd.prog) w base 25 o.type 3 i0 (.int .i64 0) 1 8 Tryd.underlying25 hi hz0 hz1 hz2 rfl (by decide) v es.length (intsOf es) hown ⟨B, 0, none⟩ 1 1 [.int .i64 (n : Int)] rfl
    (by intro j u hu
        cases j with
        | zero => rw [Addr.add_lit]; simp at hu; subst hu; exact hb
        | succ j => simp at hu) (by intro u hu; simp at hu; subst hu; rfl) (by unfold maxLen; omega) (by omega) hbase
  have h2' : Oi w' base v' (es ++ [n]) := by
    unfold Oi
    rw [List.length_append]
    simpa [intsOf] using h2
  obtain ⟨ao, cap, hv, _⟩ := h2'.shape
  rw [List.length_append] at hv
  subst hv
  refine wpList_plain hgd fun _ hK => ?_
  unfold Oper.wp execOp
  simp only [ho, resolve, invoke, builtin, Sem.run_bind, Sem.run_pure, Result.andThen_ok, List.map_toArray, List.map_cons, List.map_nil, hs, hx, hr]
  exact hK _ _ (h ao cap w' h2' h3 h5)

/-- A field of a row, whole, in a later world. -/
theorem Fs.row {w w' : World} {b : Nat} {off len cap : Nat} {fs : List Fd} (h : Fs w (.slice (some ⟨b, off, none⟩) len cap) fs) (hB : Below w.heap.size w w') (k : Nat) (hk : k < fs.length) :
    w'.rangeAt b (off + k * 35) fs[k].cells ∧ fs[k].ok w ∧ b < w.heap.size := by
  rcases h with ⟨rfl, _⟩ | ⟨_, b', off', cap', he, h1, h2, hcell⟩
  · simp at hk
  · simp only [Value.slice.injEq, Option.some.injEq, Addr.mk.injEq, and_true] at he
    obtain ⟨⟨rfl, rfl⟩, rfl, rfl⟩ := he
    obtain ⟨hra, hok⟩ := hcell k fs[k] (by simp [hk])
    refine ⟨fun j u hu => ?_, hok, World.block_lt_of_cell? w _ (hra 0 _ rfl)⟩
    have hc := hra j u hu
    have hlt : b < w.heap.size := World.block_lt_of_cell? w _ hc
    rw [hB.cell (p := ⟨b, off + k * 35 + j, none⟩) hlt]
    exact hc
theorem Fs.loc {w : World} {a : Option Addr} {len cap : Nat} {fs : List Fd} (h : Fs w (.slice a len cap) fs) (hk : 0 < fs.length) : ∃ gb off, a = some ⟨gb, off, none⟩ := by
  rcases h with ⟨h0, _⟩ | ⟨_, b', off', cap', he, _⟩
  · subst h0; simp at hk
  · simp only [Value.slice.injEq] at he
    exact ⟨b', off', he.1⟩
theorem range_cells {w : World} {b o : Nat} {f : Fd} (h : w.rangeAt b o f.cells) : w.cell? ⟨b, o, none⟩ = some (.int .i64 f.kind) ∧ w.cell? ⟨b, o + 1, none⟩ = some (.int .i64 f.n) ∧ w.cell? ⟨b, o + 2, none⟩ = some f.bv ∧ w.rangeAt b (o + 3) (cellsOf f.h) := by
  refine ⟨h 0 _ rfl, h 1 _ rfl, h 2 _ rfl, fun j u hu => ?_⟩
  have := h (3 + j) u (by show (Value.int .i64 f.kind :: .int .i64 f.n :: f.bv :: cellsOf f.h)[3 + j]? = some u; rw [show 3 + j = j + 1 + 1 + 1 by omega]; simpa using hu)
  rw [← Nat.add_assoc] at this
  exact this

section
variable {fs : List Fd} {cut k : Nat} {zs : List Int} {e : Int} (b : Nat) (v : Value)
theorem uni1 (hst : St fs cut k zs e) (hlt : k < fs.length) (hk : fs[k].kind = 1) : ∃ x zs' e', St fs cut (k + 1) zs' e' ∧ ((encL (fs.take (k + 1))).length ≤ cut → x = fs[k].n % 256) ∧
    ∀ W, Rd W b v zs e → Calls Tryd.prog 8 #[.pointer (some ⟨b, 0, none⟩)] W fun r w' => r = .returned (.int .u8 x) ∧ Rleft W b v w' zs' e' := by
  rcases hst.step hlt with ⟨h1, r, rfl, rfl, h2⟩ | ⟨h1, h2, h3⟩
  · exact ⟨_, r, 0, h2, fun _ => rfl, fun W hr => take1 b v _ r W hr hk⟩
  · exact ⟨0, [], 2, h3, fun h => by omega, fun W hr => short1 hr h2 hk⟩
theorem uni2 (hst : St fs cut k zs e) (hlt : k < fs.length) (hk : fs[k].kind = 2) (hz : Byt zs) : ∃ x zs' e', St fs cut (k + 1) zs' e' ∧ ((encL (fs.take (k + 1))).length ≤ cut → x = fs[k].n % 65536) ∧
    ∀ W, Rd W b v zs e → (∀ q, v.ownBlock = some q → q < W.heap.size) → Calls Tryd.prog 9 #[.pointer (some ⟨b, 0, none⟩)] W fun r w' => r = .returned (.int .u16 x) ∧ Rleft W b v w' zs' e' := by
  rcases hst.step hlt with ⟨h1, r, rfl, rfl, h2⟩ | ⟨h1, h2, h3⟩
  · exact ⟨_, r, 0, h2, fun _ => rfl, fun W hr hv => take2 b v _ r W hr hk hz hv⟩
  · exact ⟨0, [], 2, h3, fun h => by omega, fun W hr hv => short2 hr h2 hk hz hv⟩
theorem uni3 (hst : St fs cut k zs e) (hlt : k < fs.length) (hk : fs[k].kind = 3) (hz : Byt zs) : ∃ x zs' e', St fs cut (k + 1) zs' e' ∧ ((encL (fs.take (k + 1))).length ≤ cut → x = fs[k].n % 4294967296) ∧
    ∀ W, Rd W b v zs e → (∀ q, v.ownBlock = some q → q < W.heap.size) → Calls Tryd.prog 10 #[.pointer (some ⟨b, 0, none⟩)] W fun r w' => r = .returned (.int .u32 x) ∧ Rleft W b v w' zs' e' := by
  rcases hst.step hlt with ⟨h1, r, rfl, rfl, h2⟩ | ⟨h1, h2, h3⟩
  · exact ⟨_, r, 0, h2, fun _ => rfl, fun W hr hv => take3 b v _ r W hr hk hz hv⟩
  · exact ⟨0, [], 2, h3, fun h => by omega, fun W hr hv => short3 hr h2 hk hz hv⟩
theorem uni4 (hst : St fs cut k zs e) (hlt : k < fs.length) (hk : fs[k].kind = 4) (hz : Byt zs) (h0 : -9223372036854775808 ≤ fs[k].n) (h1 : fs[k].n ≤ 9223372036854775807) : ∃ x zs' e', St fs cut (k + 1) zs' e' ∧ ((encL (fs.take (k + 1))).length ≤ cut → x = fs[k].n) ∧
    ∀ W, Rd W b v zs e → Calls Tryd.prog 11 #[.pointer (some ⟨b, 0, none⟩)] W fun r w' => r = .returned (.int .i64 x) ∧ Rleft W b v w' zs' e' := by
  rcases hst.step hlt with ⟨g1, r, rfl, rfl, h2⟩ | ⟨g1, h2, h3⟩
  · exact ⟨_, r, 0, h2, fun _ => rfl, fun W hr => take4 b v _ r W hr hk hz h0 h1⟩
  · exact ⟨0, [], 2, h3, fun h => by omega, fun W hr => short4 hr h2 hk hz⟩
theorem uni5 (hst : St fs cut k zs e) (hlt : k < fs.length) (hk : fs[k].kind = 5) (hz : Byt zs) (hl : fs[k].bs.length ≤ 16777216) : ∃ row zs' e', St fs cut (k + 1) zs' e' ∧ ((encL (fs.take (k + 1))).length ≤ cut → row = fs[k].bs) ∧
    ∀ W, Rd W b v zs e → Calls Tryd.prog 13 #[.pointer (some ⟨b, 0, none⟩)] W fun r w' => ∃ ao cap, r = .returned (.slice ao row.length cap) ∧ Ow w' W.heap.size (.slice ao row.length cap) row ∧ Rleft W b v w' zs' e' := by
  rcases hst.step hlt with ⟨g1, r, rfl, rfl, h2⟩ | ⟨g1, h2, h3⟩
  · exact ⟨_, r, 0, h2, fun _ => rfl, fun W hr => take5 b v _ r W hr hk hz hl⟩
  · exact ⟨[], [], 2, h3, fun h => by omega, fun W hr => short5 hr h2 hk hz hl⟩
theorem uni6 (hst : St fs cut k zs e) (hlt : k < fs.length) (hk : fs[k].kind ≠ 1 ∧ fs[k].kind ≠ 2 ∧ fs[k].kind ≠ 3 ∧ fs[k].kind ≠ 4 ∧ fs[k].kind ≠ 5) (hh : fs[k].h.length = 32) : ∃ row zs' e', row.length = 32 ∧ St fs cut (k + 1) zs' e' ∧ ((encL (fs.take (k + 1))).length ≤ cut → row = fs[k].h) ∧
    ∀ W, Rd W b v zs e → (∀ q, v.ownBlock = some q → q < W.heap.size) → Calls Tryd.prog 14 #[.pointer (some ⟨b, 0, none⟩)] W fun r w' => r = .returned (.agg (cellsOf row).toArray) ∧ Rleft W b v w' zs' e' := by
  rcases hst.step hlt with ⟨g1, r, rfl, rfl, h2⟩ | ⟨g1, h2, h3⟩
  · exact ⟨_, r, 0, hh, h2, fun _ => rfl, fun W hr hv => take6 b v _ r W hr hk hh hv⟩
  · exact ⟨zero32, [], 2, rfl, h3, fun h => by omega, fun W hr hv => short6 hr h2 hk hh hv⟩
end

theorem newReader_lt (sv : Value) (zs : List Int) (w : World) (hb : Bs w sv zs) (hz : zs.length ≤ 100000000000000) :
    Calls Tryd.prog 7 #[sv] w fun e w' => ∃ b v, e = .returned (.pointer (some ⟨b, 0, none⟩)) ∧ Rd w' b v zs 0 ∧ Below w.heap.size w w' ∧ w.heap.size ≤ b ∧ ∀ k, v.ownBlock = some k → k < w'.heap.size := by
  go_enter Tryd.func7, Tryd.ntmps7
  go_wp2_with fail
  refine (clone_any sv zs _ hb hz).mono ?_
  rintro e w1 ⟨ao, cap, rfl, hown, B1⟩
  have R : Rd (w1.alloc (.cells #[.slice ao zs.length cap, .int .i64 0] 57)) w1.heap.size (.slice ao zs.length cap) zs 0 :=
    ⟨heap_alloc_new w1 _, hown.bs.below ((Below.refl _ _).alloc (Nat.le_refl _) _) (Nat.le_refl _), fun e => by have := World.ownsRow.lt hown _ e; omega⟩
  have hk : ∀ k, (Value.slice ao zs.length cap).ownBlock = some k → k < (w1.alloc (.cells #[.slice ao zs.length cap, .int .i64 0] 57)).heap.size := fun k e => by have := (World.ownsRow.lt hown k e).2; simp; omega
  have hs := B1.size
  clear hown
  go_wp2
  go_ret
  exact ⟨_, _, rfl, R, B1.alloc hs _, hs, hk⟩
end Go.Proofs.YtamifgaaalclcabDoor
