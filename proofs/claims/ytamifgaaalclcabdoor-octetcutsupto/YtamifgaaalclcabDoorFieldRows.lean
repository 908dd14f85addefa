/-
  Rows of fields: appended, owned, read; what fields' bytes come to (encB). Plain facts; no walk.
-/
import Derived.Test.YtamifgaaalclcabDoorFields
import Derived.Test.YtamifgaaalclcabDoorReaderBytes
import Derived.Test.YtamifgaaalclcabDoorNothingWalk
namespace Go.Proofs.YtamifgaaalclcabDoor
open Go.RowKit

theorem Tryd.info30w : (Tryd.prog.info? 30).map (fun i => (i.zero, i.size, i.bytes)) = some (some (.agg zeroFd.toArray), 35, 72) := by kernel_rfl

def cellsF (fs : List Fd) : List Value := fs.flatMap Fd.cells
theorem range_append {w : World} {b o : Nat} {xs ys : List Value} (h1 : w.rangeAt b o xs) (h2 : w.rangeAt b (o + xs.length) ys) : w.rangeAt b o (xs ++ ys) := by
  intro j u hu
  by_cases hj : j < xs.length
  · rw [List.getElem?_append_left hj] at hu; exact h1 j u hu
  · rw [List.getElem?_append_right (by omega)] at hu
    have := h2 (j - xs.length) u hu
    rw [show o + xs.length + (j - xs.length) = o + j by omega] at this
    exact this
theorem range_left {w : World} {b o : Nat} {xs ys : List Value} (h : w.rangeAt b o (xs ++ ys)) : w.rangeAt b o xs := fun j u hu => h j u (by rw [List.getElem?_append_left (List.getElem?_eq_some_iff.1 hu).1]; exact hu)
theorem range_right {w : World} {b o : Nat} {xs ys : List Value} (h : w.rangeAt b o (xs ++ ys)) : w.rangeAt b (o + xs.length) ys := fun j u hu => by
  have := h (xs.length + j) u (by rw [List.getElem?_append_right (by omega)]; simpa using hu)
  rw [show o + xs.length + j = o + (xs.length + j) by omega]
  exact this
theorem range_of_fields {w : World} {b : Nat} : ∀ (fs : List Fd) (o : Nat), (∀ i f, fs[i]? = some f → w.rangeAt b (o + i * 35) f.cells ∧ f.cells.length = 35) → w.rangeAt b o (cellsF fs)
  | [], _, _ => fun j u hu => by simp [cellsF] at hu
  | f :: fs, o, h => by
    have h0 := h 0 f rfl
    refine range_append (by simpa using h0.1) (range_of_fields fs _ fun i g hg => ?_)
    have := h (i + 1) g (by simpa using hg)
    rw [h0.2, show o + 35 + i * 35 = o + (i + 1) * 35 by omega]
    exact this
theorem fields_of_range {w : World} {b : Nat} : ∀ (fs : List Fd) (o : Nat), (∀ f ∈ fs, f.cells.length = 35) → w.rangeAt b o (cellsF fs) → ∀ i f, fs[i]? = some f → w.rangeAt b (o + i * 35) f.cells
  | [], _, _, _ => fun i f hf => by simp at hf
  | g :: fs, o, hl, h => fun i f hf => by
    have hg := hl g (by simp)
    cases i with
    | zero =>
      simp at hf; subst hf
      simpa using range_left (ys := cellsF fs) h
    | succ i =>
      have hr := range_right (xs := g.cells) (ys := cellsF fs) h
      rw [hg] at hr
      have := fields_of_range fs (o + 35) (fun f hf => hl f (by simp [hf])) hr i f (by simpa using hf)
      rw [show o + (i + 1) * 35 = o + 35 + i * 35 by omega]
      exact this
theorem cellsF_length : ∀ (fs : List Fd), (∀ f ∈ fs, f.cells.length = 35) → (cellsF fs).length = fs.length * 35
  | [], _ => rfl
  | f :: fs, h => by
    have h0 := h f (by simp)
    have ih := cellsF_length fs (fun g hg => h g (by simp [hg]))
    simp only [cellsF, List.flatMap_cons, List.length_append, List.length_cons, h0] at ih ⊢
    omega
theorem cellsF_append (a b : List Fd) : cellsF (a ++ b) = cellsF a ++ cellsF b := by simp [cellsF]

/-- The slice v, of its own row from block base on, holds the fields fs. -/
def OwF (w : World) (base : Nat) (v : Value) (fs : List Fd) : Prop := w.ownsRow base 30 35 v fs.length (cellsF fs)
theorem Fd.one {f : Fd} {w : World} (h : f.ok w) : ∀ u ∈ f.cells, u.oneCell' = true := by
  intro u hu
  obtain ⟨ao, cap, hb, _⟩ := h.b.len
  simp only [Fd.cells, List.mem_cons] at hu
  rcases hu with rfl | rfl | rfl | hu
  · rfl
  · rfl
  · rw [hb]; rfl
  · exact cellsOf_one f.h u hu

theorem OwF.form {w : World} {base : Nat} {v : Value} {fs : List Fd} (h : OwF w base v fs) : ∃ ao cap, v = .slice ao fs.length cap := by
  rcases h.2 with ⟨rfl, h0⟩ | ⟨g, cap, cur, rfl, _⟩
  · exact ⟨none, 0, by rw [h0]⟩
  · exact ⟨_, cap, rfl⟩
theorem OwF.fs {w : World} {base : Nat} {v : Value} {fs : List Fd} (h : OwF w base v fs) (hok : ∀ f ∈ fs, f.ok w) : Fs w v fs := by
  rcases h.2 with ⟨rfl, h0⟩ | ⟨g, cap, cur, rfl, hb, hg, hn, hc, hs, ht⟩
  · exact Or.inl ⟨List.eq_nil_of_length_eq_zero h0, none, 0, rfl⟩
  · by_cases hz : fs = []
    · subst hz; exact Or.inl ⟨rfl, _, cap, rfl⟩
    · refine Or.inr ⟨hz, g, 0, cap, rfl, hn, hc, fun i f hf => ⟨?_, hok f (List.mem_of_getElem? hf)⟩⟩
      have hra : w.rangeAt g 0 (cellsF fs) := by
        intro j u hu
        have := World.ownsRow.cells h (g := g) rfl j u hu
        simpa [Addr.add_lit] using this
      exact fields_of_range fs 0 (fun f hf => Fd.cells_len (hok f hf)) hra i f hf

theorem run_append_fs (w : World) (base : Nat) (ty : TypeId) (v : Value) (xs : List Fd) (hown : OwF w base v xs) (x : Value) (zs : List Fd) (hb : Fs w x zs)
    (h63 : xs.length + zs.length ≤ 1000000) (hbase : base ≤ w.heap.size) (hnn : zs = [] → ∃ a c, x = .slice (some a) 0 c ∨ x = .slice none 0 0) :
    ∃ ao cap w', (Builtin.append_ #[22, 22] ty #[v, x]).run Tryd.prog w = .ok (.slice ao (xs.length + zs.length) cap) w' ∧ OwF w' base (.slice ao (xs.length + zs.length) cap) (xs ++ zs) ∧ w.grownBy w' v.ownBlock ∧
      ((Value.slice ao (xs.length + zs.length) cap).ownBlock = v.ownBlock ∨ (Value.slice ao (xs.length + zs.length) cap).ownBlock = some w.heap.size) := by
  obtain ⟨i0, hi, hz0, hz1, hz2⟩ := info_parts Tryd.info30w
  have key : ∀ a m c, m = zs.length → (∀ j u, (cellsF zs)[j]? = some u → w.cell? (Addr.add a j) = some u) → (cellsF zs).length = zs.length * 35 → (∀ u ∈ cellsF zs, u.oneCell' = true) → x = .slice (some a) m c → ∃ ao cap w', (Builtin.append_ #[22, 22] ty #[v, x]).run Tryd.prog w = .ok (.slice ao (xs.length + zs.length) cap) w' ∧ OwF w' base (.slice ao (xs.length + zs.length) cap) (xs ++ zs) ∧ w.grownBy w' v.ownBlock ∧
      ((Value.slice ao (xs.length + zs.length) cap).ownBlock = v.ownBlock ∨ (Value.slice ao (xs.length + zs.length) cap).ownBlock = some w.heap.size) := by
    intro a m c hm hc hcl h1 hx
    subst hm; subst hx
    obtain ⟨v', w', hr, h2, h3, _, h5⟩ := run_append_own_at (P := Tryd.prog) w base 22 ty 30 i0 (.agg zeroFd.toArray) 35 72 Tryd.underlying22 hi hz0 hz1 hz2 rfl (by decide) v xs.length (cellsF xs) hown a zs.length c (cellsF zs) hcl hc h1 (by unfold maxLen; omega) (by omega) hbase
    have h2' : OwF w' base v' (xs ++ zs) := by
      unfold OwF
      rw [cellsF_append, List.length_append]
      exact h2
    obtain ⟨ao, cap, rfl⟩ := h2'.form
    rw [List.length_append] at hr h2' h5
    exact ⟨ao, cap, w', hr, h2', h3, h5⟩
  rcases hb with ⟨rfl, ao, cap, rfl⟩ | ⟨hz, b, off, cap, rfl, hn, hc, hcell⟩
  · obtain ⟨a, c, hx | hx⟩ := hnn rfl
    · rw [hx]
      rw [hx] at key
      exact key a 0 c rfl (by intro j u h; simp [cellsF] at h) rfl (by intro u hu; simp [cellsF] at hu) rfl
    · rw [hx]
      have hr := run_append_owned_none (P := Tryd.prog) w base 22 ty 30 i0 35 Tryd.underlying22 hi v xs.length (cellsF xs) hown
      obtain ⟨ao, cap, hv⟩ := OwF.form hown
      refine ⟨ao, cap, w, ?_, ?_, World.grownBy.refl _ _, Or.inl ?_⟩
      · rw [hr]; simp [hv]
      · simpa [hv] using hown
      · simp [hv]
  · have hra : w.rangeAt b off (cellsF zs) := range_of_fields zs off fun i f hf => ⟨(hcell i f hf).1, Fd.cells_len (hcell i f hf).2⟩
    have hall : ∀ f ∈ zs, f.ok w := fun f hf => by
      obtain ⟨i, hi⟩ := List.getElem?_of_mem hf
      exact (hcell i f hi).2
    refine key ⟨b, off, none⟩ zs.length cap rfl (fun j u h => ?_) (cellsF_length zs fun f hf => Fd.cells_len (hall f hf)) ?_ rfl
    · rw [Addr.add_lit]; exact hra j u h
    · intro u hu
      obtain ⟨f, hf, hu⟩ := List.mem_flatMap.1 hu
      exact Fd.one (hall f hf) u hu

theorem wpList_append_fs (w : World) {ops : Array Oper} {rest : List Oper} {o : Oper} {a : Act} {Q : Exit → Act → World → Prop} (hgd : o.guard = none) (s x : Operand)
    (ho : o.op = .call { callee := .builtin .append, args := #[s, x], argTypes := #[22, 22] })
    (base : Nat) (v : Value) (xs : List Fd) (hs : a.eval s = v) (hown : OwF w base v xs) (vx : Value) (zs : List Fd) (hx : a.eval x = vx) (hb : Fs w vx zs)
    (h63 : xs.length + zs.length ≤ 1000000) (hbase : base ≤ w.heap.size) (hnn : zs = [] → ∃ a c, vx = .slice (some a) 0 c ∨ vx = .slice none 0 0)
    (h : ∀ ao cap w', OwF w' base (.slice ao (xs.length + zs.length) cap) (xs ++ zs) → w.grownBy w' v.ownBlock →
      ((Value.slice ao (xs.length + zs.length) cap).ownBlock = v.ownBlock ∨ (Value.slice ao (xs.length + zs.length) cap).ownBlock = some w.heap.size) →
      wpList Tryd.prog ops Q rest (a.put o.dst (.slice ao (xs.length + zs.length) cap)) w') : wpList Tryd.prog ops Q (o :: rest) a w := by
  obtain ⟨ao, cap, w', hr, h2, h3, h4⟩ := run_append_fs w base o.type v xs hown vx zs hb h63 hbase hnn
  refine wpList_plain hgd fun _ hK => ?_
  unfold Oper.wp execOp
  simp only [ho, resolve, invoke, builtin, Sem.run_bind, Sem.run_pure, Result.andThen_ok, List.map_toArray, List.map_cons, List.map_nil, hs, hx, hr]
  exact hK _ _ (h ao cap w' h2 h3 h4)

theorem Fs.below {w w' : World} {v : Value} {fs : List Fd} {B : Nat} (h : Fs w v fs) (hk : Below B w w') (hb : w.heap.size ≤ B) : Fs w' v fs := by
  rcases h with h | ⟨hz, b, off, cap, rfl, h1, h2, hcell⟩
  · exact Or.inl h
  · refine Or.inr ⟨hz, b, off, cap, rfl, h1, h2, fun i f hf => ⟨?_, ?_⟩⟩
    · intro j u hu
      have hc := (hcell i f hf).1 j u hu
      have hlt := World.block_lt_of_cell? w _ hc
      rw [hk.cell (p := ⟨b, off + i * 35 + j, none⟩) (by have : b < w.heap.size := hlt; show b < B; omega)]
      exact hc
    · exact (hcell i f hf).2.keep (hk.mono hb)
theorem Fs.oks {w : World} {v : Value} {fs : List Fd} (h : Fs w v fs) : ∀ f ∈ fs, f.ok w := by
  rcases h with ⟨rfl, _⟩ | ⟨hz, b, off, cap, rfl, h1, h2, hcell⟩
  · intro f hf; cases hf
  · intro f hf
    obtain ⟨i, hi⟩ := List.getElem?_of_mem hf
    exact (hcell i f hi).2

/-- Fields' bytes with their lengths. -/
def encB (fs : List Fd) : List Int := fs.flatMap fun f => numOf f.bs.length ++ f.bs
theorem encB_append (a b : List Fd) : encB (a ++ b) = encB a ++ encB b := by simp [encB]
theorem encB_one (f : Fd) : encB [f] = numOf f.bs.length ++ f.bs := by simp [encB]
/-- How many bytes fields may take. -/
def roomF (fs : List Fd) : Nat := (fs.map fun f => 10 + f.bs.length).sum
theorem roomF_append (a b : List Fd) : roomF (a ++ b) = roomF a + roomF b := by simp [roomF]
theorem encB_len (fs : List Fd) : (encB fs).length ≤ roomF fs := by
  induction fs with
  | nil => simp [encB, roomF]
  | cons f fs ih =>
    have := numOf_length (f.bs.length : Int)
    have e1 : encB (f :: fs) = (numOf f.bs.length ++ f.bs) ++ encB fs := rfl
    have e2 : roomF (f :: fs) = 10 + f.bs.length + roomF fs := by simp [roomF]
    rw [e1, e2, List.length_append, List.length_append]
    omega
theorem roomF_len (fs : List Fd) : fs.length ≤ roomF fs := by
  induction fs with
  | nil => simp [roomF]
  | cons f fs ih =>
    have e2 : roomF (f :: fs) = 10 + f.bs.length + roomF fs := by simp [roomF]
    rw [e2]; simp only [List.length_cons]; omega
theorem roomF_mem {fs : List Fd} {f : Fd} (h : f ∈ fs) : 10 + f.bs.length ≤ roomF fs := by
  induction fs with
  | nil => cases h
  | cons g fs ih =>
    have e2 : roomF (g :: fs) = 10 + g.bs.length + roomF fs := by simp [roomF]
    rw [e2]
    rcases List.mem_cons.1 h with rfl | h
    · omega
    · have := ih h; omega
theorem heavyN_room (fs : List Fd) (n : Nat) (h : heavyN (fs.map (·.bs.length)) n ≤ 3000) : n + roomF fs ≤ 3000 := by
  induction fs generalizing n with
  | nil => simpa [heavyN, roomF] using h
  | cons f fs ih =>
    have e2 : roomF (f :: fs) = 10 + f.bs.length + roomF fs := by simp [roomF]
    by_cases hn : n ≤ 3000
    · rw [List.map_cons, heavyN_step _ _ _ hn] at h
      have := ih _ h
      rw [e2]; omega
    · rw [heavyN_over _ _ (by omega)] at h; omega
theorem heavy_room {fs : List Fd} (h : heavyB fs = false) : roomF fs ≤ 3000 := by
  have h1 : heavyN (fs.map (·.bs.length)) 0 ≤ 3000 := by simpa [heavyB] using h
  have := heavyN_room fs 0 h1
  omega
theorem bytesR_enc (f : Fd) (rest : List Int) (hl : f.bs.length ≤ 16777216) : bytesR (encB [f] ++ rest) 0 = (f.bs, rest, 0) := by
  have h := numR_numOf (f.bs.length : Int) (f.bs ++ rest) (by omega) (by omega)
  have e : encB [f] ++ rest = numOf f.bs.length ++ (f.bs ++ rest) := by rw [encB_one, List.append_assoc]
  unfold bytesR
  rw [e, h]
  have h1 : ¬ ((f.bs.length : Int) < 0 ∨ 16777216 < (f.bs.length : Int)) := by omega
  have h2 : ¬ (((f.bs ++ rest).length : Int) < (f.bs.length : Int)) := by rw [List.length_append]; omega
  simp only [ne_eq, not_true_eq_false, if_false, h1, h2, Int.toNat_natCast]
  simp

theorem Ow.keep {w w' : World} {base : Nat} {v : Value} {zs : List Int} (h : Ow w base v zs) (hk : ∀ k, v.ownBlock = some k → k < w.heap.size → w'.heap[k]? = w.heap[k]?) : Ow w' base v zs := by
  refine ⟨h.1, ?_⟩
  rcases h.2 with h2 | ⟨g, cap, cur, rfl, hb, hg, rest⟩
  · exact Or.inl h2
  · exact Or.inr ⟨g, cap, cur, rfl, hb, by rw [hk g rfl (Array.getElem?_eq_some_iff.1 hg).1]; exact hg, rest⟩

/-- Two Writers' blocks and rows are not one another's. -/
structure Ap (b : Nat) (v : Value) (b' : Nat) (v' : Value) : Prop where
  bb : b ≠ b'
  vb : v.ownBlock ≠ some b'
  bv : v'.ownBlock ≠ some b
  vv : ∀ k, v.ownBlock = some k → v'.ownBlock ≠ some k
theorem Ap.symm {b b' : Nat} {v v' : Value} (h : Ap b v b' v') : Ap b' v' b v := ⟨fun e => h.bb e.symm, h.bv, h.vb, fun k hk e => h.vv k e hk⟩
theorem Ap.step {b b' : Nat} {v v' v1 : Value} {x' : List Int} {w w1 : World} (h : Ap b v b' v') (hw : Wr w b' v' x') (hs : Wstep b w v w1 v1) : Ap b v1 b' v' ∧ Wr w1 b' v' x' := by
  have hlt := hw.lt
  refine ⟨⟨h.bb, ?_, h.bv, ?_⟩, ⟨?_, ?_⟩⟩
  · rcases hs.own with e | ⟨g, e, hg⟩
    · rw [e]; exact h.vb
    · rw [e]; intro hh; have := Option.some.inj hh; omega
  · intro k hk
    rcases hs.own with e | ⟨g, e, hg⟩
    · exact h.vv k (by rw [← e]; exact hk)
    · intro hk'
      rw [e] at hk
      have h1 := Option.some.inj hk
      have h2 := (World.ownsRow.lt hw.2 k hk').2
      omega
  · rw [hs.block b' hlt (fun e => h.bb e.symm) (fun e => h.vb e.symm)]; exact hw.1
  · exact hw.2.keep fun k hk hlt' => hs.block k hlt' (fun e => h.bv (by rw [hk, e])) (fun e => h.vv k e.symm hk)
end Go.Proofs.YtamifgaaalclcabDoor
