/-
  DiskPlays: the document's Rename, by contract.
-/
import Derived.Test.YthkgmnmdojmfgaaPlayNew
namespace Go.Proofs.Ythkgmnmdojmfgaa
open Go.RowKit Go.Maps Go.Sort

theorem mk_str2 (W : World) (s r : ByteArray) : (Instr.buildSlice 51 2 #[(0, .string s), (1, .string r)]).run Try.prog W = .ok (.slice (some ⟨W.heap.size, 0, none⟩) 2 2) (W.alloc (.cells #[.string s, .string r] 9)) := by kernel_rfl
theorem wpList_made_str2 (w : World) {ops : Array Oper} {rest : List Oper} {o : Oper} {a : Act} {Q : Exit → Act → World → Prop} (hgd : o.guard = none) (x y : Operand) (ho : o.op = .buildSlice 51 2 #[(0, x), (1, y)]) (s r : List UInt8) (hx : a.eval x = encStr s) (hy : a.eval y = encStr r)
    (h : wpList Try.prog ops Q rest (a.put o.dst (.slice (some ⟨w.heap.size, 0, none⟩) 2 2)) (w.alloc (.cells #[encStr s, encStr r] 9))) : wpList Try.prog ops Q (o :: rest) a w := by
  refine wpList_plain hgd fun _ hK => ?_
  unfold Oper.wp execOp
  simp only [ho, Sem.run_bind, List.map_toArray, List.map_cons, List.map_nil, hx, hy, mk_str2, Result.andThen_ok]
  exact hK _ _ h
theorem two_str (w : World) (x y : List UInt8) : ∀ i n, ([x, y] : List (List UInt8))[i]? = some n → (w.alloc (.cells #[encStr x, encStr y] 9)).cell? ⟨w.heap.size, i, none⟩ = some (encStr n) := by
  intro i n hi
  rw [cell_of_row _ _ _ _ _ _ (heap_alloc_new w _)]
  match i, hi with
  | 0, hi => simp at hi; rw [hi]; rfl
  | 1, hi => simp at hi; rw [hi]; rfl
  | _ + 2, hi => simp at hi
/-- The files without a name. -/
def rmL (L : List Fl3) (x : List UInt8) : List Fl3 := if (names3 L)[spotN (names3 L) x]? = some x then L.eraseIdx (spotN (names3 L) x) else L
theorem rem3_any (base wb : Nat) (v : Value) (room left : Int) (L : List Fl3) (x : List UInt8) (w : World) (h : Rk w base wb v room left L) :
    Calls Try.prog 61 #[.pointer (some ⟨wb, 0, none⟩), encStr x] w fun e w' => e = .returned (.tuple #[]) ∧ ∃ v', Rk w' base wb v' room left (rmL L x) ∧ (∀ q, v'.ownBlock = some q → v.ownBlock = some q ∨ w.heap.size ≤ q) ∧ Rg w wb (.slice none 0 0) w' := by
  by_cases hx : (names3 L)[spotN (names3 L) x]? = some x
  · obtain ⟨f, hf, hfx⟩ : ∃ f, L[spotN (names3 L) x]? = some f ∧ f.nm = x := by
      simp only [names3, List.getElem?_map, Option.map_eq_some_iff] at hx
      exact hx
    rcases h.shape with ⟨_, e⟩ | ⟨g, cap, rfl, _⟩
    · rw [e] at hf; simp at hf
    · refine (rem3_some base wb g cap room left L x f w h hf hfx).mono ?_
      rintro e w' ⟨he, v', h1, h2, h3⟩
      refine ⟨he, v', ?_, fun q hq => Or.inr (h2 q hq), h3⟩
      unfold rmL
      rw [if_pos hx]
      exact h1
  · refine (rem3_none base wb v room left L x w h hx).mono ?_
    rintro e w' ⟨he, hs⟩
    refine ⟨he, v, ?_, fun q hq => Or.inl hq, Rg.of_below (hs.below _)⟩
    unfold rmL
    rw [if_neg hx]
    exact h.sm hs
theorem rmL_mem {L : List Fl3} {x : List UInt8} {f : Fl3} (h : f ∈ rmL L x) : f ∈ L := by
  unfold rmL at h
  split at h
  · exact List.mem_of_mem_eraseIdx h
  · exact h
theorem rmL_len (L : List Fl3) (x : List UInt8) : (rmL L x).length ≤ L.length := by
  unfold rmL
  split
  · exact List.length_eraseIdx_le _ _
  · exact Nat.le_refl _
theorem Rg.trans {w w1 w2 : World} {wb : Nat} {v : Value} (h : Rg w wb v w1) (k : Rg w1 wb v w2) : Rg w wb v w2 :=
  ⟨k.os.trans h.os, k.tape.trans h.tape, k.output.trans h.output, Nat.le_trans h.size k.size, fun q hq h1 h2 => (k.block q (Nat.lt_of_lt_of_le hq h.size) h1 h2).trans (h.block q hq h1 h2)⟩
set_option maxHeartbeats 3200000 in
set_option maxRecDepth 20000 in
theorem ren3_may (base wb : Nat) (v : Value) (room left : Int) (L : List Fl3) (x y : List UInt8) (w : World) (h : Rk w base wb v room left L) (hm : mayE left [x, y] ≠ 0) (hxl : x.length ≤ 140737488355328) (hyl : y.length ≤ 140737488355328) :
    Calls Try.prog 40 #[.pointer (some ⟨wb, 0, none⟩), encStr x, encStr y] w fun e w' => e = .returned (.int .i64 (mayE left [x, y])) ∧ Below w.heap.size w w' := by
  have hA : Below w.heap.size w (w.alloc (.cells #[encStr x, encStr y] 9)) := (Below.refl _ _).alloc (Nat.le_refl _) _
  have hr := h.below hA
  have hxs : ∀ n ∈ [x, y], n.length ≤ 140737488355328 := by
    intro n hn
    simp at hn
    rcases hn with e | e
    · rw [e]; exact hxl
    · rw [e]; exact hyl
  have hxc := two_str w x y
  have C1 := may_any wb w.heap.size 2 room _ left [x, y] _ hr.blk (by simp) hxs hxc
  generalize mayE left [x, y] = er at *
  have hm' : (er != 0) = true := by simpa using hm
  go_enter Try.func40, Try.ntmps40
  go_wp2_with (first | (refine wpList_made_str2 _ rfl (.tmp 15) (.tmp 16) rfl x y rfl rfl ?_) | (go_at_call 58; refine C1.mono ?_; rintro e w1 ⟨rfl, rfl⟩))
  go_ret
  exact ⟨rfl, hA⟩
set_option maxHeartbeats 3200000 in
set_option maxRecDepth 20000 in
theorem ren3_none (base wb : Nat) (v : Value) (room left : Int) (L : List Fl3) (x y : List UInt8) (w : World) (h : Rk w base wb v room left L) (hm : mayE left [x, y] = 0) (hx : (names3 L)[spotN (names3 L) x]? ≠ some x) (hxl : x.length ≤ 140737488355328) (hyl : y.length ≤ 140737488355328) :
    Calls Try.prog 40 #[.pointer (some ⟨wb, 0, none⟩), encStr x, encStr y] w fun e w' => e = .returned (.int .i64 7) ∧ Below w.heap.size w w' := by
  have hA : Below w.heap.size w (w.alloc (.cells #[encStr x, encStr y] 9)) := (Below.refl _ _).alloc (Nat.le_refl _) _
  have hr := h.below hA
  have hxs : ∀ n ∈ [x, y], n.length ≤ 140737488355328 := by
    intro n hn
    simp at hn
    rcases hn with e | e
    · rw [e]; exact hxl
    · rw [e]; exact hyl
  have hxc := two_str w x y
  have C1 := may_any wb w.heap.size 2 room _ left [x, y] _ hr.blk (by simp) hxs hxc
  rw [hm] at C1
  have C2 := spot_any base wb _ room left L x _ hr
  rw [decide_eq_false hx] at C2
  generalize spotN (names3 L) x = k at *
  go_enter Try.func40, Try.ntmps40
  go_wp2_with (first | (refine wpList_made_str2 _ rfl (.tmp 15) (.tmp 16) rfl x y rfl rfl ?_) | (go_at_call 58; refine C1.mono ?_; rintro e w1 ⟨rfl, rfl⟩) | (go_at_call 59; refine C2.mono ?_; rintro e w2 ⟨rfl, hs⟩))
  go_ret
  exact ⟨rfl, hA.trans (hs.below _)⟩
set_option maxHeartbeats 3200000 in
set_option maxRecDepth 20000 in
theorem ren3_same (base wb : Nat) (v : Value) (room left : Int) (L : List Fl3) (x : List UInt8) (w : World) (h : Rk w base wb v room left L) (hm : mayE left [x, x] = 0) (hx : (names3 L)[spotN (names3 L) x]? = some x) (hxl : x.length ≤ 140737488355328) (h0 : -9223372036854775807 ≤ left) (h1 : left ≤ 9223372036854775807) :
    Calls Try.prog 40 #[.pointer (some ⟨wb, 0, none⟩), encStr x, encStr x] w fun e w' => e = .returned (.int .i64 0) ∧ Rk w' base wb v room (didL left) L ∧ Rg w wb (.slice none 0 0) w' := by
  have hA : Below w.heap.size w (w.alloc (.cells #[encStr x, encStr x] 9)) := (Below.refl _ _).alloc (Nat.le_refl _) _
  have hr := h.below hA
  have hxs : ∀ n ∈ [x, x], n.length ≤ 140737488355328 := by
    intro n hn
    simp at hn
    rw [hn]; exact hxl
  have hxc := two_str w x x
  have C1 := may_any wb w.heap.size 2 room _ left [x, x] _ hr.blk (by simp) hxs hxc
  rw [hm] at C1
  have C2 := spot_any base wb _ room left L x _ hr
  rw [decide_eq_true hx] at C2
  generalize spotN (names3 L) x = k at *
  go_enter Try.func40, Try.ntmps40
  go_wp2_with (first | (refine wpList_made_str2 _ rfl (.tmp 15) (.tmp 16) rfl x x rfl rfl ?_) | (go_at_call 58; refine C1.mono ?_; rintro e w1 ⟨rfl, rfl⟩) | (go_at_call 59; refine C2.mono ?_; rintro e w2 ⟨rfl, hs⟩; have h2 := hr.sm hs; have C4 := did_any wb room _ left _ h2.blk h0 h1) | (go_at_call 60; refine C4.mono ?_; rintro e w4 ⟨rfl, rfl⟩))
  have hrg := (Rg.of_below (wb := wb) (v := .slice none 0 0) (hA.trans (hs.below _))).did left
  have hdid := h2.did
  go_ret
  exact ⟨rfl, hdid, hrg⟩
set_option maxHeartbeats 3200000 in
set_option maxRecDepth 20000 in
theorem ren3_done (base wb g cap : Nat) (room left : Int) (L : List Fl3) (x y : List UInt8) (f : Fl3) (w : World) (h : Rk w base wb (.slice (some ⟨g, 0, none⟩) L.length cap) room left L) (hm : mayE left [x, y] = 0) (hf : L[spotN (names3 L) x]? = some f) (hx : f.nm = x) (hxy : x ≠ y) (hxl : x.length ≤ 140737488355328) (hyl : y.length ≤ 140737488355328) (h0 : -9223372036854775807 ≤ left) (h1 : left ≤ 9223372036854775807) :
    Calls Try.prog 40 #[.pointer (some ⟨wb, 0, none⟩), encStr x, encStr y] w fun e w' => e = .returned (.int .i64 0) ∧ ∃ v', Rk w' base wb v' room (didL left) ((rmL (rmL L x) y).take (spotN (names3 (rmL (rmL L x) y)) y) ++ ⟨y, f.v, f.zs, f.l⟩ :: (rmL (rmL L x) y).drop (spotN (names3 (rmL (rmL L x) y)) y)) ∧ (∀ q, v'.ownBlock = some q → w.heap.size ≤ q) ∧ Rg w wb (.slice none 0 0) w' := by
  have hA : Below w.heap.size w (w.alloc (.cells #[encStr x, encStr y] 9)) := (Below.refl _ _).alloc (Nat.le_refl _) _
  have hr := h.below hA
  have hxs : ∀ n ∈ [x, y], n.length ≤ 140737488355328 := by
    intro n hn
    simp at hn
    rcases hn with e | e
    · rw [e]; exact hxl
    · rw [e]; exact hyl
  have hxc := two_str w x y
  have C1 := may_any wb w.heap.size 2 room _ left [x, y] _ hr.blk (by simp) hxs hxc
  rw [hm] at C1
  have C2 := spot_any base wb _ room left L x _ hr
  rw [decide_eq_true (show (names3 L)[spotN (names3 L) x]? = some x by simp [names3] at hf ⊢; exact ⟨f, hf, hx⟩)] at C2
  have hxy' : (x == y) = false := by simpa using hxy
  have CR := fun (W : World) (v : Value) (hW : Rk W base wb v room left L) => rem3_any base wb v room left L x W hW
  have CR2 := fun (W : World) (v : Value) (hW : Rk W base wb v room left (rmL L x)) => rem3_any base wb v room left (rmL L x) y W hW
  have CS := fun (W : World) (v : Value) (hW : Rk W base wb v room left (rmL (rmL L x) y)) => spot_any base wb v room left (rmL (rmL L x) y) y W hW
  have hk3 : spotN (names3 (rmL (rmL L x) y)) y ≤ (rmL (rmL L x) y).length := by
    have := spotN_le (names3 (rmL (rmL L x) y)) y
    simpa [names3] using this
  have hlen2 : (rmL (rmL L x) y).length ≤ L.length := Nat.le_trans (rmL_len _ _) (rmL_len _ _)
  have few3 : (rmL (rmL L x) y).length + 1 ≤ 100000 := by
    have hpos : (names3 L)[spotN (names3 L) x]? = some x := by simp [names3] at hf ⊢; exact ⟨f, hf, hx⟩
    have hkk : spotN (names3 L) x < L.length := (List.getElem?_eq_some_iff.1 hf).1
    have e1 : (rmL L x).length = L.length - 1 := by
      unfold rmL
      rw [if_pos hpos, List.length_eraseIdx_of_lt hkk]
    have e2 := rmL_len (rmL L x) y
    have := h.few
    omega
  have hsub2 : ∀ q ∈ rmL (rmL L x) y, q ∈ L := fun q hq => rmL_mem (rmL_mem hq)
  generalize spotN (names3 (rmL (rmL L x) y)) y = k3 at *
  generalize spotN (names3 L) x = k at *
  generalize decide ((names3 (rmL (rmL L x) y))[k3]? = some y) = is3 at CS
  generalize rmL (rmL L x) y = L2 at *
  generalize rmL L x = L1 at *
  have hk : k < L.length := (List.getElem?_eq_some_iff.1 hf).1
  have few := h.few
  have f1 : (0 : Int) ≤ (k : Int) := by omega
  have f2 : (k : Int) < (L.length : Int) := by omega
  obtain ⟨af, cf, ef, _⟩ := ((h.each f (List.mem_of_getElem? hf)).1).form
  go_enter Try.func40, Try.ntmps40
  go_wp2_with (first | (refine wpList_made_str2 _ rfl (.tmp 15) (.tmp 16) rfl x y rfl rfl ?_) | (go_at_call 58; refine C1.mono ?_; rintro e w1 ⟨rfl, rfl⟩) | (go_at_call 59; refine C2.mono ?_; rintro e w2 ⟨rfl, hs⟩; have h2 := hr.sm hs; have hcb := h2.blk.cell 1; simp at hcb; have hcn := (h2.at k f hf).1; have hcf := (h2.at k f hf).2.1; have hcl := (h2.at k f hf).2.2; rw [ef] at hcf))
  have hA3 : Below w2.heap.size w2 (w2.alloc (.cells #[encStr y, .slice af f.zs.length cf, .int .i64 (f.l : Int)] 71)) := (Below.refl _ _).alloc (Nat.le_refl _) _
  have h3 := h2.below hA3
  have hw3 : Cw (w2.alloc (.cells #[encStr y, .slice af f.zs.length cf, .int .i64 (f.l : Int)] 71)) w2.heap.size [encStr y, .slice af f.zs.length cf, .int .i64 (f.l : Int)] 71 := Cw.new w2 _ _
  have hwb2 := h2.lt
  have hfo : Ow w2 base f.v f.zs ∧ (∀ z ∈ f.zs, 0 ≤ z ∧ z < 256) ∧ f.l ≤ f.zs.length ∧ ∀ q, f.v.ownBlock = some q → q ≠ wb := by
    obtain ⟨a1, a2, a3, a4⟩ := h2.each f (List.mem_of_getElem? hf)
    exact ⟨a1, a2, a3, fun q hq => (a4 q hq).1⟩
  have hB2 : Below w.heap.size w w2 := hA.trans (hs.below _)
  have HW2 : Hid (wb < w2.heap.size) := hwb2
  clear C1 C2 hxs hxc hcb hcn hcf hcl hr hs h
  refine (CR _ _ h3).mono ?_
  rintro e w4 ⟨rfl, v4, h4, _, hg4⟩
  have hw4 : Cw w4 w2.heap.size [encStr y, .slice af f.zs.length cf, .int .i64 (f.l : Int)] 71 := hw3.keep (hg4.block _ hw3.lt (by have := HW2.out; omega) (by simp [Value.ownBlock]))
  clear CR
  go_wp2_with fail
  refine (CR2 _ _ h4).mono ?_
  rintro e w5 ⟨rfl, v5, h5, _, hg5⟩
  have hw5 : Cw w5 w2.heap.size [encStr y, .slice af f.zs.length cf, .int .i64 (f.l : Int)] 71 := hw4.keep (hg5.block _ hw4.lt (by have := HW2.out; omega) (by simp [Value.ownBlock]))
  clear CR2
  go_wp2_with fail
  refine (CS _ _ h5).mono ?_
  rintro e W ⟨rfl, hs6⟩
  have h6 := h5.sm hs6
  have hw6 := hs6.cw hw5
  have hrg6 : Rg w wb (.slice none 0 0) W := (((Rg.of_below (hB2.trans (hA3.mono hB2.size))).trans hg4).trans hg5).trans (Rg.of_below (hs6.below _))
  have hfoW : Ow W base f.v f.zs := by
    have hne : ∀ q, f.v.ownBlock = some q → q < w2.heap.size ∧ q ≠ wb := fun q hq => ⟨(World.ownsRow.lt hfo.1 q hq).2, hfo.2.2.2 q hq⟩
    have k1 : Rg w2 wb (.slice none 0 0) W := (((Rg.of_below hA3).trans hg4).trans hg5).trans (Rg.of_below (hs6.below _))
    refine ⟨hfo.1.1, ?_⟩
    rcases hfo.1.2 with k2 | ⟨g', c', cur, e1, e2, e3, e4⟩
    · exact Or.inl k2
    · exact Or.inr ⟨g', c', cur, e1, e2, (k1.block g' (hne g' (by rw [e1]; rfl)).1 (hne g' (by rw [e1]; rfl)).2 (by simp [Value.ownBlock])).trans e3, e4⟩
  clear CS h5 hs6 hg4 hg5 hw5 hw4 hw3 h4 h3 hA3 h2
  obtain ⟨av, cv, rfl⟩ : ∃ ao cap, v5 = .slice ao L2.length cap := by
    rcases h6.shape with ⟨rfl, rfl⟩ | ⟨g, cap, rfl, _⟩
    · exact ⟨none, 0, rfl⟩
    · exact ⟨_, cap, rfl⟩
  have hcbW := h6.blk.cell 1
  simp at hcbW
  have hltW := h6.lt
  have hAW : Below W.heap.size W (W.alloc (.cells #[] 71)) := (Below.refl _ _).alloc (Nat.le_refl _) _
  have hO1 : O3 (W.alloc (.cells #[] 71)) base (.slice av L2.length cv) L2 := ownsRow_below h6.row hAW
  have hO2 := O3.new W
  have hsl := h6.sl
  have few2 := h6.few
  have fk3 : (0 : Int) ≤ (k3 : Int) := by omega
  generalize hBn : w2.heap.size = B at *
  go_wp2_with (first
    | (refine wpList_slice_hi3 _ rfl (.tmp 60) (.tmp 61) rfl base (.slice av L2.length cv) L2 rfl hO1 k3 rfl hk3 ?_; intro u8 hb8)
    | (at_builtin; refine wpList_append_3 _ rfl (.tmp 56) (.tmp 62) rfl W.heap.size (.slice (some ⟨W.heap.size, 0, none⟩) 0 0) [] rfl hO2 u8 (L2.take k3) rfl hb8 (hsl.of fun q hq => List.mem_of_mem_take hq) (by simp; omega) (by simp) ?_; intro ao9 cap9 w9 ho9 hg9 _; have hB9 : Below W.heap.size W w9 := hAW.trans (O3.grown hO2 hg9 (by simp)); simp only [List.nil_append] at ho9; generalize Value.slice ao9 (([] : List Fl3).length + (L2.take k3).length) cap9 = v9 at ho9 ⊢; clear hg9; have hw9 := hw6.below hB9 hw6.lt; have d0 := hw9.cell 0; have d1 := hw9.cell 1; have d2 := hw9.cell 2; simp at d0 d1 d2)
    | (refine wpList_made_row3 _ rfl (.tmp 65) rfl y af f.zs.length cf (f.l : Int) rfl ?_)
    | (at_builtin; refine wpList_append_3 _ rfl (.tmp 64) (.tmp 66) rfl W.heap.size v9 (L2.take k3) rfl (ownsRow_below ho9 ((Below.refl _ _).alloc (Nat.le_refl _) _)) (.slice (some ⟨w9.heap.size, 0, none⟩) 1 1) [⟨y, f.v, f.zs, f.l⟩] rfl (made_b3 w9 ⟨y, f.v, f.zs, f.l⟩ af f.zs.length cf ef) (fun q hq => ⟨af, cf, by simp at hq; rw [hq]; exact ef⟩) (by simp; omega) (by simp; have := hB9.size; omega) ?_; intro ao10 cap10 w10 ho10 hg10 _; have hB10 : Below W.heap.size W w10 := (hB9.alloc hB9.size _).trans (O3.grown (ownsRow_below ho9 ((Below.refl _ _).alloc (Nat.le_refl _) _)) hg10 (by simp; have := hB9.size; omega)); generalize Value.slice ao10 ((L2.take k3).length + [(⟨y, f.v, f.zs, f.l⟩ : Fl3)].length) cap10 = v10 at ho10 ⊢; clear hg10; have hc10 := (h6.below hB10).blk.cell 1; simp at hc10)
    | (refine wpList_slice_lo3 _ rfl (.tmp 73) (.tmp 74) rfl base (.slice av L2.length cv) L2 rfl (ownsRow_below h6.row hB10) k3 rfl hk3 ?_; intro u11 hb11)
    | (at_builtin; refine wpList_append_3 _ rfl (.tmp 69) (.tmp 75) rfl W.heap.size v10 (L2.take k3 ++ [⟨y, f.v, f.zs, f.l⟩]) rfl ho10 u11 (L2.drop k3) rfl hb11 (hsl.of fun q hq => List.mem_of_mem_drop hq) (by simp; omega) hB10.size ?_; intro ao11 cap11 w11 ho11 hg11 _; have hB11 : Below W.heap.size W w11 := hB10.trans (O3.grown ho10 hg11 hB10.size); have hc11 := (h6.below hB11).blk.cell 1; simp at hc11; have hfr11 := (h6.below hB11).blk.frozen 1; generalize HN11 : (L2.take k3 ++ [(⟨y, f.v, f.zs, f.l⟩ : Fl3)]).length + (L2.drop k3).length = n11 at ho11 ⊢; have HN := hid_into HN11; clear HN11 hg11))
  have hbl11 : ∀ q, (Value.slice ao11 n11 cap11).ownBlock = some q → W.heap.size ≤ q := fun q hq => (World.ownsRow.lt ho11 q hq).1
  have hwbase : base ≤ W.heap.size := Nat.le_trans h6.wbb (Nat.le_of_lt hltW)
  have h12 : Rk (w11.setCell ⟨wb, 1, none⟩ (.slice ao11 n11 cap11)) base wb (.slice ao11 n11 cap11) room left (L2.take k3 ++ ⟨y, f.v, f.zs, f.l⟩ :: L2.drop k3) := by
    have hassoc : L2.take k3 ++ [(⟨y, f.v, f.zs, f.l⟩ : Fl3)] ++ L2.drop k3 = L2.take k3 ++ ⟨y, f.v, f.zs, f.l⟩ :: L2.drop k3 := by simp
    rw [hassoc] at ho11
    have hlt11 : L2.length < L.length ∨ L2.length = L.length := by omega
    refine Rk.make (h6.below hB11).blk (O3.base ho11 hwbase) (fun q hq => ?_) (by have hl := few3; simp; omega) h6.wbb (fun e => by have := hbl11 _ e; omega)
    have key : q ∈ L2 → Ow w11 base q.v q.zs ∧ (∀ z ∈ q.zs, 0 ≤ z ∧ z < 256) ∧ q.l ≤ q.zs.length ∧ ∀ b, q.v.ownBlock = some b → b ≠ wb ∧ (Value.slice ao11 n11 cap11).ownBlock ≠ some b := fun hm => by
      obtain ⟨h3, h4, h7, h8⟩ := (h6.below hB11).each q hm
      exact ⟨h3, h4, h7, fun b hb => ⟨(h8 b hb).1, fun e => by
        have h9 := hbl11 b e
        have h10 := (World.ownsRow.lt (h6.each q hm).1 b hb).2
        omega⟩⟩
    rcases List.mem_append.1 hq with hq | hq
    · exact key (List.mem_of_mem_take hq)
    · rcases List.mem_cons.1 hq with hq | hq
      · rw [hq]
        exact ⟨ownsRow_below hfoW hB11, hfo.2.1, hfo.2.2.1, fun b hb => ⟨hfo.2.2.2 b hb, fun e => by
          have h9 := hbl11 b e
          have h10 := (World.ownsRow.lt hfoW b hb).2
          omega⟩⟩
      · exact key (List.mem_of_mem_drop hq)
  have C4 := did_any wb room _ left _ h12.blk h0 h1
  have hdid := h12.did
  have hrg12 := ((hrg6.trans (Rg.of_below hB11)).set wb 1 (.slice ao11 n11 cap11) (Or.inl rfl)).did left
  have hszW := hrg6.size
  clear h12 ho11 ho10 ho9 hO1 hO2 hb8 hb11 hfr11 hc11 hc10 hsl hcbW hw6 hw9 d0 d1 d2
  refine C4.mono ?_
  rintro e w13 ⟨rfl, rfl⟩
  go_wp2
  go_ret
  exact ⟨rfl, _, hdid, fun q hq => Nat.le_trans hszW (hbl11 q hq), hrg12⟩
end Go.Proofs.Ythkgmnmdojmfgaa
