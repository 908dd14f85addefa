/-
  frame.Scan and the document's own, by contract.
-/
import Derived.Test.YteinhklopnlgbaaDoorRowsW
namespace Go.Proofs.YteinhklopnlgbaaDoor
open Go.RowKit

/-- What Scan answers: the rows rs, m bytes of zs, and behind them no record. -/
def ScanPost (w : World) (zs : List Int) (e : Ending) (w' : World) : Prop :=
  ∃ ao cap rs, ∃ m : Nat, e = .returned (.tuple #[.slice ao rs.length cap, .int .i64 m]) ∧ Osl w' w.heap.size (.slice ao rs.length cap) rs ∧ Sc zs (bytesOf2 rs) m ∧ decE (zs.drop m) ≠ 0 ∧ Below w.heap.size w w'
theorem Sc.many {xs : List (List Int)} : ∀ {zs : List Int} {m : Nat}, Sc zs xs m → xs.length * 12 ≤ m := by
  induction xs with
  | nil => intro zs m _; simp
  | cons p xs ih =>
    intro zs m ⟨h1, _, h3, h4⟩
    have := ih h4
    have := decN_pos h1
    rw [List.length_cons]
    omega

theorem mk_row1 (W : World) (ap : Option Addr) (l cp : Nat) : (Instr.buildSlice 35 1 #[(0, .slice ap l cp)]).run Tryd.prog W = .ok (.slice (some ⟨W.heap.size, 0, none⟩) 1 1) (W.alloc (.cells #[.slice ap l cp] 22)) := by kernel_rfl

theorem wpList_made_row (w : World) {ops : Array Oper} {rest : List Oper} {o : Oper} {a : Act} {Q : Exit → Act → World → Prop} (hgd : o.guard = none) (x : Operand) (ho : o.op = .buildSlice 35 1 #[(0, x)]) (ap : Option Addr) (l cp : Nat) (hx : a.eval x = .slice ap l cp)
    (h : wpList Tryd.prog ops Q rest (a.put o.dst (.slice (some ⟨w.heap.size, 0, none⟩) 1 1)) (w.alloc (.cells #[.slice ap l cp] 22))) : wpList Tryd.prog ops Q (o :: rest) a w := by
  refine wpList_plain hgd fun _ hK => ?_
  unfold Oper.wp execOp
  simp only [ho, Sem.run_bind, List.map_toArray, List.map_cons, List.map_nil, hx, mk_row1, Result.andThen_ok]
  exact hK _ _ h

/-- What Scan's loop holds. -/
def ScanInv (w : World) (zs : List Int) (h d : Value) (wr : World) : Prop :=
  ∃ (rs : List Rw2) (m : Nat), (∃ ao cap, h = .slice ao rs.length cap) ∧ d = .int .i64 m ∧ Osl wr w.heap.size h rs ∧ Sc zs (bytesOf2 rs) m ∧ Below w.heap.size w wr
theorem ScanInv.start (w : World) (zs : List Int) : ScanInv w zs (.slice none 0 0) (.int .i64 0) w := ⟨[], 0, ⟨none, 0, rfl⟩, rfl, Osl.nil _ _, rfl, Below.refl _ _⟩

set_option maxHeartbeats 6400000 in
set_option maxRecDepth 20000 in
theorem scan_any (sv : Value) (zs : List Int) (w : World) (hb : Bs w sv zs) (hsh : sv = .slice none 0 0 ∨ ∃ b off cap, sv = .slice (some ⟨b, off, none⟩) zs.length cap) (hy : Byt zs) (hz : zs.length ≤ 10000000000) (ht : Tab w) :
    Calls Tryd.prog 16 #[sv] w (ScanPost w zs) := by
  have htl := ht.lt
  have step : ∀ (h d : Value) (wr : World), ScanInv w zs h d wr → ∃ (rs : List Rw2) (m : Nat) (ao : Option Addr) (cap : Nat), h = .slice ao rs.length cap ∧ d = .int .i64 m ∧ Osl wr w.heap.size (.slice ao rs.length cap) rs ∧ Sc zs (bytesOf2 rs) m ∧ Below w.heap.size w wr := by
    rintro h d wr ⟨rs, m, ⟨ao, cap, rfl⟩, rfl, h1, h2, h3⟩
    exact ⟨rs, m, ao, cap, rfl, rfl, h1, h2, h3⟩
  rcases hsh with rfl | ⟨b, off, cap0, rfl⟩
  · have hz0 : zs = [] := by
      obtain ⟨ao, cap, hv, _⟩ := hb.len
      simp only [Value.slice.injEq] at hv
      exact List.eq_nil_of_length_eq_zero hv.2.1.symm
    subst hz0
    have C := fun W hW => dec_any (.slice none 0 0) [] W (hb.below (B := w.heap.size) hW (Nat.le_refl _)) hy (by simp) (ht.below hW htl)
    have e0 : decE [] = 2 := decE_nil
    rw [e0, decP_bad (by rw [e0]; decide), decN_bad (by rw [e0]; decide)] at C
    have HP : Hid (∀ W, Below w.heap.size w W → ScanPost w [] (.returned (.tuple #[.slice none 0 0, .int .i64 0])) W) :=
      fun W hW => ⟨none, 0, [], 0, rfl, Osl.nil _ _, rfl, by show decE [] ≠ 0; rw [e0]; decide, hW⟩
    have C2 := C w (Below.refl _ _)
    clear C e0 hb step
    go_enter Tryd.func16, Tryd.ntmps16
    go_wp2
    go_loopw [4, 5] (fun h d wr => h = .slice none 0 0 ∧ d = .int .i64 0 ∧ wr = w) (fun _ _ _ => 0)
    case atStart => exact ⟨rfl, rfl, rfl⟩
    case round =>
      obtain ⟨rfl, rfl, rfl⟩ := hrel
      go_wp2_with fail
      refine C2.mono ?_
      rintro e w1 ⟨ao1, cap1, rfl, ho1, hB1⟩
      go_wp2
      go_ret2
      exact HP.out _ hB1
  · have hm0 : cap0 ≤ maxLen ∧ zs.length ≤ cap0 := by
      rcases hb with ⟨rfl, ao, cap, he, hc, _⟩ | ⟨_, b', off', cap', he, h1, h2, _⟩
      · simp only [Value.slice.injEq] at he
        obtain ⟨_, _, rfl⟩ := he
        exact ⟨hc, Nat.zero_le _⟩
      · simp only [Value.slice.injEq] at he
        obtain ⟨_, _, rfl⟩ := he
        exact ⟨h2, h1⟩
    obtain ⟨hc2, hc1⟩ := hm0
    have D : ∀ (W : World) (m : Nat), Below w.heap.size w W → m ≤ zs.length → ¬ cap0 = m → Calls Tryd.prog 13 #[.slice (some ⟨b, off + m, none⟩) (zs.length - m) (cap0 - m)] W fun e w' => ∃ ao cap, e = .returned (.tuple #[.slice ao (decP (zs.drop m)).length cap, .int .i64 (decN (zs.drop m)), .int .i64 (decE (zs.drop m))]) ∧ Ow w' W.heap.size (.slice ao (decP (zs.drop m)).length cap) (decP (zs.drop m)) ∧ Below W.heap.size W w' := by
      intro W m hW hm hcm
      refine dec_any _ _ W ?_ (hy.drop m) (by simp; omega) (ht.below hW htl)
      by_cases hne : zs = []
      · subst hne
        have : m = 0 := by simpa using hm
        subst this
        exact hb.below hW (Nat.le_refl _)
      · exact (hb.suffix m hm hne).below hW (Nat.le_refl _)
    have D0 : ∀ (W : World) (m : Nat), Below w.heap.size w W → cap0 = m → Calls Tryd.prog 13 #[.slice (some ⟨b, off, none⟩) 0 0] W fun e w' => ∃ ao cap, e = .returned (.tuple #[.slice ao (decP (zs.drop m)).length cap, .int .i64 (decN (zs.drop m)), .int .i64 (decE (zs.drop m))]) ∧ Ow w' W.heap.size (.slice ao (decP (zs.drop m)).length cap) (decP (zs.drop m)) ∧ Below W.heap.size W w' := by
      intro W m hW hm
      have h0 : zs.drop m = [] := List.drop_eq_nil_of_le (by omega)
      rw [h0]
      exact dec_any _ [] W (Or.inl ⟨rfl, _, 0, rfl, by simp [maxLen], fun e => by cases e⟩) (by intro z hz; cases hz) (by simp) (ht.below hW htl)
    unfold maxLen at hc2
    go_enter Tryd.func16, Tryd.ntmps16
    go_wp2
    go_loopw [4, 5] (fun h d wr => ScanInv w zs h d wr) (fun _ d _ => zs.length - (intOf d).toNat)
    case atStart => exact ScanInv.start w zs
    case round =>
      obtain ⟨rs, m, ao, cap, rfl, rfl, hos, hsc, hB⟩ := step _ _ _ hrel
      have hmle := hsc.le
      have hmany := hsc.many
      rw [bytesOf2_len] at hmany
      have f1 : (m : Int) ≤ (zs.length : Int) := by omega
      have f2 : (m : Int) ≤ (cap0 : Int) := by omega
      have hnle := decN_le (zs.drop m)
      rw [List.length_drop] at hnle
      have hyp : Byt (decP (zs.drop m)) := decP_byt (hy.drop m)
      have hlp : (decP (zs.drop m)).length ≤ 140737488355328 := by
        by_cases h : decE (zs.drop m) = 0
        · rw [decP_good h]; simp; omega
        · rw [decP_bad h]; simp
      by_cases hE : decE (zs.drop m) = 0
      · have HS : Hid (Sc zs (bytesOf2 rs ++ [decP (zs.drop m)]) (m + decN (zs.drop m))) := hsc.snoc hE
        have hpos := decN_pos hE
        have hcm : ¬ cap0 = m := by
          intro e
          rw [List.drop_eq_nil_of_le (by omega), decE_nil] at hE
          exact absurd hE (by decide)
        have C0' := D wr m hB hmle
        rw [hE] at C0'
        generalize decP (zs.drop m) = p at *
        generalize decN (zs.drop m) = n at *
        clear D D0 hE hsc hrel step
        have C1 := C0' hcm
        go_wp2_with fail
        refine C1.mono ?_
        rintro e w1 ⟨ao1, cap1, rfl, ho1, hB1⟩
        have hA : Below wr.heap.size wr (w1.alloc (.cells #[.slice ao1 p.length cap1] 22)) := hB1.alloc hB1.size _
        have hos1 := hos.below hA
        have ho2 : Ow (w1.alloc (.cells #[.slice ao1 p.length cap1] 22)) w.heap.size (.slice ao1 p.length cap1) p := (ho1.mono hB.size).grew ((Below.refl w1.heap.size w1).alloc (Nat.le_refl _) _) (Nat.le_refl _)
        have hsep : ∀ k, (Value.slice ao1 p.length cap1).ownBlock = some k → (Value.slice ao rs.length cap).ownBlock ≠ some k := fun k hk e => by
          have := ho1.from k hk
          have := hos.lt k e
          omega
        have hcl : (w1.alloc (.cells #[.slice ao1 p.length cap1] 22)).cell? ⟨w1.heap.size, 0, none⟩ = some (.slice ao1 p.length cap1) := by
          rw [cell_of_row _ _ 0 _ _ _ (heap_alloc_new w1 _)]; rfl
        have hws : w.heap.size ≤ (w1.alloc (.cells #[.slice ao1 p.length cap1] 22)).heap.size := by have := hB.size; have := hA.size; omega
        have HSN : Hid (Sc zs (bytesOf2 (rs ++ [(.slice ao1 p.length cap1, p)])) (m + n)) := by
          show Sc _ _ _
          rw [bytesOf2_append]
          exact HS.out
        go_wp2_with (first | (refine wpList_made_row _ rfl (.tmp 22) rfl ao1 p.length cap1 rfl ?_) | (at_builtin; refine wpList_append_row _ rfl (.tmp 21) (.tmp 23) rfl w.heap.size (.slice ao rs.length cap) rs (by rfl) hos1 w1.heap.size ao1 cap1 p (by rfl) hcl ho2 hyp hlp hsep (by omega) hws ?_))
        intro ao3 cap3 w3 hos3 hg3
        have hB3 : Below w.heap.size w w3 := (hB.trans (hA.mono hB.size)).trans (grown_below hg3 hws hos1.from)
        clear hA hos1 ho2 hsep hcl hws hg3 hos ho1
        go_wp2
        go_roundw
        case rel =>
          exact (show ScanInv w zs _ _ _ from ⟨rs ++ [(.slice ao1 p.length cap1, p)], m + n, ⟨ao3, cap3, by simp⟩, by go_num, by simpa using hos3, HSN.out, hB3⟩)
        case measure => simp [intOf]; omega
      · have HP : Hid (∀ W, Below wr.heap.size wr W → ScanPost w zs (.returned (.tuple #[.slice ao rs.length cap, .int .i64 m])) W) :=
          fun W hW => ⟨ao, cap, rs, m, rfl, hos.below hW, hsc, hE, hB.trans (hW.mono hB.size)⟩
        have C0 := D0 wr m hB
        have C0' := D wr m hB hmle
        generalize decE (zs.drop m) = er at *
        clear D D0 hsc hrel step hos
        by_cases hcm : cap0 = m
        · have C1 := C0 hcm
          subst hcm
          go_wp2_with fail
          refine C1.mono ?_
          rintro e w1 ⟨ao1, cap1, rfl, ho1, hB1⟩
          go_wp2
          go_ret2
          exact HP.out _ hB1
        · have C1 := C0' hcm
          go_wp2_with fail
          refine C1.mono ?_
          rintro e w1 ⟨ao1, cap1, rfl, ho1, hB1⟩
          go_wp2
          go_ret2
          exact HP.out _ hB1

set_option maxHeartbeats 6400000 in
set_option maxRecDepth 20000 in
theorem rscan_any (sv : Value) (zs : List Int) (w : World) (hb : Bs w sv zs) (hy : Byt zs) (hz : zs.length ≤ 10000000000) :
    Calls Tryd.prog 17 #[sv] w (ScanPost w zs) := by
  have step : ∀ (h d : Value) (wr : World), ScanInv w zs h d wr → ∃ (rs : List Rw2) (m : Nat) (ao : Option Addr) (cap : Nat), h = .slice ao rs.length cap ∧ d = .int .i64 m ∧ Osl wr w.heap.size (.slice ao rs.length cap) rs ∧ Sc zs (bytesOf2 rs) m ∧ Below w.heap.size w wr := by
    rintro h d wr ⟨rs, m, ⟨ao, cap, rfl⟩, rfl, h1, h2, h3⟩
    exact ⟨rs, m, ao, cap, rfl, rfl, h1, h2, h3⟩
  obtain ⟨ax, cx, hsv, hm⟩ := hb.len
  have D : ∀ (W : World) (m b off cap0 : Nat), Below w.heap.size w W → sv = .slice (some ⟨b, off, none⟩) zs.length cap0 → m < zs.length → Calls Tryd.prog 15 #[.slice (some ⟨b, off + m, none⟩) (zs.length - m) (cap0 - m)] W fun e w' => ∃ ao cap, e = .returned (.tuple #[.slice ao (decP (zs.drop m)).length cap, .int .i64 (decN (zs.drop m)), .int .i64 (decE (zs.drop m))]) ∧ Ow w' W.heap.size (.slice ao (decP (zs.drop m)).length cap) (decP (zs.drop m)) ∧ Below W.heap.size W w' := by
    intro W m b off cap0 hW hs hm
    subst hs
    refine rdec_any _ _ W ?_ (hy.drop m) (by simp; omega)
    exact (hb.suffix m (by omega) (fun e => by rw [e] at hm; simp at hm)).below hW (Nat.le_refl _)
  have shp : zs ≠ [] → ∃ b off, ax = some ⟨b, off, none⟩ ∧ zs.length ≤ cx ∧ cx ≤ maxLen := by
    intro hne
    rcases hb with ⟨h0, _⟩ | ⟨_, b, off, cap, he, h1, h2, _⟩
    · exact absurd h0 hne
    · rw [hsv] at he
      simp only [Value.slice.injEq] at he
      obtain ⟨rfl, _, rfl⟩ := he
      exact ⟨b, off, rfl, h1, h2⟩
  subst hsv
  go_enter Tryd.func17, Tryd.ntmps17
  go_wp2
  go_loopw [4, 5] (fun h d wr => ScanInv w zs h d wr) (fun _ d _ => zs.length - (intOf d).toNat)
  case atStart => exact ScanInv.start w zs
  case round =>
    obtain ⟨rs, m, ao, cap, rfl, rfl, hos, hsc, hB⟩ := step _ _ _ hrel
    have hmle := hsc.le
    have hmany := hsc.many
    rw [bytesOf2_len] at hmany
    by_cases hlt : m < zs.length
    · obtain ⟨b, off, rfl, hc1, hc2⟩ := shp (fun e => by rw [e] at hlt; simp at hlt)
      unfold maxLen at hc2
      have hcm : ¬ cx = m := by omega
      have f1 : (m : Int) ≤ (zs.length : Int) := by omega
      have f2 : (m : Int) ≤ (cx : Int) := by omega
      have hnle := decN_le (zs.drop m)
      rw [List.length_drop] at hnle
      have hyp : Byt (decP (zs.drop m)) := decP_byt (hy.drop m)
      have hlp : (decP (zs.drop m)).length ≤ 140737488355328 := by
        by_cases h : decE (zs.drop m) = 0
        · rw [decP_good h]; simp; omega
        · rw [decP_bad h]; simp
      have C1 := D wr m b off cx hB rfl hlt
      by_cases hE : decE (zs.drop m) = 0
      · have HS : Hid (Sc zs (bytesOf2 rs ++ [decP (zs.drop m)]) (m + decN (zs.drop m))) := hsc.snoc hE
        have hpos := decN_pos hE
        rw [hE] at C1
        generalize decP (zs.drop m) = p at *
        generalize decN (zs.drop m) = n at *
        clear D hE hsc hrel step shp
        go_wp2_with fail
        refine C1.mono ?_
        rintro e w1 ⟨ao1, cap1, rfl, ho1, hB1⟩
        have hA : Below wr.heap.size wr (w1.alloc (.cells #[.slice ao1 p.length cap1] 22)) := hB1.alloc hB1.size _
        have hos1 := hos.below hA
        have ho2 : Ow (w1.alloc (.cells #[.slice ao1 p.length cap1] 22)) w.heap.size (.slice ao1 p.length cap1) p := (ho1.mono hB.size).grew ((Below.refl w1.heap.size w1).alloc (Nat.le_refl _) _) (Nat.le_refl _)
        have hsep : ∀ k, (Value.slice ao1 p.length cap1).ownBlock = some k → (Value.slice ao rs.length cap).ownBlock ≠ some k := fun k hk e => by
          have := ho1.from k hk
          have := hos.lt k e
          omega
        have hcl : (w1.alloc (.cells #[.slice ao1 p.length cap1] 22)).cell? ⟨w1.heap.size, 0, none⟩ = some (.slice ao1 p.length cap1) := by
          rw [cell_of_row _ _ 0 _ _ _ (heap_alloc_new w1 _)]; rfl
        have hws : w.heap.size ≤ (w1.alloc (.cells #[.slice ao1 p.length cap1] 22)).heap.size := by have := hB.size; have := hA.size; omega
        have HSN : Hid (Sc zs (bytesOf2 (rs ++ [(.slice ao1 p.length cap1, p)])) (m + n)) := by
          show Sc _ _ _
          rw [bytesOf2_append]
          exact HS.out
        go_wp2_with (first | (refine wpList_made_row _ rfl (.tmp 24) rfl ao1 p.length cap1 rfl ?_) | (at_builtin; refine wpList_append_row _ rfl (.tmp 23) (.tmp 25) rfl w.heap.size (.slice ao rs.length cap) rs (by rfl) hos1 w1.heap.size ao1 cap1 p (by rfl) hcl ho2 hyp hlp hsep (by omega) hws ?_))
        intro ao3 cap3 w3 hos3 hg3
        have hB3 : Below w.heap.size w w3 := (hB.trans (hA.mono hB.size)).trans (grown_below hg3 hws hos1.from)
        clear hA hos1 ho2 hsep hcl hws hg3 hos ho1
        go_wp2
        go_roundw
        case rel =>
          exact (show ScanInv w zs _ _ _ from ⟨rs ++ [(.slice ao1 p.length cap1, p)], m + n, ⟨ao3, cap3, by simp⟩, by go_num, by simpa using hos3, HSN.out, hB3⟩)
        case measure => simp [intOf]; omega
      · have HP : Hid (∀ W, Below wr.heap.size wr W → ScanPost w zs (.returned (.tuple #[.slice ao rs.length cap, .int .i64 m])) W) :=
          fun W hW => ⟨ao, cap, rs, m, rfl, hos.below hW, hsc, hE, hB.trans (hW.mono hB.size)⟩
        generalize decE (zs.drop m) = er at *
        clear D hsc hrel step hos shp
        go_wp2_with fail
        refine C1.mono ?_
        rintro e w1 ⟨ao1, cap1, rfl, ho1, hB1⟩
        go_wp2
        go_ret2
        exact HP.out _ hB1
    · have HP : Hid (ScanPost w zs (.returned (.tuple #[.slice ao rs.length cap, .int .i64 m])) wr) :=
        ⟨ao, cap, rs, m, rfl, hos, hsc, by rw [List.drop_eq_nil_of_le (by omega), decE_nil]; decide, hB⟩
      clear D hsc hrel step hos shp
      go_wp2
      go_ret2
      exact HP.out
end Go.Proofs.YteinhklopnlgbaaDoor
