/-
  Parse, by contract.
-/
import Derived.Test.YtkfnmdhhiigceaaTkRead
namespace Go.Proofs.Ytkfnmdhhiigceaa
open Go.RowKit Dg
/-- A row and a number, as what is answered. -/
theorem ret_row2 {f : Func} {a : Act} {g : Nat} {cs : List Value} {t : TypeId} {w : World} {post : Ending → World → Prop} {r u : Tmp} {ty : TypeId} {d : TypeDesc} (hf : f.results = #[.cell r ty, .tmp u]) (hr : a.tmps.getD r undef = .pointer (some ⟨g, 0, none⟩)) (hdf : a.defers = [])
    (hc : Cw w g cs t) (hu : Try.prog.underlying ty = some d) (hd : d.isRow = true) (hi : Hid ((Try.prog.info? ty).map (·.size) = some cs.length)) (h : post (.returned (.tuple #[.agg cs.toArray, a.tmps.getD u undef])) w) : bodyPost Try.prog f post .ret a w := by
  refine bodyPost_ret ?_ hdf h
  rw [results_cell_tmp hf, hr]
  have e1 := run_loadVar_row w g t ty cs.toArray (0, 0) d hc hu (by cases d <;> first | rfl | cases hd) (by rw [List.size_toArray]; exact hi.out)
  simp only [asAddr, Sem.run_pure, Result.andThen_ok, e1]
/-- What Parse answers: the word, or nothing and the error. -/
def psV (t : List Int) (e : Int) : Value := .tuple #[.agg (cellsOf t).toArray, .int .i64 e]
theorem toList_ne {a b : ByteArray} (h : a ≠ b) : (a.toList == b.toList) = false := by
  refine beq_false_of_ne fun e => h ?_
  rw [ByteArray.toList_eq, ByteArray.toList_eq] at e
  exact ByteArray.ext (Array.toList_inj.1 e)
set_option maxRecDepth 20000 in
set_option maxHeartbeats 1600000 in
theorem parse_yes (S : ByteArray) (xs : List Int) (CR : Hid (∀ W, Calls Try.prog 24 #[.string S] W fun e w' => ∃ t, Tk t ∧ Hid (strOfNums (txt t) = S) ∧ e = .returned (.agg (cellsOf t).toArray) ∧ Below W.heap.size W w')) (HU : Hid (∀ t, Tk t → strOfNums (txt t) = S → t = unT xs)) (w : World) :
    Calls Try.prog 13 #[.string S] w fun e w' => e = .returned (psV (unT xs) 0) ∧ Below w.heap.size w w' := by
  have HZ := hid_into Try.zero25t
  have HI := hs25 zero_tk
  go_enter Try.func13, Try.ntmps13
  refine wp_seq (wp_region_lit (wpList_alloc_row rfl 25 rfl (cellsOf (zeroB 16)) HZ.out ?_))
  intro V1 hq1 Q1 QS1
  go_wp2_with (first
    | (go_at_call 24; refine (CR.out _).mono ?_; rintro e V2 ⟨t, ht, HO, rfl, B2⟩; have hq2 := hq1.below B2 hq1.lt; have BB2 := Q1.trans (B2.mono Q1.size); have HS2 : Hid (w.heap.size < V2.heap.size) := hid_into hq2.lt)
    | (refine wpList_alloc_row rfl 25 rfl (cellsOf (zeroB 16)) HZ.out ?_; intro V3 hc3 B3 HS3; have hq3 := hq2.below B3 hq2.lt; have BB3 := BB2.trans (B3.mono BB2.size))
    | (refine wpList_store_rw rfl 25 (.tmp 4) (.tmp 6) rfl V2.heap.size (cellsOf (zeroB 16)) (cellsOf t) 25 rfl rfl hc3 HI (hlB (by rw [zeroB_len, ht.1])) (cellsOf_one _) ?_; intro V4 hc4 O4; have hq4 := O4.cw hq3 (by have := HS2.out; omega); have BB4 := BB3.trans (O4.below (by have := HS2.out; omega)); have HS4 : Hid (w.heap.size < V4.heap.size) := hid_into hq4.lt)
    | (refine wpList_load_rw rfl 25 (.tmp 4) rfl V2.heap.size (cellsOf t) 25 _ rfl hc4 Try.underlying25 rfl (hs25 ht) ?_)
    | (go_at_call 14; refine (text_any t ht _).mono ?_; rintro e V5 ⟨rfl, B5⟩; have hq5 := hq4.below B5 hq4.lt; have hc5 := hc4.below B5 hc4.lt; have BB5 := BB4.trans (B5.mono BB4.size); rw [HO.out])
    | (refine wpList_load_rw rfl 25 (.tmp 4) rfl V2.heap.size (cellsOf t) 25 _ rfl hc5 Try.underlying25 rfl (hs25 ht) ?_)
    | (refine wpList_store_rw rfl 25 (.tmp 2) (.tmp 12) rfl w.heap.size (cellsOf (zeroB 16)) (cellsOf t) 25 rfl rfl hq5 HI (hlB (by rw [zeroB_len, ht.1])) (cellsOf_one _) ?_; intro VA hcA OA; have HA := hs25 ht))
  exact ret_row2 rfl rfl rfl hcA Try.underlying25 rfl HA ⟨by rw [← HU.out t ht HO.out]; rfl, BB5.trans (OA.below (Nat.le_refl _))⟩
set_option maxRecDepth 20000 in
set_option maxHeartbeats 1600000 in
theorem parse_no (S : ByteArray) (CR : Hid (∀ W, Calls Try.prog 24 #[.string S] W fun e w' => ∃ t, Tk t ∧ Hid (((strOfNums (txt t)).toList == S.toList) = false) ∧ e = .returned (.agg (cellsOf t).toArray) ∧ Below W.heap.size W w')) (w : World) :
    Calls Try.prog 13 #[.string S] w fun e w' => e = .returned (psV (zeroB 16) 3) ∧ Below w.heap.size w w' := by
  have HZ := hid_into Try.zero25t
  have HI := hs25 zero_tk
  go_enter Try.func13, Try.ntmps13
  refine wp_seq (wp_region_lit (wpList_alloc_row rfl 25 rfl (cellsOf (zeroB 16)) HZ.out ?_))
  intro V1 hq1 Q1 QS1
  go_wp2_with (first
    | (go_at_call 24; refine (CR.out _).mono ?_; rintro e V2 ⟨t, ht, HO, rfl, B2⟩; have hq2 := hq1.below B2 hq1.lt; have BB2 := Q1.trans (B2.mono Q1.size); have HS2 : Hid (w.heap.size < V2.heap.size) := hid_into hq2.lt)
    | (refine wpList_alloc_row rfl 25 rfl (cellsOf (zeroB 16)) HZ.out ?_; intro V3 hc3 B3 HS3; have hq3 := hq2.below B3 hq2.lt; have BB3 := BB2.trans (B3.mono BB2.size))
    | (refine wpList_store_rw rfl 25 (.tmp 4) (.tmp 6) rfl V2.heap.size (cellsOf (zeroB 16)) (cellsOf t) 25 rfl rfl hc3 HI (hlB (by rw [zeroB_len, ht.1])) (cellsOf_one _) ?_; intro V4 hc4 O4; have hq4 := O4.cw hq3 (by have := HS2.out; omega); have BB4 := BB3.trans (O4.below (by have := HS2.out; omega)); have HS4 : Hid (w.heap.size < V4.heap.size) := hid_into hq4.lt)
    | (refine wpList_load_rw rfl 25 (.tmp 4) rfl V2.heap.size (cellsOf t) 25 _ rfl hc4 Try.underlying25 rfl (hs25 ht) ?_)
    | (go_at_call 14; refine (text_any t ht _).mono ?_; rintro e V5 ⟨rfl, B5⟩; have hq5 := hq4.below B5 hq4.lt; have hc5 := hc4.below B5 hc4.lt; have BB5 := BB4.trans (B5.mono BB4.size); obtain ⟨S2, hS2⟩ : ∃ S2, S2 = strOfNums (txt t) := ⟨_, rfl⟩; rw [← hS2]; have hne : (S2.toList == S.toList) = false := (by rw [hS2]; exact HO.out); clear hS2 HO)
    | (refine wpList_store_rw rfl 25 (.tmp 2) (.tmp 11) rfl w.heap.size (cellsOf (zeroB 16)) (cellsOf (zeroB 16)) 25 rfl rfl hq5 HI rfl (cellsOf_one _) ?_; intro VA hcA OA; have HA := hs25 zero_tk))
  exact ret_row2 rfl rfl rfl hcA Try.underlying25 rfl HA ⟨rfl, BB5.trans (OA.below (Nat.le_refl _))⟩
/-- Parse: of a word's text the word, of anything else the error. -/
theorem parse_any (xs : List Int) (hby : Byt xs) (hl : xs.length ≤ 1000000000000) (w : World) :
    Calls Try.prog 13 #[.string (strOfNums xs)] w fun e w' => (∃ t c, e = .returned (psV t c) ∧ Tk t ∧ (isT xs → t = unT xs ∧ c = 0) ∧ (¬ isT xs → t = zeroB 16 ∧ c = 3)) ∧ Below w.heap.size w w' := by
  by_cases h : isT xs
  · refine (parse_yes (strOfNums xs) xs (hid_into fun W => (read_any xs hby hl W).mono ?_) (hid_into fun t ht e => ?_) w).mono ?_
    · rintro e w' ⟨n, hn, hc, rfl, hb⟩
      have h16 : n = 16 := by rcases hc with h1 | h1; exact h1; exact absurd h.1 (by omega)
      subst h16
      exact ⟨rdT xs 16, rdT_tk xs 16, hid_into (by rw [rdT_txt h, txt_unT h]), rfl, hb⟩
    · have := str_inj (txt_byt ht) hby e
      rw [← this, unT_txt ht]
    · rintro e w' ⟨rfl, hb⟩
      exact ⟨⟨_, _, rfl, unT_tk h, fun _ => ⟨rfl, rfl⟩, fun k => absurd h k⟩, hb⟩
  · refine (parse_no (strOfNums xs) (hid_into fun W => (read_any xs hby hl W).mono ?_) w).mono ?_
    · rintro e w' ⟨n, hn, hc, rfl, hb⟩
      refine ⟨rdT xs n, rdT_tk xs n, hid_into (toList_ne fun e => h ?_), rfl, hb⟩
      have := str_inj (txt_byt (rdT_tk xs n)) hby e
      rw [← this]
      exact txt_isT (rdT_tk xs n)
    · rintro e w' ⟨rfl, hb⟩
      exact ⟨⟨_, _, rfl, zero_tk, fun k => absurd k h, fun _ => ⟨rfl, rfl⟩⟩, hb⟩
end Go.Proofs.Ytkfnmdhhiigceaa
