/-
  The program's Net: picked, Give, Twice, Late, by contracts.
-/
import Derived.Test.YtnfmhcljncdkgaaNetSend
import Derived.Laws.ResultCell
namespace Go.Proofs.Ytnfmhcljncdkgaa
open Go.RowKit
theorem picked_none {w : World} {p : Value} (C : Calls Try.prog 24 #[p] w fun e w' => e = .returned (.int .i64 0) ∧ w' = w) (pick : Int) (f : Value) : Calls Try.prog 29 #[p, .int .i64 pick, f] w fun e w' => e = .returned (.bool false) ∧ w' = w := by
  have HC := hid_into C
  clear C
  go_enter Try.func29, Try.ntmps29
  go_wp2_with (first
    | (go_at_call 24; refine HC.out.mono ?_; rintro e w1 ⟨rfl, hw⟩; replace hw := hw.symm; subst hw))
  go_ret
  exact ⟨rfl, rfl⟩
theorem picked_any {w : World} {B nb : Nat} {v : Value} {L : List Mg} (h : Np w B nb v L) (hL : L ≠ []) (pick : Int) (g : Nat) (caps : Array Value) (en : ∀ args w, (callFunc g args).run Try.prog w = .ok (.enter g args) w) (Q : Bool → World → Prop)
    (C : Calls Try.prog g (#[.int .i64 ((pkN pick L.length : Nat) : Int)] ++ caps) w fun e w' => ∃ b, e = .returned (.bool b) ∧ Q b w') :
    Calls Try.prog 29 #[.pointer (some ⟨nb, 0, none⟩), .int .i64 pick, .func (.func g) #[] caps] w fun e w' => ∃ b, e = .returned (.bool b) ∧ Q b w' := by
  have HL := hid_into (len_any h)
  have hle := h.le
  have hn0 : 0 < L.length := List.length_pos_iff.2 hL
  have HC := hid_into C
  clear C h hL
  generalize L.length = n at *
  have hz : ¬ (n : Int) = 0 := by omega
  have hz2 : ¬ n = 0 := by omega
  have e : max pick 0 % (n : Int) = ((pkN pick n : Nat) : Int) := by
    unfold pkN
    rw [Int.natCast_emod, show (((max 0 pick).toNat : Nat) : Int) = max pick 0 by omega]
  generalize hk : ((pkN pick n : Nat) : Int) = k at *
  generalize hm : max pick 0 % (n : Int) = r at *
  clear hk
  go_enter Try.func29, Try.ntmps29
  go_wp2_with (first
    | (go_at_call 24; refine HL.out.mono ?_; rintro e w1 ⟨rfl, hw⟩; replace hw := hw.symm; subst hw))
  rw [hm, e]
  refine HC.out.mono ?_
  rintro e w1 ⟨b, rfl, hq⟩
  go_wp2_with fail
  go_ret
  exact ⟨b, rfl, hq⟩
/-- Bytes of a conversion's own row. -/
def Of (w : World) (base : Nat) (v : Value) (zs : List Int) : Prop := ∃ g cap cur k, v = .slice (some ⟨g, 0, none⟩) zs.length cap ∧ base ≤ g ∧ w.heap[g]? = some (.cells cur 5 (k, k + 1)) ∧ cur.size ≤ k ∧ cur.size = cap ∧ zs.length ≤ cap ∧ cap ≤ maxLen ∧ cur.toList.take zs.length = cellsOf zs
theorem Of.lt {w : World} {base : Nat} {v : Value} {zs : List Int} (h : Of w base v zs) : ∀ k, v.ownBlock = some k → base ≤ k ∧ k < w.heap.size := fun k hk => by
  obtain ⟨g, cap, cur, j, rfl, hb, hg, _⟩ := h
  obtain rfl : g = k := Option.some.inj hk
  exact ⟨hb, (Array.getElem?_eq_some_iff.1 hg).1⟩
theorem Of.keep {w w' : World} {base : Nat} {v : Value} {zs : List Int} (h : Of w base v zs) (hk : ∀ k, v.ownBlock = some k → w'.heap[k]? = w.heap[k]?) : Of w' base v zs := by
  obtain ⟨g, cap, cur, j, rfl, hb, hg, hr⟩ := h
  exact ⟨g, cap, cur, j, rfl, hb, (hk g rfl).trans hg, hr⟩
theorem Of.mono {w : World} {base base' : Nat} {v : Value} {zs : List Int} (h : Of w base v zs) (hb : base' ≤ base) : Of w base' v zs := by
  obtain ⟨g, cap, cur, j, hv, hb', hr⟩ := h
  exact ⟨g, cap, cur, j, hv, Nat.le_trans hb hb', hr⟩
theorem Of.bs {w : World} {base : Nat} {v : Value} {zs : List Int} (h : Of w base v zs) : Bs w v zs := by
  obtain ⟨g, cap, cur, j, rfl, hb, hg, h1, h2, h3, h4, h5⟩ := h
  by_cases e : zs = []
  · subst e
    exact Or.inl ⟨rfl, _, cap, rfl, h4, fun e => by cases e⟩
  · refine Or.inr ⟨e, g, 0, cap, rfl, h3, h4, fun i hi => ?_⟩
    rw [cell_of_row w g (0 + i) _ _ _ hg, Nat.zero_add]
    have := congrArg (fun l => l[i]?) h5
    simp only [List.getElem?_take, hi, if_true] at this
    rw [cellsOf_get' zs i hi] at this
    simpa using this
def Byt (zs : List Int) : Prop := ∀ z ∈ zs, 0 ≤ z ∧ z < 256
/-- []byte of a message's text. -/
theorem conv_back (w : World) (zs : List Int) (hby : Byt zs) (hm : zs.length ≤ maxLen) : ∃ v w', (convert 9 23 (.string (strOfNums zs))).run Try.prog w = .ok v w' ∧ Of w' w.heap.size v zs ∧ Below w.heap.size w w' ∧ w'.heap.size = w.heap.size + 1 ∧ v.oneCell' = true ∧ ∃ ao n c, v = .slice ao n c := by
  refine ⟨_, _, Lib.run_convert_string_bytes w 9 23 5 _ Try.underlying9 Try.underlying23 Try.underlying5, ?_, ?_, Lib.bytesWorld_size _ _ _, rfl, _, _, _, rfl⟩
  · have hsz : (strOfNums zs).size = zs.length := strOfNums_size zs
    have hge := grownCap_ge w (strOfNums zs).size 0 5
    refine ⟨w.heap.size, grownCap w (strOfNums zs).size 0 5, Lib.bytesCells w 5 (strOfNums zs), _, by rw [hsz], Nat.le_refl _, Lib.bytesWorld_at_new w 5 _, Nat.le_refl _, ?_, by omega, grownCap_le_maxLen w _ 0 5 (by omega), ?_⟩
    · simp only [Lib.bytesCells, Array.size_append, Array.size_map, Array.size_replicate]
      rw [show (strOfNums zs).data.size = (strOfNums zs).size from rfl]
      omega
    · have e : ((strOfNums zs).data.map fun b => Value.int .u8 b.toNat).toList = cellsOf zs := by
        rw [Array.toList_map, strOfNums_data, List.map_map]
        unfold cellsOf
        apply List.map_congr_left
        intro z hz
        obtain ⟨h1, h2⟩ := hby z hz
        simp only [Function.comp]
        rw [UInt8.toNat_ofNat']
        congr 1
        omega
      unfold Lib.bytesCells
      rw [Array.toList_append, e, List.take_append_of_le_length (by rw [cellsOf_length]; exact Nat.le_refl _), List.take_of_length_le (by rw [cellsOf_length]; exact Nat.le_refl _)]
  · exact ⟨rfl, rfl, rfl, by rw [Lib.bytesWorld_size]; omega, fun k hk => Lib.bytesWorld_at_old w 5 _ k hk⟩
theorem ret_row2 {f : Func} {a : Act} {g : Nat} {cs : List Value} {t : TypeId} {w : World} {post : Ending → World → Prop} {r u : Tmp} {ty : TypeId} {d : TypeDesc} (hf : f.results = #[.cell r ty, .tmp u]) (hr : a.tmps.getD r undef = .pointer (some ⟨g, 0, none⟩)) (hdf : a.defers = [])
    (hc : Cw w g cs t) (hu : Try.prog.underlying ty = some d) (hd : d.isRow = true) (hi : Hid ((Try.prog.info? ty).map (·.size) = some cs.length)) (h : post (.returned (.tuple #[.agg cs.toArray, a.tmps.getD u undef])) w) : bodyPost Try.prog f post .ret a w := by
  refine bodyPost_ret ?_ hdf h
  rw [results_cell_tmp hf, hr]
  have e1 := run_loadVar_row w g t ty cs.toArray (0, 0) d hc hu (by cases d <;> first | rfl | cases hd) (by rw [List.size_toArray]; exact hi.out)
  simp only [asAddr, Sem.run_pure, Result.andThen_ok, e1]
end Go.Proofs.Ytnfmhcljncdkgaa
