/-
  The program's Net: New, Send, picked, by contracts.
-/
import Derived.Test.YtnfmhcljncdkgaaNetTake
namespace Go.Proofs.Ytnfmhcljncdkgaa
open Go.RowKit
theorem conv_any {w : World} {v : Value} {zs : List Int} (h : Bs w v zs) : (convert 23 9 v).run Try.prog w = .ok (.string (strOfNums zs)) w := by
  rcases h with ⟨rfl, ao, cap, rfl, _⟩ | ⟨_, b, off, cap, rfl, _, _, hc⟩
  · rw [run_convert_bytes_string w 23 9 5 ao 0 cap Try.underlying23 Try.underlying5 Try.underlying9]
    cases ao with
    | none => rfl
    | some a =>
      have hl : (loadCells a 0).run Try.prog w = .ok (([] : List Int).map (Value.int .u8)).toArray w := by
        have := run_loadCells_list (P := Try.prog) w a [] (fun j v hj => by simp at hj)
        simpa using this
      rw [run_bytesToString w a 0 cap [] hl]
      rfl
  · exact run_convert_bytes_arg w 23 5 Try.underlying23 Try.underlying5 b off zs.length cap zs rfl hc 9 Try.underlying9
theorem new_any (w : World) : Calls Try.prog 9 #[] w fun e w' => ∃ nb, e = .returned (.pointer (some ⟨nb, 0, none⟩)) ∧ Np w' w.heap.size nb (.slice none 0 0) [] ∧ Below w.heap.size w w' := by
  go_enter Try.func9, Try.ntmps9
  go_wp2_with fail
  go_ret
  exact ⟨w.heap.size, rfl, ⟨Cw.new w [_] 56, Ax.Ro.nil _ _, Nat.le_refl _, by simp [Value.ownBlock], by simp⟩, (Below.refl _ _).alloc (Nat.le_refl _) _⟩
theorem send_nil (w : World) (a b : Int) (s : Value) : Calls Try.prog 11 #[.pointer none, .agg #[.int .i64 a, .int .i64 b, s]] w fun e w' => e = .returned (.bool false) ∧ Below w.heap.size w w' := by
  go_enter Try.func11, Try.ntmps11
  go_wp2_with fail
  go_ret
  exact ⟨rfl, (Below.refl _ _).alloc (Nat.le_refl _) _⟩
/-- lay, whatever stands there. -/
theorem lay_any {w : World} {B nb : Nat} {v : Value} {L : List Mg} (h : Np w B nb v L) (hB : B ≤ w.heap.size) (m : Mg) : Calls Try.prog 27 #[.pointer (some ⟨nb, 0, none⟩), .agg #[.int .i64 m.fr, .int .i64 m.to, .string (strOfNums m.d)]] w fun e w' => e = .returned (.bool (sendB L)) ∧ ∃ v', Nx w w' B nb v v' (sendN L m) := by
  by_cases c : L.length < 1024
  · refine (lay_some h hB m c).mono ?_
    rintro e w' ⟨rfl, hx⟩
    unfold sendB sendN
    rw [if_neg (by omega), decide_eq_true c]
    exact ⟨rfl, hx⟩
  · refine (lay_full h m (by omega)).mono ?_
    rintro e w' ⟨rfl, hg⟩
    unfold sendB sendN
    rw [if_pos (by omega), decide_eq_false c]
    exact ⟨rfl, v, (Nx.same h).post hg⟩
set_option maxRecDepth 20000 in
theorem send_any {w : World} {B nb : Nat} {v s : Value} {L : List Mg} (h : Np w B nb v L) (hB : B ≤ w.heap.size) (m : Mg) (hs : Bs w s m.d) : Calls Try.prog 11 #[.pointer (some ⟨nb, 0, none⟩), .agg #[.int .i64 m.fr, .int .i64 m.to, s]] w fun e w' => e = .returned (.bool (sendB L)) ∧ ∃ v', Nx w w' B nb v v' (sendN L m) := by
  have HA : Hid (∀ W, Below w.heap.size w W → Bs W s m.d ∧ Np W B nb v L ∧ B ≤ W.heap.size ∧ Gr (fun _ => False) w W) := fun W hb => ⟨hs.below hb (Nat.le_refl _), h.keep fun k hk => hb.block k (h.hi k hk), Nat.le_trans hB hb.size, Gr.of_below hb _ (fun k hk h2 => by omega)⟩
  obtain ⟨ao, cap, rfl, _⟩ := hs.len
  clear h hs hB
  go_enter Try.func11, Try.ntmps11
  go_wp2_with (first
    | (refine wpList_box_row rfl 25 (.tmp 1) rfl [.int .i64 m.fr, .int .i64 m.to, .slice ao m.d.length cap] (by rfl) ?_; intro w1 bx hb hs1; have b0 := bx.cell 0; have b1 := bx.cell 1; have b2 := bx.cell 2; simp only [List.getElem?_cons_zero, List.getElem?_cons_succ] at b0 b1 b2; obtain ⟨hs1, hn1, hB1, hg1⟩ := HA.out w1 hb; have hcv := hid_into (conv_any hs1))
    | (rw [hcv.out])
    | (go_at_call 27; refine (lay_any hn1 hB1 m).mono ?_; rintro e w2 ⟨rfl, v', hx⟩))
  go_ret
  exact ⟨rfl, v', hx.pre hg1⟩
end Go.Proofs.Ytnfmhcljncdkgaa
