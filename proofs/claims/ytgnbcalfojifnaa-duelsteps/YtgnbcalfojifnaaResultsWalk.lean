/-
  DuelResults, its walk.
-/
import Derived.Test.YtgnbcalfojifnaaDKnown
namespace Go.Proofs.Ytgnbcalfojifnaa
open Go.RowKit
theorem resR_three (s : Sp) (cap : Int) : ∃ a b c, resR s cap = #[.int .i64 a, .int .i64 b, .bool c] := by
  unfold resR
  split
  · exact ⟨_, _, _, rfl⟩
  · exact ⟨_, _, _, rfl⟩
set_option maxRecDepth 20000 in
set_option maxHeartbeats 1000000 in
theorem results_walk (s : Sp) (cv : Value) (l : List Ii) (cap fuel : Int) (w : World) (hs : s.Wf) (hl : Ls w cv l) : Calls Try.prog 5 #[.agg (stV s).toArray, gameV cv cap fuel] w fun e w' => e = .returned (.bool true) ∧ Below w.heap.size w w' := by
  obtain ⟨ao, cp, rfl, hm⟩ := hl.len
  obtain ⟨a, b, c, hR⟩ := resR_three s cap
  have C14 : Hid (∀ W, Calls Try.prog 14 #[.agg (stV s).toArray, .agg #[.slice ao l.length cp, .int .i64 cap, .int .i64 fuel]] W fun e w' => e = .returned (.tuple #[.int .i64 a, .int .i64 b, .bool c]) ∧ Below W.heap.size W w') := fun W => by have h := Result_any s hs (.slice ao l.length cp) cap fuel ⟨_, _, _, rfl⟩ W; rw [hR] at h; exact h
  have C15 : Hid (∀ W, Calls Try.prog 15 #[.agg (stV s).toArray, .agg #[.slice ao l.length cp, .int .i64 cap, .int .i64 fuel]] W fun e w' => e = .returned (.tuple #[.int .i64 a, .int .i64 b, .bool c]) ∧ Below W.heap.size W w') := fun W => by have h := rResult_any s hs (.slice ao l.length cp) cap fuel ⟨_, _, _, rfl⟩ W; rw [hR] at h; exact h
  have HN : Hid ((Try.prog.info? 30).map (·.size) = some (stV s).length) := by rw [(stV_c hs).len]; exact Try.size30
  have CK := hid_into known_any
  generalize stV s = cs at C14 C15 HN ⊢
  clear hR hs hl hm
  unfold gameV
  go_enter Try.func5, Try.ntmps5
  go_wp2_with (first
    | (refine wpList_box_row rfl 30 (.tmp 0) rfl cs rfl ?_; intro W1 hc1 B1 HS1; have G := hid_into (Sg.make (cv := .slice ao l.length cp) (cap := cap) (fuel := fuel) hc1 B1 HS1.out); have hsz := HS1.out.symm; have q0 := G.out.g.cell 0; have q1 := G.out.g.cell 1; have q2 := G.out.g.cell 2; simp only [List.getElem?_cons_zero, List.getElem?_cons_succ] at q0 q1 q2; clear hc1 B1 HS1)
    | (refine wpList_load_rw rfl 30 (.tmp 2) rfl w.heap.size cs 30 _ rfl ?_ Try.underlying30 rfl HN ?_; exact G.out.s)
    | (go_at_call 14; refine (C14.out _).mono ?_; rintro e w3 ⟨rfl, B3⟩; replace G := hid_into (G.out.next B3); clear B3 q0 q1 q2; have q0 := G.out.g.cell 0; have q1 := G.out.g.cell 1; have q2 := G.out.g.cell 2; simp only [List.getElem?_cons_zero, List.getElem?_cons_succ] at q0 q1 q2; rw [hsz] at q0 q1 q2)
    | (go_at_call 15; refine (C15.out _).mono ?_; rintro e w4 ⟨rfl, B4⟩; replace G := hid_into (G.out.next B4); clear B4 q0 q1 q2)
    | (go_at_call 16; refine (CK.out _).mono ?_; rintro e w5 ⟨rfl, B5⟩; replace G := hid_into (G.out.next B5); clear B5))
  go_ret
  exact ⟨rfl, G.out.below⟩
end Go.Proofs.Ytgnbcalfojifnaa
