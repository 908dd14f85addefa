/-
  Two ends, the document's beside them: start, by contract.
-/
import Derived.Test.YtahodgmdikaedaaDoorLkOut
import Derived.Test.YtahodgmdikaedaaDoorDcPkt
namespace Go.Proofs.YtahodgmdikaedaaDoor
open Go.RowKit
/-- Both, and the ends: the program's (states s, t), the document's (states d, e), packets under way. -/
structure Bn (w : World) (B xb la lb da db : Nat) (F G : Nat → Prop) (id : Int) (s t : Lk) (v : Value) (ps : List Pq) : Prop where
  o : Bo w B xb la lb da db v ps
  a : Ld w B F la id s
  b : Ld w B G lb id t
  x : ¬ F xb ∧ ¬ G xb
  fg : ∀ k, F k → ¬ G k
  p : ∀ k, BlkP v ps k → ¬ F k ∧ ¬ G k
/-- An end, and the document's. -/
theorem two_new (W : World) (B : Nat) (hB : B ≤ W.heap.size) (xb : Nat) (cs : List Value) (hq : Cw W xb cs 46) (id : Int) (hi : -9223372036854775808 ≤ id ∧ id ≤ 9223372036854775807) :
    Calls Tryd.prog 20 #[.int .i64 id] W fun e w1 => e = .returned (.pointer (some ⟨W.heap.size, 0, none⟩)) ∧ Hid (Calls Tryd.prog 21 #[.int .i64 id] w1 fun e w2 => ∃ da, e = .returned (.pointer (some ⟨da, 0, none⟩)) ∧ Cw w2 xb cs 46 ∧
      Hid (Ld w2 B (fun k => k = W.heap.size) W.heap.size id newL ∧ Dq w2 da id newL ∧ Below W.heap.size W w2 ∧ W.heap.size < da ∧ da < w2.heap.size)) := by
  refine (Ld.new W B hB id hi).mono ?_
  rintro e w1 ⟨rfl, A1, B1, s1⟩
  refine ⟨rfl, ?_⟩
  refine (dnew_any w1 id hi).mono ?_
  rintro e w2 ⟨rfl, D2, B2, s2⟩
  exact ⟨_, rfl, (hq.below B1 hq.lt).below B2 (by have := hq.lt; omega), A1.below B2, D2, B1.trans (B2.mono B1.size), by omega, by omega⟩
set_option maxHeartbeats 6400000 in
set_option maxRecDepth 20000 in
theorem start_any (w : World) (id : Int) (hi : -9223372036854775808 ≤ id ∧ id ≤ 9223372036854775807) :
    Calls Tryd.prog 11 #[.int .i64 id] w fun e w' => ∃ xb la lb da db F G, e = .returned (.tuple #[.pointer (some ⟨xb, 0, none⟩), .bool true]) ∧ Bn w' w.heap.size xb la lb da db F G id newL newL (.slice none 0 0) [] ∧ Dq w' da id newL ∧ Dq w' db id newL ∧ Below w.heap.size w w' ∧ (∀ k, F k ∨ G k → k ≠ da ∧ k ≠ db) ∧ da ≠ db ∧ da ≠ xb ∧ db ≠ xb ∧ w.heap.size ≤ da ∧ w.heap.size ≤ db := by
  have hi := hid_into hi
  go_enter Tryd.func11, Tryd.ntmps11
  go_wp2_with (refine wpList_box_row rfl 46 (.tmp 6) rfl [.pointer none, .pointer none, .pointer none, .pointer none, .slice none 0 0] (by rfl) ?_; intro w1 bx hb1 hs1)
  refine wp_loop_rounds 3 ?_
  rw [rounds_succ]
  go_wp2_with fail
  have hsz1 := hid_into hb1.size
  have C1 := hid_into (two_new w1.drew w.heap.size hsz1.out w.heap.size _ (bx.keep rfl) id hi.out)
  have hb1 := hid_into hb1
  have hbx := hid_into bx.lt
  have hs1 := hs1
  clear bx
  go_region_law (go_simp; go_wp2_with (first
    | (go_at_call 20; refine C1.out.mono ?_; rintro e w2 ⟨rfl, C2⟩)
    | (go_at_call 21; refine C2.out.mono ?_; rintro e w3 ⟨da, rfl, q3, H3⟩; have z0 : w3.cell? ⟨w.heap.size, 0, none⟩ = some (.pointer none) := q3.cell 0; have z2 : w3.cell? ⟨w.heap.size, 2, none⟩ = some (.pointer none) := q3.cell 2; have fz := q3.frozen)))
  have GS : Gr (fun k => k = w.heap.size) w3 ((w3.setCell ⟨w.heap.size, 0, none⟩ (.pointer (some ⟨w1.heap.size, 0, none⟩))).setCell ⟨w.heap.size, 2, none⟩ (.pointer (some ⟨da, 0, none⟩))) :=
    (Gr.setCell (F := fun k => k = w.heap.size) _ _ _ rfl).trans (Gr.setCell (F := fun k => k = w.heap.size) _ _ _ rfl) fun k hk => Or.inl hk
  have q5 : Hid (Cw ((w3.setCell ⟨w.heap.size, 0, none⟩ (.pointer (some ⟨w1.heap.size, 0, none⟩))).setCell ⟨w.heap.size, 2, none⟩ (.pointer (some ⟨da, 0, none⟩))) w.heap.size [.pointer (some ⟨w1.heap.size, 0, none⟩), .pointer none, .pointer (some ⟨da, 0, none⟩), .pointer none, .slice none 0 0] 46) := (q3.set 0 _).set 2 _
  obtain ⟨A3, D3, B3, l3, l4⟩ := H3.out
  have s1' := hs1.out
  have A5 : Hid (Ld ((w3.setCell ⟨w.heap.size, 0, none⟩ (.pointer (some ⟨w1.heap.size, 0, none⟩))).setCell ⟨w.heap.size, 2, none⟩ (.pointer (some ⟨da, 0, none⟩))) w.heap.size (fun k => k = w1.heap.size) w1.heap.size id newL) := A3.gr GS fun k hk e => by have : k = w1.heap.size := hk; omega
  have D5 : Hid (Dq ((w3.setCell ⟨w.heap.size, 0, none⟩ (.pointer (some ⟨w1.heap.size, 0, none⟩))).setCell ⟨w.heap.size, 2, none⟩ (.pointer (some ⟨da, 0, none⟩))) da id newL) := D3.keep (GS.block da D3.q.lt fun e => by have : w1.heap.size < da := l3; omega)
  have l3' : w1.heap.size < da := l3
  have B3' : Below w1.heap.size w1 w3 := ⟨B3.os, B3.tape, B3.output, B3.size, B3.block⟩
  have B5 : Hid (Below w.heap.size w ((w3.setCell ⟨w.heap.size, 0, none⟩ (.pointer (some ⟨w1.heap.size, 0, none⟩))).setCell ⟨w.heap.size, 2, none⟩ (.pointer (some ⟨da, 0, none⟩)))) := (hb1.out.trans (B3'.mono hsz1.out)).trans (GS.below (by have := B3'.size; omega) fun k hk => by omega)
  have ss : ((w3.setCell ⟨w.heap.size, 0, none⟩ (.pointer (some ⟨w1.heap.size, 0, none⟩))).setCell ⟨w.heap.size, 2, none⟩ (.pointer (some ⟨da, 0, none⟩))).heap.size = w3.heap.size := by simp [World.setCell]
  have NUM : Hid (w.heap.size < w1.heap.size ∧ w1.heap.size < da ∧ da < ((w3.setCell ⟨w.heap.size, 0, none⟩ (.pointer (some ⟨w1.heap.size, 0, none⟩))).setCell ⟨w.heap.size, 2, none⟩ (.pointer (some ⟨da, 0, none⟩))).heap.size) := by show _ ∧ _ ∧ _; omega
  clear GS A3 D3 B3 l3 l4 l3' B3' s1' hs1 C1 C2 H3 z0 z2 fz ss hb1 hsz1 hbx q3
  generalize (w3.setCell ⟨w.heap.size, 0, none⟩ (.pointer (some ⟨w1.heap.size, 0, none⟩))).setCell ⟨w.heap.size, 2, none⟩ (.pointer (some ⟨da, 0, none⟩)) = w5 at *
  generalize w1.heap.size = la at *
  go_wp2_with fail
  rw [rounds_succ]
  go_wp2_with fail
  have hsz5 := hid_into B5.out.size
  have C1 := hid_into (two_new w5.drew w.heap.size hsz5.out w.heap.size _ (q5.out.keep rfl) id hi.out)
  go_region_law (go_simp; go_wp2_with (first
    | (go_at_call 20; refine C1.out.mono ?_; rintro e w6 ⟨rfl, C2⟩)
    | (go_at_call 21; refine C2.out.mono ?_; rintro e w7 ⟨db, rfl, q7, H7⟩; have z1 : w7.cell? ⟨w.heap.size, 1, none⟩ = some (.pointer none) := q7.cell 1; have z3 : w7.cell? ⟨w.heap.size, 3, none⟩ = some (.pointer none) := q7.cell 3; have fz := q7.frozen)))
  have GS : Gr (fun k => k = w.heap.size) w7 ((w7.setCell ⟨w.heap.size, 1, none⟩ (.pointer (some ⟨w5.heap.size, 0, none⟩))).setCell ⟨w.heap.size, 3, none⟩ (.pointer (some ⟨db, 0, none⟩))) :=
    (Gr.setCell (F := fun k => k = w.heap.size) _ _ _ rfl).trans (Gr.setCell (F := fun k => k = w.heap.size) _ _ _ rfl) fun k hk => Or.inl hk
  have q9 : Cw ((w7.setCell ⟨w.heap.size, 1, none⟩ (.pointer (some ⟨w5.heap.size, 0, none⟩))).setCell ⟨w.heap.size, 3, none⟩ (.pointer (some ⟨db, 0, none⟩))) w.heap.size (boC la w5.heap.size da db (.slice none 0 0)) 46 := (q7.set 1 _).set 3 _
  obtain ⟨A7, D7, B7, l7, l8⟩ := H7.out
  have N5 := NUM.out
  have l7' : w5.heap.size < db := l7
  have B7' : Below w5.heap.size w5 w7 := ⟨B7.os, B7.tape, B7.output, B7.size, B7.block⟩
  have g57 : Gr (fun _ => False) w5 w7 := Gr.of_below B7' _ fun k hk hb => by omega
  have A9 : Ld ((w7.setCell ⟨w.heap.size, 1, none⟩ (.pointer (some ⟨w5.heap.size, 0, none⟩))).setCell ⟨w.heap.size, 3, none⟩ (.pointer (some ⟨db, 0, none⟩))) w.heap.size (fun k => k = la) la id newL := (A5.out.gr g57 fun _ _ h => h).gr GS fun k hk e => by omega
  have E9 : Ld ((w7.setCell ⟨w.heap.size, 1, none⟩ (.pointer (some ⟨w5.heap.size, 0, none⟩))).setCell ⟨w.heap.size, 3, none⟩ (.pointer (some ⟨db, 0, none⟩))) w.heap.size (fun k => k = w5.heap.size) w5.heap.size id newL := A7.gr GS fun k hk e => by have : k = w5.heap.size := hk; omega
  have D9 : Dq ((w7.setCell ⟨w.heap.size, 1, none⟩ (.pointer (some ⟨w5.heap.size, 0, none⟩))).setCell ⟨w.heap.size, 3, none⟩ (.pointer (some ⟨db, 0, none⟩))) da id newL := (D5.out.keep (B7'.block da (by omega))).keep (GS.block da (by have := B7'.size; omega) (by omega))
  have H9 : Dq ((w7.setCell ⟨w.heap.size, 1, none⟩ (.pointer (some ⟨w5.heap.size, 0, none⟩))).setCell ⟨w.heap.size, 3, none⟩ (.pointer (some ⟨db, 0, none⟩))) db id newL := D7.keep (GS.block db l8 (by omega))
  have B9 : Below w.heap.size w ((w7.setCell ⟨w.heap.size, 1, none⟩ (.pointer (some ⟨w5.heap.size, 0, none⟩))).setCell ⟨w.heap.size, 3, none⟩ (.pointer (some ⟨db, 0, none⟩))) := (B5.out.trans (B7'.mono hsz5.out)).trans (GS.below (by have := B7'.size; omega) fun k hk => by omega)
  obtain ⟨c0, c1⟩ : ((w7.setCell ⟨w.heap.size, 1, none⟩ (.pointer (some ⟨w5.heap.size, 0, none⟩))).setCell ⟨w.heap.size, 3, none⟩ (.pointer (some ⟨db, 0, none⟩))).cell? ⟨w.heap.size, 0, none⟩ = some (.pointer (some ⟨la, 0, none⟩)) ∧ ((w7.setCell ⟨w.heap.size, 1, none⟩ (.pointer (some ⟨w5.heap.size, 0, none⟩))).setCell ⟨w.heap.size, 3, none⟩ (.pointer (some ⟨db, 0, none⟩))).cell? ⟨w.heap.size, 1, none⟩ = some (.pointer (some ⟨w5.heap.size, 0, none⟩)) := ⟨q9.cell 0, q9.cell 1⟩
  have FIN : Hid (∀ n, ∃ (X L1 L2 D1 D2 : Nat) (F G : Nat → Prop), (Ending.returned (.tuple #[.pointer (some ⟨w.heap.size, 0, none⟩), .bool true]) = .returned (.tuple #[.pointer (some ⟨X, 0, none⟩), .bool true])) ∧ Bn (((w7.setCell ⟨w.heap.size, 1, none⟩ (.pointer (some ⟨w5.heap.size, 0, none⟩))).setCell ⟨w.heap.size, 3, none⟩ (.pointer (some ⟨db, 0, none⟩))).drewN n) w.heap.size X L1 L2 D1 D2 F G id newL newL (.slice none 0 0) [] ∧ Dq (((w7.setCell ⟨w.heap.size, 1, none⟩ (.pointer (some ⟨w5.heap.size, 0, none⟩))).setCell ⟨w.heap.size, 3, none⟩ (.pointer (some ⟨db, 0, none⟩))).drewN n) D1 id newL ∧ Dq (((w7.setCell ⟨w.heap.size, 1, none⟩ (.pointer (some ⟨w5.heap.size, 0, none⟩))).setCell ⟨w.heap.size, 3, none⟩ (.pointer (some ⟨db, 0, none⟩))).drewN n) D2 id newL ∧ Below w.heap.size w (((w7.setCell ⟨w.heap.size, 1, none⟩ (.pointer (some ⟨w5.heap.size, 0, none⟩))).setCell ⟨w.heap.size, 3, none⟩ (.pointer (some ⟨db, 0, none⟩))).drewN n) ∧ (∀ k, F k ∨ G k → k ≠ D1 ∧ k ≠ D2) ∧ D1 ≠ D2 ∧ D1 ≠ X ∧ D2 ≠ X ∧ w.heap.size ≤ D1 ∧ w.heap.size ≤ D2) := fun n => by
    have gn : Gr (fun _ => False) ((w7.setCell ⟨w.heap.size, 1, none⟩ (.pointer (some ⟨w5.heap.size, 0, none⟩))).setCell ⟨w.heap.size, 3, none⟩ (.pointer (some ⟨db, 0, none⟩))) (((w7.setCell ⟨w.heap.size, 1, none⟩ (.pointer (some ⟨w5.heap.size, 0, none⟩))).setCell ⟨w.heap.size, 3, none⟩ (.pointer (some ⟨db, 0, none⟩))).drewN n) := ⟨rfl, rfl, rfl, Nat.le_refl _, fun _ _ _ => rfl⟩
    refine ⟨w.heap.size, la, w5.heap.size, da, db, fun k => k = la, fun k => k = w5.heap.size, rfl, ⟨⟨q9.keep rfl, Wq.nil _ _, ?_, Nat.le_refl _⟩, A9.gr gn fun _ _ h => h, E9.gr gn fun _ _ h => h, ⟨fun e => by omega, fun e => by omega⟩, fun k h1 h2 => by omega, fun k hk => ?_⟩, D9.keep rfl, H9.keep rfl, ⟨B9.os, B9.tape, B9.output, B9.size, B9.block⟩, fun k hk => by omega, by omega, by omega, by omega, by omega, by omega⟩
    · rintro (h | ⟨p, h, _⟩)
      · cases h
      · cases h
    · rcases hk with h | ⟨p, h, _⟩
      · cases h
      · cases h
  clear GS q9 A7 D7 B7 l7 l8 N5 l7' B7' g57 A9 E9 D9 H9 B9 C1 C2 H7 q7 z1 z3 fz A5 D5 B5 q5 hsz5 NUM
  generalize w5.heap.size = lb at *
  go_wp2_with fail
  rw [rounds_succ]
  go_wp2_with fail
  go_quiet (fail)
  go_wp2_with fail
  go_ret2
  obtain ⟨xb', la', lb', da', db', F, G, e, h⟩ := FIN.out nq
  exact ⟨xb', la', lb', da', db', F, G, by rw [← e]; rfl, h⟩
end Go.Proofs.YtahodgmdikaedaaDoor
