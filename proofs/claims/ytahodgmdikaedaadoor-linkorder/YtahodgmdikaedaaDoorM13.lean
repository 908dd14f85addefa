/-
  Joined from: LkKnown.
-/
import Derived.Test.YtahodgmdikaedaaDoorM12
import Derived.Test.YtahodgmdikaedaaDoorM04
section
/-
  The law's own row and what owns to it: known, by contract.
-/
namespace Go.Proofs.YtahodgmdikaedaaDoor
open Go.RowKit
/-- What stands at a place of rows of one's own. -/
theorem Osl.at {w : World} {B : Nat} {ao : Option Addr} {cap : Nat} {os : List Rw2} (h : Osl w B (.slice ao os.length cap) os) {j : Nat} (hj : j < os.length) :
    ∃ g ap cp, ao = some ⟨g, 0, none⟩ ∧ w.cell? ⟨g, j, none⟩ = some (.slice ap ((bytesOf2 os).getD j []).length cp) ∧ Bs w (.slice ap ((bytesOf2 os).getD j []).length cp) ((bytesOf2 os).getD j []) ∧ os.length ≤ cap ∧ cap ≤ maxLen ∧ B ≤ g ∧ (∀ k, (Value.slice ap ((bytesOf2 os).getD j []).length cp).ownBlock = some k → B ≤ k ∧ k < w.heap.size) := by
  obtain ⟨e1, e2, e3, e4⟩ := h.each os[j] (List.getElem_mem hj)
  have eb : (os[j]).2 = (bytesOf2 os).getD j [] := by
    have : (bytesOf2 os)[j]? = some (os[j]).2 := by simp [bytesOf2, hj]
    rw [List.getD, this]; rfl
  have e0 := e1.bs
  obtain ⟨ap, cp, hv, _⟩ := e0.len
  rw [eb] at hv e0
  rcases h.row.2 with ⟨_, h0⟩ | ⟨g, cc, cur, he, hb, hg, hn, hc, hs, ht⟩
  · omega
  · simp only [Value.slice.injEq] at he
    obtain ⟨rfl, _, rfl⟩ := he
    refine ⟨g, ap, cp, rfl, ?_, by rw [← hv]; exact e0, hn, hc, hb, fun k hk => World.ownsRow.lt e1 k (by rw [hv]; exact hk)⟩
    rw [cell_of_row w g j _ _ _ hg, ← Array.getElem?_toList]
    have h3 : (cur.toList.take (os.length * 1))[j]? = some (os[j]).1 := by rw [ht]; simp [slOf, hj]
    rw [List.getElem?_take_of_lt (by omega)] at h3
    rw [h3, hv]
theorem Po.at {w : World} {B : Nat} {id : Int} {ps : List Pk} {ao : Option Addr} {cap : Nat} (h : Po w B id ps (.slice ao ps.length cap)) {j : Nat} {p : Pk} (hj : ps[j]? = some p) :
    ∃ g ap cp, ao = some ⟨g, 0, none⟩ ∧ w.cell? ⟨g, j, none⟩ = some (.slice ap (encP id p).length cp) ∧ Bs w (.slice ap (encP id p).length cp) (encP id p) ∧ ps.length ≤ cap ∧ cap ≤ maxLen ∧ B ≤ g ∧ (∀ k, (Value.slice ap (encP id p).length cp).ownBlock = some k → B ≤ k ∧ k < w.heap.size) := by
  obtain ⟨os, ho, he⟩ := h
  have hl := pb_len he
  rw [← hl] at ho ⊢
  have e : (bytesOf2 os).getD j [] = encP id p := by
    rw [he, List.getD, List.getElem?_map, hj]; rfl
  have := ho.at (j := j) (by rw [hl]; exact (List.getElem?_eq_some_iff.1 hj).1)
  rw [e] at this
  exact this
/-- A Link of a law's own. -/
structure Ld (w : World) (B : Nat) (F : Nat → Prop) (lb : Nat) (id : Int) (s : Lk) : Prop where
  l : ∃ v rs, Lp w F lb v rs id s
  b : ∀ k, F k → B ≤ k
theorem Ld.hi {w : World} {B : Nat} {F : Nat → Prop} {lb : Nat} {id : Int} {s : Lk} (h : Ld w B F lb id s) : ∀ k, F k → k < w.heap.size := by
  obtain ⟨v, rs, hl⟩ := h.l
  exact hl.hi
theorem Ld.ok {w : World} {B : Nat} {F : Nat → Prop} {lb : Nat} {id : Int} {s : Lk} (h : Ld w B F lb id s) : Lok s := by
  obtain ⟨v, rs, hl⟩ := h.l
  exact hl.ok
theorem Ld.gr {w w' : World} {B : Nat} {F G : Nat → Prop} {lb : Nat} {id : Int} {s : Lk} (h : Ld w B F lb id s) (hg : Gr G w w') (hn : ∀ k, F k → ¬ G k) : Ld w' B F lb id s := by
  obtain ⟨v, rs, hl⟩ := h.l
  exact ⟨⟨v, rs, hl.gr hg hn⟩, h.b⟩
theorem Ld.below {w w' : World} {B : Nat} {F : Nat → Prop} {lb : Nat} {id : Int} {s : Lk} (h : Ld w B F lb id s) (hb : Below w.heap.size w w') : Ld w' B F lb id s := by
  obtain ⟨v, rs, hl⟩ := h.l
  exact ⟨⟨v, rs, hl.below hb⟩, h.b⟩
section
variable {w : World} {B : Nat} {F : Nat → Prop} {lb : Nat} {id : Int} {s : Lk} {sv : Value} {zs : List Int}
theorem Ld.new (w : World) (B : Nat) (hB : B ≤ w.heap.size) (id : Int) (hi : -9223372036854775808 ≤ id ∧ id ≤ 9223372036854775807) : Calls Tryd.prog 20 #[.int .i64 id] w fun e w' => e = .returned (.pointer (some ⟨w.heap.size, 0, none⟩)) ∧ Ld w' B (fun k => k = w.heap.size) w.heap.size id newL ∧ Below w.heap.size w w' ∧ w'.heap.size = w.heap.size + 1 := by
  refine (new_any w id hi).mono ?_
  rintro e w' ⟨rfl, hl, hb, hs⟩
  exact ⟨rfl, ⟨⟨_, _, hl⟩, fun k hk => by omega⟩, hb, hs⟩
theorem Ld.send (h : Ld w B F lb id s) (hBw : B ≤ w.heap.size) (ht : Tab w) (h0 : 0 < B) (hs : Bs w sv zs) (hy : Byt zs) (hz : zs.length ≤ 4096) (hf : s.L.length < 1000) (hb : s.sent ≤ 90000000000000) :
    Calls Tryd.prog 14 #[.pointer (some ⟨lb, 0, none⟩), sv] w fun e w' => ∃ ao cap n, e = .returned (.tuple #[.slice ao ((s.put zs).outs 16).length cap, .int .i64 0]) ∧ w.heap.size ≤ n ∧ Po w' n id ((s.put zs).outs 16) (.slice ao ((s.put zs).outs 16).length cap) ∧ Ld w' B (Fw F w.heap.size n) lb id ((s.put zs).goes 16) ∧ Gr F w w' := by
  obtain ⟨v, rs, hl⟩ := h.l
  refine (send_any hl ht (fun e => by have := h.b 0 e; omega) hs hy hz hf hb).mono ?_
  rintro e w' ⟨ao, cap, v', rs', n, rfl, hn, hp, hl', hg⟩
  exact ⟨ao, cap, n, rfl, hn, hp, ⟨⟨v', rs', hl'⟩, fun k hk => by rcases hk with hk | hk; exact h.b k hk; omega⟩, hg⟩
theorem Ld.hear (h : Ld w B F lb id s) (ht : Tab w) (h0 : 0 < B) (hb : Bs w sv zs) (hy : Byt zs) (hz : zs.length ≤ 1000000) (p : Pk) (hp : rdP id zs = some p) (b1 : s.sent ≤ 80000000000000) (b2 : s.came < 100000000000000) (b3 : s.vain < 100000000000000) (b4 : s.first + s.way ≤ 100000000000000) :
    Calls Tryd.prog 16 #[.pointer (some ⟨lb, 0, none⟩), sv] w fun e w' => ∃ ao cap os bo bc, e = .returned (.tuple #[.slice ao os.length cap, .slice bo (s.hearO 16 p).length bc]) ∧ Osl w' w.heap.size (.slice ao os.length cap) os ∧ bytesOf2 os = s.rows p ∧ Po w' w.heap.size id (s.hearO 16 p) (.slice bo (s.hearO 16 p).length bc) ∧ Ld w' B F lb id (s.hearS 16 p) ∧ Gr F w w' := by
  obtain ⟨v, rs, hl⟩ := h.l
  refine (hear_yes hl ht (fun e => by have := h.b 0 e; omega) hb hy hz p hp b1 b2 b3 b4).mono ?_
  rintro e w' ⟨ao, cap, os, bo, bc, v', rs', rfl, h1, h2, h3, h4, h5⟩
  exact ⟨ao, cap, os, bo, bc, rfl, h1, h2, h3, ⟨⟨v', rs', h4⟩, h.b⟩, h5⟩
theorem Ld.deaf (h : Ld w B F lb id s) (ht : Tab w) (hb : Bs w sv zs) (hy : Byt zs) (hz : zs.length ≤ 1000000) (hp : rdP id zs = none) (hv : s.vain < 100000000000000) :
    Calls Tryd.prog 16 #[.pointer (some ⟨lb, 0, none⟩), sv] w fun e w' => e = .returned (.tuple #[.slice none 0 0, .slice none 0 0]) ∧ Ld w' B F lb id { s with vain := s.vain + 1 } ∧ Gr F w w' := by
  obtain ⟨v, rs, hl⟩ := h.l
  refine (hear_no hl ht hb hy hz hp hv).mono ?_
  rintro e w' ⟨rfl, h1, h2⟩
  exact ⟨rfl, ⟨⟨v, rs, h1⟩, h.b⟩, h2.mono fun k hk => by rw [hk]; exact hl.fl⟩
theorem Ld.tick (h : Ld w B F lb id s) (ht : Tab w) (h0 : 0 < B) (hs : s.sent ≤ 90000000000000) (h4 : s.since ≤ 4) : Calls Tryd.prog 15 #[.pointer (some ⟨lb, 0, none⟩)] w fun e w' => ∃ ao cap, e = .returned (.slice ao s.tickO.length cap) ∧ Po w' w.heap.size id s.tickO (.slice ao s.tickO.length cap) ∧ Ld w' B F lb id s.tickS ∧ Gr F w w' := by
  obtain ⟨v, rs, hl⟩ := h.l
  refine (tick_any hl ht (fun e => by have := h.b 0 e; omega) hs h4).mono ?_
  rintro e w' ⟨ao, cap, rfl, h1, h2, h3⟩
  exact ⟨ao, cap, rfl, h1, ⟨⟨v, rs, h2⟩, h.b⟩, h3.mono fun k hk => by rw [hk]; exact hl.fl⟩
theorem Ld.left (h : Ld w B F lb id s) : Calls Tryd.prog 19 #[.pointer (some ⟨lb, 0, none⟩)] w fun e w' => e = .returned (.int .i64 (s.L.length : Int)) ∧ w' = w := by
  obtain ⟨v, rs, hl⟩ := h.l
  exact left_any hl
theorem Ld.stats (h : Ld w B F lb id s) : Calls Tryd.prog 23 #[.pointer (some ⟨lb, 0, none⟩)] w fun e w' => e = .returned (.tuple #[.int .i64 (s.sent : Int), .int .i64 (s.vain : Int)]) ∧ Sm w w' := by
  obtain ⟨v, rs, hl⟩ := h.l
  exact stats_any hl
end
/-- The states of known's Links. -/
def kA1 : Lk := (newL.put [120]).goes 16
def kP1 : Pk := ⟨1, 0, [120]⟩
def kB1 : Lk := newL.hearS 16 kP1
def kP2 : Pk := ⟨0, 1, []⟩
theorem kP1_out : (newL.put [120]).outs 16 = [kP1] := rfl
theorem kB_rows : newL.rows kP1 = [[120]] := by decide
theorem kB_out : newL.hearO 16 kP1 = [kP2] := rfl
theorem kA_left : (kA1.hearS 16 kP2).L = [] := by decide
theorem kP1_good : kP1.Good := ⟨by decide, by decide, fun z hz => by simp [kP1] at hz; omega, by decide, by decide⟩
theorem kP2_good : kP2.Good := ⟨by decide, by decide, fun z hz => by simp [kP2] at hz, by decide, by decide⟩
set_option maxHeartbeats 6400000 in
set_option maxRecDepth 20000 in
theorem lknown_any (w : World) (ht : Tab w) : Calls Tryd.prog 10 #[] w fun e w' => e = .returned (.bool true) ∧ Below w.heap.size w w' := by
  have kc := fun (w : World) (C : Array Value) (n c : Nat) => Lib.run_convert_bytes_const (P := Tryd.prog) w 29 5 C n c Tryd.underlying29 Tryd.underlying5
  have h0 := hid_into ht.lt
  have hT := hid_into ht
  clear ht
  go_enter Tryd.func10, Tryd.ntmps10
  go_wp2_with fail
  refine (Ld.new w w.heap.size (Nat.le_refl _) 5 (by decide)).mono ?_
  rintro e w1 ⟨rfl, A1, B1, s1⟩
  replace s1 := hid_into s1
  have hle1 := hid_into B1.size
  replace B1 := hid_into B1
  replace A1 := hid_into A1
  generalize hla : w.heap.size = la at *
  replace hla := hid_into hla
  go_wp2_with fail
  refine (Ld.new w1 la hle1.out 5 (by decide)).mono ?_
  rintro e w2 ⟨rfl, C2, B2, s2⟩
  have A2 := hid_into (A1.out.below B2)
  have B12 : Hid (Below la w w2) := B1.out.trans (B2.mono hle1.out)
  replace s2 := hid_into s2
  replace C2 := hid_into C2
  clear B2
  generalize w1.heap.size = lb at *
  have hs3 : Hid (Bs (w2.alloc (.cells #[.int .u8 120] 5 (1, 2))) (.slice (some ⟨w2.heap.size, 0, none⟩) 1 1) [120]) := Bs_of_block (heap_alloc_new w2 _) (by simp [maxLen])
  have B3 : Hid (Below la w (w2.alloc (.cells #[.int .u8 120] 5 (1, 2)))) := B12.out.alloc (by have := B12.out.size; have := hla.out; omega) _
  have A3 : Hid (Ld (w2.alloc (.cells #[.int .u8 120] 5 (1, 2))) la (fun k => k = la) la 5 newL) := A2.out.below ((Below.refl _ _).alloc (Nat.le_refl _) _)
  have C3 : Hid (Ld (w2.alloc (.cells #[.int .u8 120] 5 (1, 2))) la (fun k => k = lb) lb 5 newL) := C2.out.below ((Below.refl _ _).alloc (Nat.le_refl _) _)
  clear A1 B1 A2 C2 B12
  go_wp2_with fail
  refine (Ld.send A3.out (by have := B3.out.size; have := hla.out; omega) (hT.out.below B3.out h0.out) h0.out hs3.out (by unfold Byt; decide) (by decide) (by decide) (by decide)).mono ?_
  rintro e w4 ⟨ao4, cap4, n4, rfl, hn4, P4, A4, G4⟩
  rw [kP1_out] at P4 ⊢
  obtain ⟨g4, ap4, cp4, rfl, q4, hb4, hcl4, hcm4, hg4, hr4⟩ := P4.at (j := 0) (p := kP1) rfl
  have hsz3 : Hid ((w2.alloc (.cells #[.int .u8 120] 5 (1, 2))).heap.size = la + 3) := by show _ = _; rw [World.size_alloc]; have := s2.out; have := s1.out; omega
  have B4 : Hid (Below la w w4) := B3.out.trans (G4.below (by have := hsz3.out; omega) fun k hk => by omega)
  have C4 : Hid (Ld w4 la (fun k => k = lb) lb 5 newL) := C3.out.gr G4 fun k hk e => by have := s1.out; omega
  replace A4 := hid_into A4
  replace hb4 := hid_into hb4
  have R1 := rd_enc 5 5 (by decide) kP1 kP1_good
  rw [if_pos rfl] at R1
  have L1 := encP_len 5 kP1 kP1_good
  have Y1 := encP_byt 5 (by decide) kP1 kP1_good
  replace R1 := hid_into R1
  replace L1 := hid_into L1
  replace Y1 := hid_into Y1
  clear A3 B3 C3 hs3 P4 G4 hr4
  generalize encP 5 kP1 = e1 at *
  go_wp2_with fail
  refine (Ld.hear C4.out (hT.out.below B4.out h0.out) h0.out hb4.out Y1.out (by have := L1.out; omega) kP1 R1.out (by decide) (by decide) (by decide) (by decide)).mono ?_
  rintro e w5 ⟨ao5, cap5, os5, bo5, bc5, rfl, O5, hr5, P5, C5, G5⟩
  rw [kB_out] at P5 ⊢
  rw [kB_rows] at hr5
  obtain ⟨r5, rfl⟩ : ∃ r, os5 = [r] := by
    cases os5 with
    | nil => simp [bytesOf2] at hr5
    | cons r t =>
      cases t with
      | nil => exact ⟨r, rfl⟩
      | cons r2 t => simp [bytesOf2] at hr5
  obtain ⟨g5, ap5, cp5, rfl, q5, hb5, hcl5, hcm5, _, _⟩ := O5.at (j := 0) (by simp)
  rw [hr5] at q5 hb5
  obtain ⟨g6, ap6, cp6, rfl, q6, hb6, hcl6, hcm6, hg6, hr6⟩ := P5.at (j := 0) (p := kP2) rfl
  have hl45 := G5.size
  have B5 : Hid (Below la w w5) := B4.out.trans (G5.below (by have := B4.out.size; have := hla.out; omega) fun k hk => by have := s1.out; omega)
  have A5 : Hid (Ld w5 la (Fw (fun k => k = la) (w2.alloc (.cells #[.int .u8 120] 5 (1, 2))).heap.size n4) la 5 ((newL.put [120]).goes 16)) := A4.out.gr G5 fun k hk e => by
    have := s1.out
    have := hsz3.out
    rcases hk with hk | hk <;> omega
  have S5 : Hid (Calls Tryd.prog 24 #[.slice ap5 1 cp5, .slice (some ⟨w5.heap.size, 0, none⟩) 1 1] (w5.alloc (.cells #[.int .u8 120] 5 (1, 2))) fun e w' => e = .returned (.bool true) ∧ Sm (w5.alloc (.cells #[.int .u8 120] 5 (1, 2))) w') := by
    have := same_any (.slice ap5 1 cp5) (.slice (some ⟨w5.heap.size, 0, none⟩) 1 1) [120] [120] (w5.alloc (.cells #[.int .u8 120] 5 (1, 2))) (hb5.below ((Below.refl _ _).alloc (Nat.le_refl _) _) (Nat.le_refl _)) (Bs_of_block (heap_alloc_new w5 _) (by simp [maxLen]))
    rw [eqB_true rfl] at this
    exact this
  replace hb6 := hid_into hb6
  have R2 := rd_enc 5 5 (by decide) kP2 kP2_good
  rw [if_pos rfl] at R2
  have L2 := encP_len 5 kP2 kP2_good
  have Y2 := encP_byt 5 (by decide) kP2 kP2_good
  replace R2 := hid_into R2
  replace L2 := hid_into L2
  replace Y2 := hid_into Y2
  have hg6' : Hid (g6 < w5.heap.size) := by
    have := World.block_lt_of_cell? w5 _ q6
    exact this
  clear A4 B4 C4 C5 G5 O5 P5 hb4 hb5 hr5 q4 R1 L1 Y1 hr6
  generalize encP 5 kP2 = e2 at *
  have hg6'' := hg6'.out
  go_wp2_with (go_at_call 24; refine S5.out.mono ?_; rintro e w6 ⟨rfl, hs6⟩; have q6' : w6.cell? ⟨g6, 0, none⟩ = some (.slice ap6 e2.length cp6) := by rw [← q6]; exact World.cell?_of_block (by rw [hs6.heap]; exact Below.heap_alloc _ _ _ hg6'.out))
  have B56 : Below w5.heap.size w5 w6 := ((Below.refl _ _).alloc (Nat.le_refl _) _).trans (hs6.below _)
  have A6 := A5.out.below B56
  have B6 : Below la w w6 := B5.out.trans (B56.mono (by have := B5.out.size; have := hla.out; omega))
  refine (Ld.hear A6 (hT.out.below B6 h0.out) h0.out (hb6.out.below B56 (Nat.le_refl _)) Y2.out (by have := L2.out; omega) kP2 R2.out (by decide) (by decide) (by decide) (by decide)).mono ?_
  rintro e w7 ⟨ao7, cap7, os7, bo7, bc7, rfl, _, _, _, A7, G7⟩
  have B7 : Hid (Below la w w7) := B6.trans (G7.below (by have := B6.size; have := hla.out; omega) fun k hk => by
    have := hsz3.out
    rcases hk with hk | hk <;> omega)
  have A7 : Ld w7 la (Fw (fun k => k = la) (w2.alloc (.cells #[.int .u8 120] 5 (1, 2))).heap.size n4) la 5 (kA1.hearS 16 kP2) := A7
  have C := A7.left
  rw [kA_left] at C
  clear A5 A6 A7 B56 B6 G7 hb6 S5 hs6 q6 q6' q5
  go_wp2_with (go_at_call 19; refine C.mono ?_; rintro e w8 ⟨rfl, h8⟩; subst h8)
  go_ret
  exact ⟨rfl, by rw [hla.out]; exact B7.out⟩
end Go.Proofs.YtahodgmdikaedaaDoor
end
