/-
  LinkAnyBytes' walk.
-/
import Derived.Test.YtahodgmdikaedaaDoorM13
import Derived.Test.YtahodgmdikaedaaDoorDcHear2
import Derived.Test.YtahodgmdikaedaaDoorRowsK
namespace Go.Proofs.YtahodgmdikaedaaDoor
open Go.RowKit
/-- How heavy rows are. -/
def hvy (l : List (List Int)) : Nat := (l.map fun r => 10 + r.length).sum
theorem hvy_app (a b : List (List Int)) : hvy (a ++ b) = hvy a + hvy b := by simp [hvy]
theorem hvy_mem {l : List (List Int)} {r : List Int} (h : r ∈ l) : r.length ≤ hvy l := by
  induction l with
  | nil => cases h
  | cons x t ih =>
    have e : hvy (x :: t) = 10 + x.length + hvy t := by simp [hvy]
    rcases List.mem_cons.1 h with rfl | h
    · omega
    · have := ih h; omega
theorem hvy_len (l : List (List Int)) : 10 * l.length ≤ hvy l := by
  induction l with
  | nil => simp
  | cons x t ih =>
    have e : hvy (x :: t) = 10 + x.length + hvy t := by simp [hvy]
    simp only [List.length_cons]
    omega
/-- Both ends that Sent nothing, side by side. -/
structure AnI (w : World) (la lb : Nat) (id : Int) (k : Nat) (W : World) : Prop where
  s : ∃ s : Lk, Ld W la (fun j => j = la) la id s ∧ Dq W lb id s ∧ s.sent ≤ k ∧ s.came ≤ k ∧ s.vain ≤ k
  b : Below la w W
/-- What a round comes to. -/
theorem AnI.hear {w W : World} {la lb : Nat} {id : Int} {k : Nat} (h : AnI w la lb id k W) (hab : la < lb) (hw : w.heap.size = la) (hz : 0 < la) (hT : Tab w) (hk : k ≤ 100000) {sv : Value} {zs : List Int} (hb : Bs w sv zs) (hy : Byt zs) (hl : zs.length ≤ 1000000) :
    Calls Tryd.prog 16 #[.pointer (some ⟨la, 0, none⟩), sv] W fun e w2 => ∃ a1 l1 c1 a2 l2 c2, e = .returned (.tuple #[.slice a1 l1 c1, .slice a2 l2 c2]) ∧ Below la w w2 ∧
      Hid (Calls Tryd.prog 22 #[.pointer (some ⟨lb, 0, none⟩), sv] w2 fun e w3 => ∃ a3 l3 c3 a4 l4 c4, e = .returned (.tuple #[.slice a3 l3 c3, .slice a4 l4 c4]) ∧ Below la w w3 ∧
        Hid (∀ W3, Sm w3 W3 → Calls Tryd.prog 18 #[.slice a1 l1 c1, .slice a3 l3 c3] W3 fun e w4 => e = .returned (.bool true) ∧ Sm W3 w4) ∧
        Hid (∀ W3, Sm w3 W3 → Calls Tryd.prog 18 #[.slice a2 l2 c2, .slice a4 l4 c4] W3 fun e w4 => e = .returned (.bool true) ∧ Sm W3 w4) ∧
        Hid (∀ W3, Sm w3 W3 → AnI w la lb id (k + 1) W3)) := by
  obtain ⟨s, A, D, q1, q2, q3⟩ := h.s
  have hsz : la ≤ W.heap.size := by have := h.b.size; omega
  have hbW : Bs W sv zs := hb.below (by rw [hw]; exact h.b) (Nat.le_refl _)
  have hTW : Tab W := hT.below h.b hz
  have rsm : ∀ {w3 W3 : World} {a l c} {os : List Rw2}, Sm w3 W3 → Osl w3 la (.slice a l c) os → Osl W3 la (.slice a l c) os := fun {w3 _ _ _ _ _} hs ho => ho.gr (Gr.of_below (hs.below w3.heap.size) (fun _ => False) fun k hk hb => by omega) fun _ _ h => h
  have eqc : ∀ {w3 : World} {a l c a' l' c'} {os os' : List Rw2}, Osl w3 la (.slice a l c) os → Osl w3 la (.slice a' l' c') os' → bytesOf2 os = bytesOf2 os' → os.length ≤ 100000 → Hid (∀ W3, Sm w3 W3 → Calls Tryd.prog 18 #[.slice a l c, .slice a' l' c'] W3 fun e w4 => e = .returned (.bool true) ∧ Sm W3 w4) := fun {w3} {a l c a' l' c'} {os os'} h1 h2 he hl W3 hs => by
    have e1 : os'.length = os.length := by have := congrArg List.length he; rw [bytesOf2_len, bytesOf2_len] at this; exact this.symm
    have := rows_any _ _ os os' W3 ((rsm hs h1).rs (by omega)) ((rsm hs h2).rs (by omega))
    rw [eqR_true he] at this
    exact this
  have hW3 : ∀ {w3 : World} {s' : Lk}, Ld w3 la (fun j => j = la) la id s' → Dq w3 lb id s' → s'.sent ≤ k + 1 → s'.came ≤ k + 1 → s'.vain ≤ k + 1 → Below la w w3 → Hid (∀ W3, Sm w3 W3 → AnI w la lb id (k + 1) W3) := fun A3 D3 t1 t2 t3 B3 W3 hs =>
    ⟨⟨_, A3.below (hs.below _), D3.keep (by rw [hs.heap]), t1, t2, t3⟩, B3.trans (hs.below _)⟩
  cases hp : rdP id zs with
  | none =>
    refine (A.deaf hTW hbW hy hl hp (by omega)).mono ?_
    rintro e w2 ⟨rfl, A2, G2⟩
    have B2 : Below la w w2 := h.b.trans (G2.below hsz fun k hk => by omega)
    have D2 : Dq w2 lb id s := D.keep (G2.block lb D.q.lt (by omega))
    refine ⟨none, 0, 0, none, 0, 0, rfl, B2, ?_⟩
    refine (dhear_no D2 (hb.below (by rw [hw]; exact B2) (Nat.le_refl _)) hy hl hp (by omega)).mono ?_
    rintro e w3 ⟨rfl, D3, G3⟩
    have B3 : Below la w w3 := B2.trans (G3.below (by have := B2.size; omega) fun k hk => by omega)
    have A3 := A2.gr G3 fun j hj e => by omega
    exact ⟨none, 0, 0, none, 0, 0, rfl, B3, eqc (Osl.nil _ _) (Osl.nil _ _) rfl (by simp), eqc (Osl.nil _ _) (Osl.nil _ _) rfl (by simp), hW3 A3 D3 (by show s.sent ≤ _; omega) (by show s.came ≤ _; omega) (by show s.vain + 1 ≤ _; omega) B3⟩
  | some p =>
    obtain ⟨eS, eO⟩ := rest_S D.l D.w0 D.f p
    have hfs : s.first + s.way ≤ 100000000000000 := by rw [D.f, D.w0]; decide
    refine (A.hear hTW hz hbW hy hl p hp (by omega) (by omega) (by omega) hfs).mono ?_
    rintro e w2 ⟨a1, c1, os1, a2, c2, rfl, O1, r1, P1, A2, G2⟩
    have B2 : Below la w w2 := h.b.trans (G2.below hsz fun k hk => by omega)
    have D2 : Dq w2 lb id s := D.keep (G2.block lb D.q.lt (by omega))
    refine ⟨a1, _, c1, a2, _, c2, rfl, B2, ?_⟩
    refine (dhear_yes D2 (hb.below (by rw [hw]; exact B2) (Nat.le_refl _)) hy hl p hp (by omega) (by omega) (by omega)).mono ?_
    rintro e w3 ⟨a3, c3, os3, a4, c4, rfl, O3, r3, P3, D3, G3⟩
    have sz2 : la ≤ w2.heap.size := by have := B2.size; omega
    have B3 : Below la w w3 := B2.trans (G3.below sz2 fun k hk => by omega)
    have A3 := A2.gr G3 fun j hj e => by omega
    obtain ⟨o2, P1a, P1b⟩ := P1
    obtain ⟨o4, P3a, P3b⟩ := P3
    have k1 : Osl w3 la (.slice a1 os1.length c1) os1 := (O1.gr G3 fun j hj e => by have := D.q.lt; omega).mono hsz
    have k2 : Osl w3 la (.slice a2 (s.hearO 16 p).length c2) o2 := (P1a.gr G3 fun j hj e => by have := D.q.lt; omega).mono hsz
    have hlo : o2.length ≤ 100000 := by
      rw [pb_len P1b, eO]
      split <;> simp
    have hl1 : os1.length ≤ 100000 := by
      have := congrArg List.length r1
      rw [bytesOf2_len] at this
      rw [this]
      unfold Lk.rows
      split <;> simp
    refine ⟨a3, _, c3, a4, _, c4, rfl, B3, eqc k1 (O3.mono sz2) (by rw [r1, r3]) hl1, eqc k2 (P3a.mono sz2) (by rw [P1b, P3b]) hlo, hW3 A3 D3 ?_ ?_ ?_ B3⟩
    all_goals
      rw [eS]
      unfold Lk.come Lk.sent1
      split <;> (try split) <;> (try split) <;> first | omega | (simp; omega) | (dsimp; omega)
set_option maxHeartbeats 6400000 in
set_option maxRecDepth 20000 in
theorem anybytes_walk (lv : Value) (rs : List Rw2) (w : World) (hr : Rs w lv rs) (id : Int) (hi : -9223372036854775808 ≤ id ∧ id ≤ 9223372036854775807) (ht : Tab w) :
    Calls Tryd.prog 6 #[lv, .int .i64 id] w fun e w' => e = .returned (.bool true) ∧ Below w.heap.size w w' := by
  have K : Hid (∀ W, Below w.heap.size w W → Calls Tryd.prog 10 #[] W fun e w' => e = .returned (.bool true) ∧ Below w.heap.size w w') := fun W h => (lknown_any W (ht.below h ht.lt)).mono fun e w' ⟨he, hB⟩ => ⟨he, h.trans (hB.mono h.size)⟩
  obtain ⟨ao, cap, rfl, hlen, -⟩ := hr.form
  have HR := hid_into hr
  have hz := hid_into ht.lt
  have hT := hid_into ht
  have hi := hid_into hi
  clear hr ht
  go_enter Tryd.func6, Tryd.ntmps6
  go_wp2_with fail
  go_loopw [5, 6] (fun n i wr => ∃ k : Nat, i = .int .i64 (k : Int) ∧ k ≤ rs.length ∧ n = .int .i64 (hvy ((bytesOf2 rs).take k) : Int) ∧ hvy ((bytesOf2 rs).take k) ≤ 140737488364000 ∧ wr = w) (fun _ i _ => rs.length - (intOf i).toNat)
  case atStart => exact ⟨0, rfl, Nat.zero_le _, rfl, by simp [hvy], rfl⟩
  case round =>
    obtain ⟨k, rfl, hk, rfl, hb, hwr⟩ := hrel
    replace hwr := hwr.symm
    subst hwr
    obtain ⟨N, hN⟩ : ∃ N, N = hvy ((bytesOf2 rs).take k) := ⟨_, rfl⟩
    rw [← hN] at hb ⊢
    by_cases hlt : k < rs.length
    · by_cases hm : N ≤ 8000
      · obtain ⟨b1, o1, ap1, cp1, z1, rfl, hg1, hcell1, hbs1, hby1, hzl⟩ := Rs.get (rs := rs) HR.out hlt
        have f1 : (0 : Int) ≤ (k : Int) := by omega
        have f2 : (k : Int) < (rs.length : Int) := by omega
        have f3 : (N : Int) ≤ 8000 := by omega
        have hN2 : hvy ((bytesOf2 rs).take (k + 1)) = N + 10 + z1.length := by
          rw [take_snoc2 (bytesOf2_get hg1), hvy_app, ← hN]
          simp [hvy]; omega
        have hN2 := hid_into hN2
        have hzl' := hid_into hzl
        clear hg1 hbs1 hby1 hN
        go_wp2_with fail
        go_roundw
        case rel => exact ⟨k + 1, by go_num, by omega, by rw [hN2.out]; go_num, by rw [hN2.out]; have := hzl'.out; omega, trivial⟩
        case measure => simp [intOf]; omega
      · have f1 : (0 : Int) ≤ (k : Int) := by omega
        have f2 : (k : Int) < (rs.length : Int) := by omega
        have f3 : ¬ (N : Int) ≤ 8000 := by omega
        have f4 : (8000 : Int) < (N : Int) := by omega
        clear hN
        go_wp2_with (go_at_call 10; refine (K.out _ (Below.refl _ _)).mono ?_; rintro e w1 ⟨rfl, hB⟩)
        go_ret
        exact ⟨rfl, hB⟩
    · obtain rfl : k = rs.length := by omega
      by_cases hm : N ≤ 8000
      · have hall : N = hvy (bytesOf2 rs) := by rw [hN, List.take_of_length_le (by rw [bytesOf2_len]; exact Nat.le_refl _)]
        have hsm : Hid (∀ r ∈ bytesOf2 rs, r.length ≤ 8000) := fun r hr => by have := hvy_mem hr; omega
        have hn8 : rs.length ≤ 800 := by have := hvy_len (bytesOf2 rs); rw [bytesOf2_len] at this; omega
        have f4 : ¬ (8000 : Int) < (N : Int) := by omega
        clear hN hall hb
        go_wp2_with fail
        refine (Ld.new w w.heap.size (Nat.le_refl _) id hi.out).mono ?_
        rintro e w1 ⟨rfl, A1, B1, s1⟩
        replace s1 := hid_into s1
        have hle1 := hid_into B1.size
        replace B1 := hid_into B1
        replace A1 := hid_into A1
        generalize hla : w.heap.size = la at *
        replace hla := hid_into hla
        go_wp2_with fail
        refine (dnew_any w1 id hi.out).mono ?_
        rintro e w2 ⟨rfl, D2, B2, s2⟩
        have A2 := A1.out.below B2
        have B12 : Below la w w2 := B1.out.trans (B2.mono hle1.out)
        have I0 : Hid (AnI w la w1.heap.size id 0 w2) := ⟨⟨newL, A2, D2, Nat.le_refl _, Nat.le_refl _, Nat.le_refl _⟩, B12⟩
        have hab : Hid (la < w1.heap.size) := by show _ < _; have := s1.out; omega
        clear A1 B1 A2 D2 B2 B12 hle1 s1 s2
        generalize w1.heap.size = lb at *
        go_wp2_with fail
        go_loopw [9] (fun i W => ∃ k : Nat, i = .int .i64 (k : Int) ∧ k ≤ rs.length ∧ AnI w la lb id k W) (fun i _ => rs.length - (intOf i).toNat)
        case atStart => exact ⟨0, rfl, Nat.zero_le _, I0.out⟩
        case round =>
          obtain ⟨k, rfl, hk, I⟩ := hrel
          by_cases hlt : k < rs.length
          · obtain ⟨b1, o1, ap1, cp1, z1, rfl, hg1, hcell1, hbs1, hby1, hzl⟩ := Rs.get (rs := rs) HR.out hlt
            have f1 : (0 : Int) ≤ (k : Int) := by omega
            have f2 : (k : Int) < (rs.length : Int) := by omega
            have hz8 : z1.length ≤ 8000 := hsm.out z1 (List.mem_of_getElem? (bytesOf2_get hg1))
            have C := hid_into (I.hear hab.out hla.out hz.out hT.out (by omega) hbs1 hby1 (by omega))
            have hbl := World.block_lt_of_cell? w _ hcell1
            have hc0 : wr.cell? ⟨b1, o1 + k, none⟩ = some (.slice ap1 z1.length cp1) := by
              rw [← hcell1]
              exact World.cell?_of_block (I.b.block b1 (by rw [← hla.out]; exact hbl))
            have HC : Hid (∀ W, Below la w W → W.cell? ⟨b1, o1 + k, none⟩ = some (.slice ap1 z1.length cp1)) := fun W hW => by
              rw [← hcell1]
              exact World.cell?_of_block (hW.block b1 (by rw [← hla.out]; exact hbl))
            clear I hg1 hcell1 hbs1 hby1 hzl hz8 hbl hn8
            go_wp2_with fail
            refine C.out.mono ?_
            rintro e w3 ⟨a1, l1, c1, a2, l2, c2, rfl, B3, C2⟩
            have hc3 := HC.out w3 B3
            clear hc0 C B3
            go_wp2_with fail
            refine C2.out.mono ?_
            rintro e w4 ⟨a3, l3, c3, a4, l4, c4, rfl, B4, C3, C4, HI⟩
            clear hc3 C2 B4 HC
            go_wp2_with fail
            refine (C3.out w4 (Sm.refl _)).mono ?_
            rintro e w5 ⟨rfl, s5⟩
            clear C3
            go_wp2_with fail
            refine (C4.out w5 s5).mono ?_
            rintro e w6 ⟨rfl, s6⟩
            go_wp2_with fail
            go_roundw
            case rel => exact ⟨k + 1, by go_num, by omega, HI.out _ (s5.trans s6)⟩
            case measure => simp [intOf]; omega
          · obtain rfl : k = rs.length := by omega
            obtain ⟨s, A, D, _⟩ := I.s
            have ST := hid_into A.stats
            have dv := hid_into D.cells.2.2.2.2.2.2.1
            have IB := hid_into I.b
            clear I A D
            go_wp2_with (first
              | (go_at_call 23; refine ST.out.mono ?_; rintro e w3 ⟨rfl, s3⟩; have dv3 := s3.cell dv.out)
              | (go_at_call 10; refine (K.out _ (IB.out.trans (s3.below _))).mono ?_; rintro e w4 ⟨rfl, hB4⟩))
            go_ret
            exact ⟨rfl, by rw [hla.out]; exact hB4⟩
      · have f4 : (8000 : Int) < (N : Int) := by omega
        clear hN
        go_wp2_with (go_at_call 10; refine (K.out _ (Below.refl _ _)).mono ?_; rintro e w1 ⟨rfl, hB⟩)
        go_ret
        exact ⟨rfl, hB⟩
end Go.Proofs.YtahodgmdikaedaaDoor
