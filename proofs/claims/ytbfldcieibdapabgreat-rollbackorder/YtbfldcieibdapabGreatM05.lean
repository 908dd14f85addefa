/-
  Joined from: VmOps.
-/
import Derived.Test.YtbfldcieibdapabGreatM04
import Derived.Deep.RegionHeld3
section
/-
  The machine's instructions, each by a contract: what opP says.
-/
namespace Go.Proofs.YtbfldcieibdapabGreat
open Go.RowKit
variable {cv : Value} {i0 i1 fr : Int} {p : Pm} {w w' : World} {g : Nat}
/-- Only block g, and new ones, may have changed. -/
abbrev Gg (g : Nat) (w w' : World) : Prop := Grows (fun k => k = g) w w'
theorem Only.gg (h : Only g w w') : Gg g w w' := ⟨h.os, h.tape, h.output, by rw [h.size]; exact Nat.le_refl _, fun k _ hk => h.block k hk⟩
theorem Gg.trans {a b c : World} (h : Gg g a b) (k : Gg g b c) : Gg g a c := Grows.trans h k fun _ e => Or.inl e
theorem Below.gg (h : Below w.heap.size w w') : Gg g w w' := ⟨h.os, h.tape, h.output, h.size, fun k hk _ => h.block k hk⟩
theorem Gg.drewN (h : Gg g w w') (n : Nat) : Gg g w (w'.drewN n) := ⟨h.os, h.tape, h.output, h.size, h.block⟩
theorem Gg.drew (h : Gg g w w') : Gg g w w'.drew := ⟨h.os, h.tape, h.output, h.size, h.block⟩
theorem Mw.below (h : Mw w g cv i0 i1 fr p) (hb : Below w.heap.size w w') : Mw w' g cv i0 i1 fr p := h.keep (hb.block g h.lt)
theorem told_any (b : Bool) (w : World) : Calls Tryz.prog 134 #[.bool b] w fun e w' => e = .returned (.int .i32 (truI b)) ∧ w' = w := by
  cases b
  · go_enter Tryz.func134, Tryz.ntmps134
    go_wp2
    go_ret
    exact ⟨rfl, rfl⟩
  · go_enter Tryz.func134, Tryz.ntmps134
    go_wp2
    go_ret
    exact ⟨rfl, rfl⟩
theorem isLess_any (b a : Int) (w : World) : Calls Tryz.prog 130 #[.int .i32 b, .int .i32 a] w fun e w' => e = .returned (.int .i32 (twoI 10 b a)) ∧ w' = w := by
  have HT : Hid (twoI 10 b a = truI (decide (b < a))) := rfl
  go_enter Tryz.func130, Tryz.ntmps130
  go_wp2_with (go_at_call 134; refine (told_any _ _).mono ?_; rintro e w1 ⟨rfl, rfl⟩)
  go_ret
  exact ⟨by rw [HT.out]; rfl, rfl⟩
theorem isSame_any (b a : Int) (w : World) : Calls Tryz.prog 131 #[.int .i32 b, .int .i32 a] w fun e w' => e = .returned (.int .i32 (truI (decide (b = a)))) ∧ w' = w := by
  have HT : Hid ((b == a) = decide (b = a)) := rfl
  go_enter Tryz.func131, Tryz.ntmps131
  go_wp2_with (go_at_call 134; refine (told_any _ _).mono ?_; rintro e w1 ⟨rfl, rfl⟩)
  go_ret
  exact ⟨by rfl, rfl⟩
theorem lesser_any (b a : Int) (w : World) : Calls Tryz.prog 128 #[.int .i32 b, .int .i32 a] w fun e w' => e = .returned (.int .i32 (twoI 8 b a)) ∧ w' = w := by
  have HT : Hid (twoI 8 b a = if b ≤ a then b else a) := rfl
  by_cases h : b ≤ a
  · have HT2 := hid_into (HT.out.trans (if_pos h))
    go_enter Tryz.func128, Tryz.ntmps128
    go_wp2
    go_ret
    exact ⟨by rw [HT2.out]; rfl, rfl⟩
  · have HT2 := hid_into (HT.out.trans (if_neg h))
    go_enter Tryz.func128, Tryz.ntmps128
    go_wp2
    go_ret
    exact ⟨by rw [HT2.out]; rfl, rfl⟩
theorem greater_any (b a : Int) (w : World) : Calls Tryz.prog 129 #[.int .i32 b, .int .i32 a] w fun e w' => e = .returned (.int .i32 (twoI 9 b a)) ∧ w' = w := by
  have HT : Hid (twoI 9 b a = if b < a then a else b) := rfl
  by_cases h : b < a
  · have HT2 := hid_into (HT.out.trans (if_pos h))
    go_enter Tryz.func129, Tryz.ntmps129
    go_wp2
    go_ret
    exact ⟨by rw [HT2.out]; rfl, rfl⟩
  · have HT2 := hid_into (HT.out.trans (if_neg h))
    go_enter Tryz.func129, Tryz.ntmps129
    go_wp2
    go_ret
    exact ⟨by rw [HT2.out]; rfl, rfl⟩
/-- The function that joins two numbers, by the op. -/
def joinF : Nat → Nat
  | 4 => 124
  | 5 => 125
  | 6 => 126
  | 7 => 127
  | 8 => 128
  | 9 => 129
  | 10 => 130
  | _ => 131
theorem enters_join (n : Nat) : ∀ args w, (callFunc (joinF n) args).run Tryz.prog w = .ok (.enter (joinF n) args) w := by
  unfold joinF
  split
  · exact enters_of Tryz.func124 (by kernel_rfl) rfl
  · exact enters_of Tryz.func125 (by kernel_rfl) rfl
  · exact enters_of Tryz.func126 (by kernel_rfl) rfl
  · exact enters_of Tryz.func127 (by kernel_rfl) rfl
  · exact enters_of Tryz.func128 (by kernel_rfl) rfl
  · exact enters_of Tryz.func129 (by kernel_rfl) rfl
  · exact enters_of Tryz.func130 (by kernel_rfl) rfl
  · exact enters_of Tryz.func131 (by kernel_rfl) rfl
theorem joined_any : ∀ (n : Nat), 4 ≤ n → n ≤ 11 → ∀ (b a : Int), In32 b → In32 a → ∀ w, Calls Tryz.prog (joinF n) #[.int .i32 b, .int .i32 a] w fun e w' => e = .returned (.int .i32 (twoI n b a)) ∧ Below w.heap.size w w'
  | 4, _, _, b, a, hb, ha, w => Add_any b a hb ha w
  | 5, _, _, b, a, hb, ha, w => Sub_any b a hb ha w
  | 6, _, _, b, a, hb, ha, w => Mul_any b a hb ha w
  | 7, _, _, b, a, hb, ha, w => Div_any b a hb ha w
  | 8, _, _, b, a, _, _, w => (lesser_any b a w).mono fun _ _ h => ⟨h.1, by rw [h.2]; exact Below.refl _ _⟩
  | 9, _, _, b, a, _, _, w => (greater_any b a w).mono fun _ _ h => ⟨h.1, by rw [h.2]; exact Below.refl _ _⟩
  | 10, _, _, b, a, _, _, w => (isLess_any b a w).mono fun _ _ h => ⟨h.1, by rw [h.2]; exact Below.refl _ _⟩
  | 11, _, _, b, a, _, _, w => (isSame_any b a w).mono fun _ _ h => ⟨h.1, by rw [h.2]; exact Below.refl _ _⟩
  | 0, h, _, _, _, _, _, _ => absurd h (by omega)
  | 1, h, _, _, _, _, _, _ => absurd h (by omega)
  | 2, h, _, _, _, _, _, _ => absurd h (by omega)
  | 3, h, _, _, _, _, _, _ => absurd h (by omega)
  | n + 12, _, h, _, _, _, _, _ => absurd h (by omega)
set_option maxHeartbeats 1000000 in
theorem join_any (n : Nat) (h4 : 4 ≤ n) (h11 : n ≤ 11) (h : Mw w g cv i0 i1 fr p) :
    Calls Tryz.prog 123 #[.pointer (some ⟨g, 0, none⟩), .func (.func (joinF n)) #[] #[]] w fun e w' => e = .returned (.tuple #[]) ∧ Mw w' g cv i0 i1 fr (p.join n) ∧ Gg g w w' := by
  have H := hid_into h
  have hent := enters_join n
  have HJ : ∀ (b a : Int), Hid (In32 b) → Hid (In32 a) → ∀ w, Calls Tryz.prog (joinF n) #[.int .i32 b, .int .i32 a] w fun e w' => e = .returned (.int .i32 (twoI n b a)) ∧ Below w.heap.size w w' := fun b a hb ha => joined_any n h4 h11 b a hb.out ha.out
  generalize joinF n = fm at hent HJ ⊢
  have HP : Hid (∀ v, v = twoI n p.take.top p.top → p.take.take.lay v = p.join n) := fun v hv => by rw [hv]; rfl
  clear h
  have t1 := hid_into H.out.wf.top
  have t2 := hid_into H.out.wf.take.top
  go_enter Tryz.func123, Tryz.ntmps123
  go_wp2_with (first
    | (go_at_call 122; refine (take_any H.out).mono ?_; rintro e w1 ⟨rfl, H1, O1⟩; have H1' := hid_into H1; clear H H1)
    | (go_at_call 122; refine (take_any H1'.out).mono ?_; rintro e w2 ⟨rfl, H2, O2⟩; have H2' := hid_into H2; clear H2)
    | (go_at_fn fm; refine (HJ _ _ t2 t1 _).mono ?_; rintro e w3 ⟨rfl, B3⟩)
    | (go_at_call 121; refine (lay_any _ (twoI_in t2.out t1.out) (H2'.out.below B3)).mono ?_; rintro e w4 ⟨rfl, H4, O4⟩))
  go_end0
  exact ⟨rfl, H4, ((O1.gg.trans O2.gg).trans (Below.gg B3)).trans O4.gg⟩
set_option maxHeartbeats 1000000 in
theorem push_any (a : Int) (ha : In32 a) (h : Mw w g cv i0 i1 fr p) :
    Calls Tryz.prog 94 #[.pointer (some ⟨g, 0, none⟩), .int .i64 a] w fun e w' => e = .returned (.tuple #[]) ∧ Mw w' g cv i0 i1 fr (p.lay a) ∧ Gg g w w' := by
  have H := hid_into h
  have h1 := ha.1; have h2 := ha.2
  have HA := hid_into ha
  have e1 : IntKind.i32.wrap a = a := by rw [IntKind.wrap_i32]; omega
  clear h ha
  go_enter Tryz.func94, Tryz.ntmps94
  go_wp2_with (go_at_call 121; refine (lay_any _ HA.out H.out).mono ?_; rintro e w1 ⟨rfl, H1, O1⟩)
  go_end0
  exact ⟨rfl, H1, O1.gg⟩
set_option maxHeartbeats 1000000 in
theorem load_any (k : Nat) (hk : k < 16) (h : Mw w g cv i0 i1 fr p) :
    Calls Tryz.prog 95 #[.pointer (some ⟨g, 0, none⟩), .int .i64 (k : Int)] w fun e w' => e = .returned (.tuple #[]) ∧ Mw w' g cv i0 i1 fr (p.lay (p.cells.getD k 0)) ∧ Gg g w w' := by
  have H := hid_into h
  have c1 := h.cell k hk
  have HV := hid_into (getD_in h.wf.cin k)
  clear h
  generalize p.cells.getD k 0 = v at c1 HV ⊢
  go_enter Tryz.func95, Tryz.ntmps95
  go_wp2_with (go_at_call 121; refine (lay_any _ HV.out H.out).mono ?_; rintro e w1 ⟨rfl, H1, O1⟩)
  go_end0
  exact ⟨rfl, H1, O1.gg⟩
set_option maxHeartbeats 1000000 in
theorem addI_any (a : Int) (h : Mw w g cv i0 i1 fr p) :
    Calls Tryz.prog 97 #[.pointer (some ⟨g, 0, none⟩), .int .i64 a] w fun e w' => e = .returned (.tuple #[]) ∧ Mw w' g cv i0 i1 fr (p.join 4) ∧ Gg g w w' := by
  have H := hid_into h
  clear h
  go_enter Tryz.func97, Tryz.ntmps97
  go_wp2_with (go_at_call 123; refine (join_any 4 (by omega) (by omega) H.out).mono ?_; rintro e w1 ⟨rfl, H1, O1⟩)
  go_end0
  exact ⟨rfl, H1, O1⟩
set_option maxHeartbeats 1000000 in
theorem subI_any (a : Int) (h : Mw w g cv i0 i1 fr p) :
    Calls Tryz.prog 98 #[.pointer (some ⟨g, 0, none⟩), .int .i64 a] w fun e w' => e = .returned (.tuple #[]) ∧ Mw w' g cv i0 i1 fr (p.join 5) ∧ Gg g w w' := by
  have H := hid_into h
  clear h
  go_enter Tryz.func98, Tryz.ntmps98
  go_wp2_with (go_at_call 123; refine (join_any 5 (by omega) (by omega) H.out).mono ?_; rintro e w1 ⟨rfl, H1, O1⟩)
  go_end0
  exact ⟨rfl, H1, O1⟩
set_option maxHeartbeats 1000000 in
theorem mulI_any (a : Int) (h : Mw w g cv i0 i1 fr p) :
    Calls Tryz.prog 99 #[.pointer (some ⟨g, 0, none⟩), .int .i64 a] w fun e w' => e = .returned (.tuple #[]) ∧ Mw w' g cv i0 i1 fr (p.join 6) ∧ Gg g w w' := by
  have H := hid_into h
  clear h
  go_enter Tryz.func99, Tryz.ntmps99
  go_wp2_with (go_at_call 123; refine (join_any 6 (by omega) (by omega) H.out).mono ?_; rintro e w1 ⟨rfl, H1, O1⟩)
  go_end0
  exact ⟨rfl, H1, O1⟩
set_option maxHeartbeats 1000000 in
theorem divI_any (a : Int) (h : Mw w g cv i0 i1 fr p) :
    Calls Tryz.prog 100 #[.pointer (some ⟨g, 0, none⟩), .int .i64 a] w fun e w' => e = .returned (.tuple #[]) ∧ Mw w' g cv i0 i1 fr (p.join 7) ∧ Gg g w w' := by
  have H := hid_into h
  clear h
  go_enter Tryz.func100, Tryz.ntmps100
  go_wp2_with (go_at_call 123; refine (join_any 7 (by omega) (by omega) H.out).mono ?_; rintro e w1 ⟨rfl, H1, O1⟩)
  go_end0
  exact ⟨rfl, H1, O1⟩
set_option maxHeartbeats 1000000 in
theorem minI_any (a : Int) (h : Mw w g cv i0 i1 fr p) :
    Calls Tryz.prog 101 #[.pointer (some ⟨g, 0, none⟩), .int .i64 a] w fun e w' => e = .returned (.tuple #[]) ∧ Mw w' g cv i0 i1 fr (p.join 8) ∧ Gg g w w' := by
  have H := hid_into h
  clear h
  go_enter Tryz.func101, Tryz.ntmps101
  go_wp2_with (go_at_call 123; refine (join_any 8 (by omega) (by omega) H.out).mono ?_; rintro e w1 ⟨rfl, H1, O1⟩)
  go_end0
  exact ⟨rfl, H1, O1⟩
set_option maxHeartbeats 1000000 in
theorem maxI_any (a : Int) (h : Mw w g cv i0 i1 fr p) :
    Calls Tryz.prog 102 #[.pointer (some ⟨g, 0, none⟩), .int .i64 a] w fun e w' => e = .returned (.tuple #[]) ∧ Mw w' g cv i0 i1 fr (p.join 9) ∧ Gg g w w' := by
  have H := hid_into h
  clear h
  go_enter Tryz.func102, Tryz.ntmps102
  go_wp2_with (go_at_call 123; refine (join_any 9 (by omega) (by omega) H.out).mono ?_; rintro e w1 ⟨rfl, H1, O1⟩)
  go_end0
  exact ⟨rfl, H1, O1⟩
set_option maxHeartbeats 1000000 in
theorem lessI_any (a : Int) (h : Mw w g cv i0 i1 fr p) :
    Calls Tryz.prog 103 #[.pointer (some ⟨g, 0, none⟩), .int .i64 a] w fun e w' => e = .returned (.tuple #[]) ∧ Mw w' g cv i0 i1 fr (p.join 10) ∧ Gg g w w' := by
  have H := hid_into h
  clear h
  go_enter Tryz.func103, Tryz.ntmps103
  go_wp2_with (go_at_call 123; refine (join_any 10 (by omega) (by omega) H.out).mono ?_; rintro e w1 ⟨rfl, H1, O1⟩)
  go_end0
  exact ⟨rfl, H1, O1⟩
set_option maxHeartbeats 1000000 in
theorem sameI_any (a : Int) (h : Mw w g cv i0 i1 fr p) :
    Calls Tryz.prog 104 #[.pointer (some ⟨g, 0, none⟩), .int .i64 a] w fun e w' => e = .returned (.tuple #[]) ∧ Mw w' g cv i0 i1 fr (p.join 11) ∧ Gg g w w' := by
  have H := hid_into h
  clear h
  go_enter Tryz.func104, Tryz.ntmps104
  go_wp2_with (go_at_call 123; refine (join_any 11 (by omega) (by omega) H.out).mono ?_; rintro e w1 ⟨rfl, H1, O1⟩)
  go_end0
  exact ⟨rfl, H1, O1⟩
set_option maxHeartbeats 1000000 in
theorem notI_any (a : Int) (h : Mw w g cv i0 i1 fr p) :
    Calls Tryz.prog 105 #[.pointer (some ⟨g, 0, none⟩), .int .i64 a] w fun e w' => e = .returned (.tuple #[]) ∧ Mw w' g cv i0 i1 fr (p.take.lay (truI (decide (p.top = 0)))) ∧ Gg g w w' := by
  have H := hid_into h
  clear h
  have t1 := hid_into (truI_in (decide (p.top = 0)))
  have HS := fun W => isSame_any p.top 0 W
  generalize truI (decide (p.top = 0)) = v at HS t1 ⊢
  go_enter Tryz.func105, Tryz.ntmps105
  go_wp2_with (first
    | (go_at_call 122; refine (take_any H.out).mono ?_; rintro e w1 ⟨rfl, H1, O1⟩; have H1' := hid_into H1; clear H H1)
    | (go_at_call 131; refine (HS _).mono ?_; rintro e w2 ⟨rfl, rfl⟩)
    | (go_at_call 121; refine (lay_any _ t1.out H1'.out).mono ?_; rintro e w4 ⟨rfl, H4, O4⟩))
  go_end0
  exact ⟨rfl, H4, O1.gg.trans O4.gg⟩
set_option maxHeartbeats 1000000 in
theorem dup_any (a : Int) (h : Mw w g cv i0 i1 fr p) :
    Calls Tryz.prog 106 #[.pointer (some ⟨g, 0, none⟩), .int .i64 a] w fun e w' => e = .returned (.tuple #[]) ∧ Mw w' g cv i0 i1 fr ((p.take.lay p.top).lay p.top) ∧ Gg g w w' := by
  have H := hid_into h
  clear h
  have t1 := hid_into H.out.wf.top
  go_enter Tryz.func106, Tryz.ntmps106
  go_wp2_with (first
    | (go_at_call 122; refine (take_any H.out).mono ?_; rintro e w1 ⟨rfl, H1, O1⟩; have H1' := hid_into H1; clear H H1)
    | (go_at_call 121; refine (lay_any _ t1.out H1'.out).mono ?_; rintro e w2 ⟨rfl, H2, O2⟩; have H2' := hid_into H2; clear H1' H2)
    | (go_at_call 121; refine (lay_any _ t1.out H2'.out).mono ?_; rintro e w4 ⟨rfl, H4, O4⟩))
  go_end0
  exact ⟨rfl, H4, (O1.gg.trans O2.gg).trans O4.gg⟩
set_option maxHeartbeats 1000000 in
theorem swap_any (a : Int) (h : Mw w g cv i0 i1 fr p) :
    Calls Tryz.prog 107 #[.pointer (some ⟨g, 0, none⟩), .int .i64 a] w fun e w' => e = .returned (.tuple #[]) ∧ Mw w' g cv i0 i1 fr ((p.take.take.lay p.top).lay p.take.top) ∧ Gg g w w' := by
  have H := hid_into h
  clear h
  have t1 := hid_into H.out.wf.top
  have t2 := hid_into H.out.wf.take.top
  go_enter Tryz.func107, Tryz.ntmps107
  go_wp2_with (first
    | (go_at_call 122; refine (take_any H.out).mono ?_; rintro e w1 ⟨rfl, H1, O1⟩; have H1' := hid_into H1; clear H H1)
    | (go_at_call 122; refine (take_any H1'.out).mono ?_; rintro e w2 ⟨rfl, H2, O2⟩; have H2' := hid_into H2; clear H1' H2)
    | (go_at_call 121; refine (lay_any _ t1.out H2'.out).mono ?_; rintro e w3 ⟨rfl, H3, O3⟩; have H3' := hid_into H3; clear H2' H3)
    | (go_at_call 121; refine (lay_any _ t2.out H3'.out).mono ?_; rintro e w4 ⟨rfl, H4, O4⟩))
  go_end0
  exact ⟨rfl, H4, ((O1.gg.trans O2.gg).trans O3.gg).trans O4.gg⟩
set_option maxHeartbeats 1000000 in
theorem drop_any (a : Int) (h : Mw w g cv i0 i1 fr p) :
    Calls Tryz.prog 108 #[.pointer (some ⟨g, 0, none⟩), .int .i64 a] w fun e w' => e = .returned (.tuple #[]) ∧ Mw w' g cv i0 i1 fr (p.take) ∧ Gg g w w' := by
  have H := hid_into h
  clear h
  go_enter Tryz.func108, Tryz.ntmps108
  go_wp2_with (go_at_call 122; refine (take_any H.out).mono ?_; rintro e w1 ⟨rfl, H1, O1⟩)
  go_end0
  exact ⟨rfl, H1, O1.gg⟩
set_option maxHeartbeats 1000000 in
theorem input0_any (hi : Ins3 fr i0 i1) (h : Mw w g cv i0 i1 fr p) :
    Calls Tryz.prog 109 #[.pointer (some ⟨g, 0, none⟩), .int .i64 0] w fun e w' => e = .returned (.tuple #[]) ∧ Mw w' g cv i0 i1 fr (p.lay i0) ∧ Gg g w w' := by
  have H := hid_into h
  have c1 := h.in0
  have h1 := hi.i0.1; have h2 := hi.i0.2
  have HA : Hid (In32 i0) := ⟨by omega, by omega⟩
  clear h hi
  go_enter Tryz.func109, Tryz.ntmps109
  go_wp2_with (go_at_call 121; refine (lay_any _ HA.out H.out).mono ?_; rintro e w1 ⟨rfl, H1, O1⟩)
  go_end0
  exact ⟨rfl, H1, O1.gg⟩
set_option maxHeartbeats 1000000 in
theorem input1_any (hi : Ins3 fr i0 i1) (h : Mw w g cv i0 i1 fr p) :
    Calls Tryz.prog 109 #[.pointer (some ⟨g, 0, none⟩), .int .i64 1] w fun e w' => e = .returned (.tuple #[]) ∧ Mw w' g cv i0 i1 fr (p.lay i1) ∧ Gg g w w' := by
  have H := hid_into h
  have c1 := h.in1
  have h1 := hi.i1.1; have h2 := hi.i1.2
  have HA : Hid (In32 i1) := ⟨by omega, by omega⟩
  clear h hi
  go_enter Tryz.func109, Tryz.ntmps109
  go_wp2_with (go_at_call 121; refine (lay_any _ HA.out H.out).mono ?_; rintro e w1 ⟨rfl, H1, O1⟩)
  go_end0
  exact ⟨rfl, H1, O1.gg⟩
set_option maxHeartbeats 1000000 in
theorem frame_any (hi : Ins3 fr i0 i1) (a : Int) (h : Mw w g cv i0 i1 fr p) :
    Calls Tryz.prog 110 #[.pointer (some ⟨g, 0, none⟩), .int .i64 a] w fun e w' => e = .returned (.tuple #[]) ∧ Mw w' g cv i0 i1 fr (p.lay fr) ∧ Gg g w w' := by
  have H := hid_into h
  have c1 := h.frame
  have h1 := hi.fr.1; have h2 := hi.fr.2
  have HA : Hid (In32 fr) := ⟨by omega, by omega⟩
  clear h hi
  go_enter Tryz.func110, Tryz.ntmps110
  go_wp2_with (go_at_call 121; refine (lay_any _ HA.out H.out).mono ?_; rintro e w1 ⟨rfl, H1, O1⟩)
  go_end0
  exact ⟨rfl, H1, O1.gg⟩
set_option maxHeartbeats 1000000 in
theorem jump_any (a : Int) (h : Mw w g cv i0 i1 fr p) :
    Calls Tryz.prog 111 #[.pointer (some ⟨g, 0, none⟩), .int .i64 a] w fun e w' => e = .returned (.tuple #[]) ∧ Mw w' g cv i0 i1 fr ({ p with pc := a }) ∧ Gg g w w' := by
  have H := hid_into (h.setPc a)
  have c1 := h.pc
  have f1 := h.row.frozen 56
  clear h
  go_enter Tryz.func111, Tryz.ntmps111
  go_wp2
  go_end0
  exact ⟨rfl, H.out, (Only.set _ _ _ _).gg⟩
set_option maxHeartbeats 1000000 in
theorem zero_any (a : Int) (h : Mw w g cv i0 i1 fr p) :
    Calls Tryz.prog 112 #[.pointer (some ⟨g, 0, none⟩), .int .i64 a] w fun e w' => e = .returned (.tuple #[]) ∧ Mw w' g cv i0 i1 fr (if p.top = 0 then { p.take with pc := a } else p.take) ∧ Gg g w w' := by
  have H := hid_into h
  clear h
  by_cases ht : p.top = 0
  · rw [if_pos ht]
    have HT : Hid (∀ W, Mw W g cv i0 i1 fr p → Calls Tryz.prog 122 #[.pointer (some ⟨g, 0, none⟩)] W fun e w' => e = .returned (.int .i32 0) ∧ Mw w' g cv i0 i1 fr p.take ∧ Only g W w') := fun W hW => by have := take_any hW; rwa [ht] at this
    go_enter Tryz.func112, Tryz.ntmps112
    go_wp2_with (first
      | (go_at_call 122; refine (HT.out _ H.out).mono ?_; rintro e w1 ⟨rfl, H1, O1⟩; have H1' := hid_into H1; clear H H1)
      | (go_at_call 111; refine (jump_any a H1'.out).mono ?_; rintro e w2 ⟨rfl, H2, O2⟩))
    go_end0
    exact ⟨rfl, H2, O1.gg.trans O2⟩
  · rw [if_neg ht]
    have ht2 : (p.top == 0) = false := by simp [ht]
    go_enter Tryz.func112, Tryz.ntmps112
    go_wp2_with (go_at_call 122; refine (take_any H.out).mono ?_; rintro e w1 ⟨rfl, H1, O1⟩; have H1' := hid_into H1; clear H H1)
    go_end0
    exact ⟨rfl, H1'.out, O1.gg⟩
set_option maxHeartbeats 1000000 in
theorem halt_any (a : Int) (ao : Option Addr) (n cap : Nat) (h : Mw w g (.slice ao n cap) i0 i1 fr p) :
    Calls Tryz.prog 115 #[.pointer (some ⟨g, 0, none⟩), .int .i64 a] w fun e w' => e = .returned (.tuple #[]) ∧ Mw w' g (.slice ao n cap) i0 i1 fr { p with pc := (n : Int) } ∧ Gg g w w' := by
  have H := hid_into (h.setPc (n : Int))
  have c0 := h.code
  have c1 := h.pc
  have f1 := h.row.frozen 56
  clear h
  go_enter Tryz.func115, Tryz.ntmps115
  go_wp2
  go_end0
  exact ⟨rfl, H.out, (Only.set _ _ _ _).gg⟩
set_option maxHeartbeats 1000000 in
theorem win_any (a : Int) (ao : Option Addr) (n cap : Nat) (h : Mw w g (.slice ao n cap) i0 i1 fr p) :
    Calls Tryz.prog 113 #[.pointer (some ⟨g, 0, none⟩), .int .i64 a] w fun e w' => e = .returned (.tuple #[]) ∧ Mw w' g (.slice ao n cap) i0 i1 fr { p with over := true, win := a, pc := (n : Int) } ∧ Gg g w w' := by
  have H := hid_into ((h.setOver true).setWin a)
  have c1 := h.over
  have c2 := h.win
  have f1 := h.row.frozen 21
  have f2 := h.row.frozen 22
  clear h
  go_enter Tryz.func113, Tryz.ntmps113
  go_wp2_with (go_at_call 115; refine (halt_any a ao n cap H.out).mono ?_; rintro e w1 ⟨rfl, H1, O1⟩)
  go_end0
  exact ⟨rfl, H1, ((Only.set _ _ _ _).gg.trans (Only.set _ _ _ _).gg).trans O1⟩
theorem and16 (x : Int) (h : 0 ≤ x ∧ x < 4294967296) : bits .and .u32 x 65535 = x % 65536 := by
  obtain ⟨a, rfl⟩ := Int.eq_ofNat_of_zero_le h.1
  have := u32_and_nat a 65535 (by omega) (by omega)
  rw [show ((65535 : Nat) : Int) = 65535 from rfl] at this
  rw [this, show 65535 = 2 ^ 16 - 1 from rfl, Nat.and_two_pow_sub_one_eq_mod]
  omega
set_option maxHeartbeats 1000000 in
theorem rand_any (a : Int) (h : Mw w g cv i0 i1 fr p) :
    Calls Tryz.prog 114 #[.pointer (some ⟨g, 0, none⟩), .int .i64 a] w fun e w' => e = .returned (.tuple #[]) ∧ Mw w' g cv i0 i1 fr (({ p with seed := rndI p.seed } : Pm).lay (rndI p.seed % 65536)) ∧ Gg g w w' := by
  have hs := rndI_in h.wf.seed
  have h0 := h.wf.seed
  have H := hid_into (h.setSeed (rndI p.seed) hs)
  have c1 := h.seed
  have f1 := h.row.frozen 20
  have HW : wrap32 (bits .and .u32 (rndI p.seed) 65535) = rndI p.seed % 65536 := by
    rw [and16 _ hs]; unfold wrap32; omega
  have HC := lay_any (rndI p.seed % 65536) (show In32 _ from ⟨by omega, by omega⟩) H.out
  rw [← HW] at HC ⊢
  have HC' := hid_into HC
  clear h HC HW
  go_enter Tryz.func114, Tryz.ntmps114
  go_wp2_with (go_at_call 121; refine HC'.out.mono ?_; rintro e w1 ⟨rfl, H1, O1⟩)
  go_end0
  exact ⟨rfl, H1, (Only.set _ _ _ _).gg.trans O1.gg⟩
end Go.Proofs.YtbfldcieibdapabGreat
end
