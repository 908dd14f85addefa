/-
  FixedTexts, walked.
-/
import Derived.Test.YtfciaohicbchgaaDoorAgree
import Derived.Test.YtfciaohicbchgaaDoorKnown
namespace Go.Proofs.YtfciaohicbchgaaDoor
open Go.RowKit
theorem text_len (a : Int) (ha : In32 a) : (textS a).length ≤ 1000 := by
  have h1 := ha.1; have h2 := ha.2
  obtain ⟨_, l2⟩ := dec_few (a.natAbs / 65536) (by omega)
  have hlen : ((hexS (a.natAbs % 65536)).drop 1).length = 4 := rfl
  rw [textS_body, List.length_append, bodyS, List.length_append, List.length_cons, hlen]
  split <;> simp <;> omega
set_option maxHeartbeats 4000000 in
theorem texts_walk (a : Int) (s : List UInt8) (ha : In32 a) (w : World) (h : TbT w) : Calls Tryd.prog 4 #[.int .i32 a, .string ⟨s.toArray⟩] w fun e w' => e = .returned (.bool true) ∧ Below w.heap.size w w' := by
  have zs : (⟨s.toArray⟩ : ByteArray).size = s.length := by simp [ByteArray.size]
  by_cases hl : 500 < s.length
  · have i5 : (500 : Int) < (s.length : Int) := by omega
    generalize s.length = n at *
    clear hl h
    go_enter Tryd.func4, Tryd.ntmps4
    go_wp2
    go_ret
    exact ⟨rfl, Below.refl _ _⟩
  have T1 := Text_any a ha w h.tb
  have T2 := RefText_any a ha
  have P1 := fun (w1 : World) (hb : Below w.heap.size w w1) => Parse_any (textS a) (text_len a ha) w1 (h.below hb (Nat.le_refl _))
  have P2 := fun (w1 : World) (hb : Below w.heap.size w w1) => Parse_any s (by omega) w1 (h.below hb (Nat.le_refl _))
  have P3 := RefParse_any s (by omega)
  have K := fun (w1 : World) (hb : Below w.heap.size w w1) => known_any w1 (h.below hb (Nat.le_refl _)).tb
  rw [parseS_text a ha] at P1
  have i5 : ¬ (500 : Int) < (s.length : Int) := by omega
  generalize (parseS s).1 = y at *
  generalize (parseS s).2 = g at *
  generalize textS a = t at *
  generalize s.length = n at *
  clear hl h
  go_enter Tryd.func4, Tryd.ntmps4
  go_wp2_with (first
    | (go_at_call 20; refine T1.mono ?_; rintro e w1 ⟨rfl, B1⟩)
    | (go_at_call_of 21 (Value.string ⟨t.toArray⟩); refine (P1 _ B1).mono ?_; rintro e w2 ⟨rfl, B2⟩; replace B1 := B1.trans (B2.mono B1.size))
    | (go_at_call 21; refine (P2 _ B1).mono ?_; rintro e w2 ⟨rfl, B2⟩; replace B1 := B1.trans (B2.mono B1.size))
    | (go_at_call 22; refine (P3 _).mono ?_; rintro e w2 ⟨rfl, B2⟩; replace B1 := B1.trans (B2.mono B1.size))
    | (go_at_call 23; refine (T2 _).mono ?_; rintro e w2 ⟨rfl, B2⟩; replace B1 := B1.trans (B2.mono B1.size))
    | (go_at_call 19; refine (K _ B1).mono ?_; rintro e w2 ⟨rfl, B2⟩; replace B1 := B1.trans (B2.mono B1.size)))
  go_ret
  exact ⟨rfl, B1⟩
end Go.Proofs.YtfciaohicbchgaaDoor
