/-
  What texts want of the program's variables (TbT); strconv.ParseUint at ten and at sixteen, as answers; a text read (readS).
-/
import Derived.Test.YtfciaohicbchgaaDoorPuIn
import Derived.Test.YtfciaohicbchgaaDoorFmt
namespace Go.Proofs.YtfciaohicbchgaaDoor
open Go.Shelf Go.RowKit
structure TbT (w : World) : Prop where
  tb : Tb w
  es : ∃ te pe, w.cell? ⟨2, 0, none⟩ = some (.iface te pe)
  er : ∃ te pe, w.cell? ⟨3, 0, none⟩ = some (.iface te pe)
  ml : ∃ m, w.cell? ⟨1, 0, none⟩ = some (.int .i64 m)
theorem TbT.below {w w' : World} (h : TbT w) {B : Nat} (hb : Below B w w') (hB : w.heap.size ≤ B) : TbT w' := by
  have hs := h.tb.sz
  refine ⟨h.tb.below hb hB, ?_, ?_, ?_⟩
  · obtain ⟨te, pe, e⟩ := h.es
    exact ⟨te, pe, (hb.cell (p := ⟨2, 0, none⟩) (by show 2 < B; omega)).trans e⟩
  · obtain ⟨te, pe, e⟩ := h.er
    exact ⟨te, pe, (hb.cell (p := ⟨3, 0, none⟩) (by show 3 < B; omega)).trans e⟩
  · obtain ⟨m, e⟩ := h.ml
    exact ⟨m, (hb.cell (p := ⟨1, 0, none⟩) (by show 1 < B; omega)).trans e⟩
def okOf : Lib.NumEnd Nat → Option Nat
  | .ok u => some u
  | _ => none
def hexP (l : List UInt8) : Option Nat := if l = [] then none else okOf (hexM 0 l)
def decP (l : List UInt8) : Option Nat := okOf (Lib.parseUintB 32 l)
/-- What ParseUint answers: a number and no error, or an error. -/
def Pans (o : Option Nat) (e : Ending) : Prop := match o with
  | some u => e = .returned (.tuple #[.int .u64 (u : Int), .nilIface])
  | none => ∃ (x : Int) (T : TypeId) (v : Value), e = .returned (.tuple #[.int .u64 x, .iface T v])
set_option maxHeartbeats 4000000 in
set_option maxRecDepth 100000 in
theorem parse16_out (s : ByteArray) (hlim : s.size ≤ 281474976710656) (r : Lib.NumEnd Nat) (w : World) (h : TbT w)
    (hI : Calls Tryd.prog 45 #[.string s, .int .i64 16, .int .i64 16] w fun e w' => e = .returned (Lib.uintTupleM 73 65535 r) ∧ (w' = w ∨ w' = Lib.bytesWorld w 5 s)) :
    Calls Tryd.prog 34 #[.string s, .int .i64 16, .int .i64 16] w fun e w' => Pans (okOf r) e ∧ Below w.heap.size w w' := by
  obtain ⟨t1, v1, c1⟩ := h.es
  obtain ⟨t2, v2, c2⟩ := h.er
  have hs := h.tb.sz
  have HW : Hid (∀ W1, (W1 = w ∨ W1 = Lib.bytesWorld w 5 s) → Below w.heap.size w W1) := hid_into fun W1 hW => by
    rcases hW with rfl | rfl
    · exact Below.refl _ _
    · exact Lib.bytesWorld_below _ _ _
  clear h
  cases r with
  | ok u =>
    have hI' : Calls Tryd.prog 45 #[.string s, .int .i64 16, .int .i64 16] w fun e w' => e = .returned (.tuple #[.int .u64 (u : Int), .nilIface]) ∧ (w' = w ∨ w' = Lib.bytesWorld w 5 s) := hI
    clear hI
    go_enter Tryd.func34, Tryd.ntmps34
    go_wp2_with (go_at_call 45; refine hI'.mono ?_; rintro e W1 ⟨rfl, hW⟩; have hb1 := HW.out W1 hW; clear hW)
    go_ret2
    exact ⟨rfl, hb1⟩
  | «syntax» =>
    have hI' : Calls Tryd.prog 45 #[.string s, .int .i64 16, .int .i64 16] w fun e w' => e = .returned (.tuple #[.int .u64 0, .iface 73 (.int .i64 2)]) ∧ (w' = w ∨ w' = Lib.bytesWorld w 5 s) := hI
    clear hI
    have CE := fun (W1 : World) (hc : W1.cell? ⟨2, 0, none⟩ = some (.iface t1 v1)) => AnyPu.strconv_toError_syntax (ρ := sh_laysPu14_ren) { sh_laysPu14 with } ⟨#[80, 97, 114, 115, 101, 85, 105, 110, 116]⟩ s 16 16 (.iface t1 v1) W1 hlim hc (Or.inr ⟨t1, v1, rfl⟩)
    have CE' : ∀ (W1 : World), W1.cell? ⟨2, 0, none⟩ = some (.iface t1 v1) → Calls Tryd.prog 46 #[.string ⟨#[80, 97, 114, 115, 101, 85, 105, 110, 116]⟩, .string s, .int .i64 16, .int .i64 16, .iface 73 (.int .i64 2)] W1 fun e w' => ∃ N, e = .returned (.iface 76 (.pointer (some ⟨N, 0, none⟩))) ∧ Below W1.heap.size W1 w' := fun W1 hc => (CE W1 hc).mono fun e w' ⟨N, h1, _, _, h4⟩ => ⟨N, h1, h4⟩
    clear CE
    go_enter Tryd.func34, Tryd.ntmps34
    go_wp2_with (first
      | (go_at_call 45; refine hI'.mono ?_; rintro e W1 ⟨rfl, hW⟩; have hb1 := HW.out W1 hW; have hc1 := (hb1.cell (p := ⟨2, 0, none⟩) (by show 2 < w.heap.size; omega)).trans c1; clear hW)
      | (go_at_call 46; refine (CE' _ hc1).mono ?_; rintro e W2 ⟨N, rfl, h3⟩))
    go_ret2
    exact ⟨⟨_, _, _, rfl⟩, hb1.trans (h3.mono hb1.size)⟩
  | range =>
    have hI' : Calls Tryd.prog 45 #[.string s, .int .i64 16, .int .i64 16] w fun e w' => e = .returned (.tuple #[.int .u64 65535, .iface 73 (.int .i64 1)]) ∧ (w' = w ∨ w' = Lib.bytesWorld w 5 s) := hI
    clear hI
    have CE := fun (W1 : World) (hc : W1.cell? ⟨3, 0, none⟩ = some (.iface t2 v2)) => AnyPu.strconv_toError_range (ρ := sh_laysPu14_ren) { sh_laysPu14 with } ⟨#[80, 97, 114, 115, 101, 85, 105, 110, 116]⟩ s 16 16 (.iface t2 v2) W1 hlim hc (Or.inr ⟨t2, v2, rfl⟩)
    have CE' : ∀ (W1 : World), W1.cell? ⟨3, 0, none⟩ = some (.iface t2 v2) → Calls Tryd.prog 46 #[.string ⟨#[80, 97, 114, 115, 101, 85, 105, 110, 116]⟩, .string s, .int .i64 16, .int .i64 16, .iface 73 (.int .i64 1)] W1 fun e w' => ∃ N, e = .returned (.iface 76 (.pointer (some ⟨N, 0, none⟩))) ∧ Below W1.heap.size W1 w' := fun W1 hc => (CE W1 hc).mono fun e w' ⟨N, h1, _, _, h4⟩ => ⟨N, h1, h4⟩
    clear CE
    go_enter Tryd.func34, Tryd.ntmps34
    go_wp2_with (first
      | (go_at_call 45; refine hI'.mono ?_; rintro e W1 ⟨rfl, hW⟩; have hb1 := HW.out W1 hW; have hc1 := (hb1.cell (p := ⟨3, 0, none⟩) (by show 3 < w.heap.size; omega)).trans c2; clear hW)
      | (go_at_call 46; refine (CE' _ hc1).mono ?_; rintro e W2 ⟨N, rfl, h3⟩))
    go_ret2
    exact ⟨⟨_, _, _, rfl⟩, hb1.trans (h3.mono hb1.size)⟩
theorem parse16_any (l : List UInt8) (hlim : l.length ≤ 1000) (w : World) (h : TbT w) :
    Calls Tryd.prog 34 #[.string ⟨l.toArray⟩, .int .i64 16, .int .i64 16] w fun e w' => Pans (hexP l) e ∧ Below w.heap.size w w' := by
  have hsz : (⟨l.toArray⟩ : ByteArray).size = l.length := by simp [ByteArray.size]
  unfold hexP
  by_cases h0 : l = []
  · subst h0
    rw [if_pos rfl]
    exact parse16_out ⟨#[]⟩ (by decide) .«syntax» w h ((AnyPu.internal_strconv_ParseUint_empty (ρ := sh_laysPu14_ren) { sh_laysPu14 with } 16 16 w).mono fun e w' ⟨he, hw⟩ => ⟨he, Or.inl hw⟩)
  · rw [if_neg h0]
    exact parse16_out _ (by omega) _ w h ((parse16_in ⟨l.toArray⟩ (by rw [hsz]; simpa using h0) (by omega) w).mono fun e w' ⟨he, hw⟩ => ⟨he, Or.inr hw⟩)
theorem parse10_any (l : List UInt8) (hlim : l.length ≤ 1000) (w : World) (h : TbT w) :
    Calls Tryd.prog 34 #[.string ⟨l.toArray⟩, .int .i64 10, .int .i64 32] w fun e w' => Pans (decP l) e ∧ Below w.heap.size w w' := by
  have hsz : (⟨l.toArray⟩ : ByteArray).size = l.length := by simp [ByteArray.size]
  obtain ⟨t1, v1, c1⟩ := h.es
  obtain ⟨t2, v2, c2⟩ := h.er
  unfold decP
  cases hr : Lib.parseUintB 32 l with
  | ok u =>
    refine (Any.strconv_ParseUint_10_at32_ok (ρ := sh_laysPu14_ren) sh_laysPu14 ⟨l.toArray⟩ (by omega) u hr w).mono fun e w' ⟨he, hW⟩ => ⟨he, ?_⟩
    rcases hW with rfl | rfl
    · exact Below.refl _ _
    · exact Lib.bytesWorld_below _ _ _
  | «syntax» =>
    exact (Any.strconv_ParseUint_10_at32_syntax (ρ := sh_laysPu14_ren) sh_laysPu14 ⟨l.toArray⟩ (by omega) hr (.iface t1 v1) w c1 (Or.inr ⟨t1, v1, rfl⟩)).mono fun e w' ⟨N, he, _, _, hb⟩ => ⟨⟨_, _, _, he⟩, hb⟩
  | range =>
    exact (Any.strconv_ParseUint_10_at32_range (ρ := sh_laysPu14_ren) sh_laysPu14 ⟨l.toArray⟩ (by omega) hr (.iface t2 v2) w c2 (Or.inr ⟨t2, v2, rfl⟩)).mono fun e w' ⟨N, he, _, _, hb⟩ => ⟨⟨_, _, _, he⟩, hb⟩
end Go.Proofs.YtfciaohicbchgaaDoor
