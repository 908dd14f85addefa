/-
  The table's find; strings.Cut and strconv.Atoi, as this program has them.
-/
import Derived.Test.YtddmnpfebajnmaaDoorLinesP
import Derived.Lib.AtoiBound
import Derived.Shelf.Strconv.Atoi
namespace Go.Proofs.YtddmnpfebajnmaaDoor
open Go.RowKit
/-- What find answers: the op with this name; 0: there is none. -/
def FindA (s : List UInt8) (o : Nat) : Prop := (1 ≤ o ∧ o ≤ 22 ∧ nameL o = s) ∨ (o = 0 ∧ ∀ j, 1 ≤ j → j ≤ 22 → nameL j ≠ s)
set_option maxRecDepth 20000 in
set_option maxHeartbeats 2000000 in
theorem find_any (tb : Nat) (s : List UInt8) (w : World) (hT : Tb w tb) :
    Calls Tryd.prog 64 #[.pointer (some ⟨tb, 0, none⟩), .string ⟨s.toArray⟩] w fun e w' => ∃ o : Nat, e = .returned (.int .i64 (o : Int)) ∧ FindA s o ∧ w' = w := by
  have HT := hid_into hT
  clear hT
  go_enter Tryd.func64, Tryd.ntmps64
  go_wp2_with fail
  go_loopw [5] (fun i wr => ∃ k : Nat, 1 ≤ k ∧ k ≤ 23 ∧ i = .int .i64 (k : Int) ∧ Hid (∀ j, 1 ≤ j → j < k → nameL j ≠ s) ∧ wr = w) (fun i _ => 23 - (intOf i).toNat)
  case atStart => exact ⟨1, by omega, by omega, rfl, fun j h1 h2 => absurd h2 (by omega), rfl⟩
  case round =>
    obtain ⟨k, hk1, hk2, rfl, HJ, rfl⟩ := hrel
    by_cases hlt : k < 23
    · obtain ⟨t0, _, _⟩ := HT.out.at k hk1 (by omega)
      have e22 : (k : Int) < 23 := by omega
      by_cases hn : nameL k = s
      · have HF : Hid (FindA s k) := Or.inl ⟨hk1, by omega, hn⟩
        rw [hn] at t0
        clear HJ hn
        go_wp2_with fail
        go_ret
        exact ⟨k, rfl, HF.out, rfl⟩
      · have HJ2 : Hid (∀ j, 1 ≤ j → j < k + 1 → nameL j ≠ s) := fun j h1 h2 => by
          by_cases hjk : j = k
          · subst hjk; exact hn
          · exact HJ.out j h1 (by omega)
        generalize nameL k = nm at t0 hn
        have hq : (nm == s) = false := by simp [hn]
        clear HJ
        go_wp2_with fail
        go_roundw
        case rel => exact ⟨k + 1, by omega, by omega, by go_num, HJ2, trivial⟩
        case measure => simp [intOf]; omega
    · obtain rfl : k = 23 := by omega
      have HF : Hid (FindA s 0) := Or.inr ⟨rfl, fun j h1 h2 => HJ.out j h1 (by omega)⟩
      clear HJ
      go_wp2_with fail
      go_ret
      exact ⟨0, rfl, HF.out, rfl⟩
/-- What the texts want of the program's variables. -/
structure Tt (w : World) : Prop where
  tp : Tp w
  es : ∃ te pe, w.cell? ⟨1, 0, none⟩ = some (.iface te pe)
  ml : ∃ m, w.cell? ⟨0, 0, none⟩ = some (.int .i64 m)
theorem Tt.below {w w' : World} (h : Tt w) {B : Nat} (hb : Below B w w') (hB : w.heap.size ≤ B) : Tt w' := by
  have hs := h.tp.sz
  refine ⟨h.tp.below hb hB, ?_, ?_⟩
  · obtain ⟨te, pe, e⟩ := h.es
    exact ⟨te, pe, (hb.cell (p := ⟨1, 0, none⟩) (by show 1 < B; omega)).trans e⟩
  · obtain ⟨m, e⟩ := h.ml
    exact ⟨m, (hb.cell (p := ⟨0, 0, none⟩) (by show 0 < B; omega)).trans e⟩
theorem cut_any (c : UInt8) (l : List UInt8) (hl : l.length ≤ 1000000) (w : World) (h : Tt w) :
    Calls Tryd.prog 43 #[.string ⟨l.toArray⟩, .string ⟨#[c]⟩] w fun e w' => e = .returned (.tuple #[.string ⟨(Lib.cut l [c]).1.toArray⟩, .string ⟨(Lib.cut l [c]).2.1.toArray⟩, .bool (Lib.cut l [c]).2.2]) ∧ Sm w w' := by
  obtain ⟨m, hm⟩ := h.ml
  have hsz : (⟨l.toArray⟩ : ByteArray).size = l.length := by simp [ByteArray.size]
  refine (Any.strings_Cut (ρ := sh_lays145_ren) sh_lays145 ⟨l.toArray⟩ ⟨#[c]⟩ m w (by omega) hm).mono fun e w' ⟨he, n, hw⟩ => ⟨he, ?_⟩
  rw [hw]
  exact Sm.drewN w n
/-- What Atoi answers: a number and no error, or an error. -/
def AtA (o : Option Int) (e : Ending) : Prop := match o with
  | some n => e = .returned (.tuple #[.int .i64 n, .nilIface])
  | none => ∃ (x : Int) (T : TypeId) (v : Value), e = .returned (.tuple #[.int .i64 x, .iface T v])
theorem atoi_any (l : List UInt8) (hl : l.length ≤ 11) (w : World) (h : Tt w) :
    Calls Tryd.prog 65 #[.string ⟨l.toArray⟩] w fun e w' => AtA (Lib.atoi l) e ∧ Below w.heap.size w w' := by
  have hsz : (⟨l.toArray⟩ : ByteArray).size = l.length := by simp [ByteArray.size]
  cases ha : Lib.atoi l with
  | some n =>
    refine (Any.strconv_Atoi (ρ := sh_laysC172_ren) { sh_laysC172 with } ⟨l.toArray⟩ n (by omega) (by simpa using ha) w).mono fun e w' ⟨he, t, hw⟩ => ⟨he, ?_⟩
    rw [hw]
    exact Lib.bytesWorld_below _ _ _
  | none =>
    obtain ⟨te, pe, hc⟩ := h.es
    refine (Any.strconv_Atoi_err (ρ := sh_laysC172_ren) sh_laysC172 ⟨l.toArray⟩ (by omega) (by simpa using ha) (.iface te pe) w hc (Or.inr ⟨te, pe, rfl⟩)).mono ?_
    rintro e w' ⟨N, he, _, _, hb⟩
    exact ⟨⟨_, _, _, he⟩, hb⟩
end Go.Proofs.YtddmnpfebajnmaaDoor
