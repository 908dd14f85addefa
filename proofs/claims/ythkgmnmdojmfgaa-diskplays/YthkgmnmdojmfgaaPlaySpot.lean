/-
  DiskPlays: the document's disk, first contracts: did, spot.
-/
import Derived.Test.YthkgmnmdojmfgaaPlayHelp
import Derived.Maps.OwnSet
import Derived.Sort.EncStr
namespace Go.Proofs.Ythkgmnmdojmfgaa
open Go.RowKit Go.Maps Go.Sort

/-- What 'did' leaves. -/
def didW (w : World) (wb : Nat) (left : Int) : World := if 0 < left then w.setCell ⟨wb, 2, none⟩ (.int .i64 (left - 1)) else w

set_option maxHeartbeats 800000 in
theorem did_any (wb : Nat) (room : Int) (v : Value) (left : Int) (w : World) (h : Cw w wb [.int .i64 room, v, .int .i64 left] 65) (h0 : -9223372036854775807 ≤ left) (h1 : left ≤ 9223372036854775807) :
    Calls Try.prog 60 #[.pointer (some ⟨wb, 0, none⟩)] w fun e w' => e = .returned (.int .i64 0) ∧ w' = didW w wb left := by
  have hc := h.cell 2
  have hf := h.frozen 2
  simp at hc
  by_cases hl : 0 < left
  · have e : didW w wb left = w.setCell ⟨wb, 2, none⟩ (.int .i64 (left - 1)) := if_pos hl
    rw [e]
    clear e h
    go_enter Try.func60, Try.ntmps60
    go_wp2
    go_ret
    exact ⟨rfl, rfl⟩
  · have e : didW w wb left = w := if_neg hl
    rw [e]
    clear e h
    go_enter Try.func60, Try.ntmps60
    go_wp2
    go_ret
    exact ⟨rfl, rfl⟩

/-- Where a name stands, or would stand. -/
def spotN (ns : List (List UInt8)) (x : List UInt8) : Nat := (ns.takeWhile fun n => Op.bytesLess n x).length
theorem spotN_eq (x : List UInt8) : ∀ (ns : List (List UInt8)) (k : Nat), k ≤ ns.length → (∀ j n, j < k → ns[j]? = some n → Op.bytesLess n x = true) → (∀ n, ns[k]? = some n → Op.bytesLess n x = false) → spotN ns x = k
  | [], k, h, _, _ => by simp at h; simp [spotN, h]
  | n :: ns, 0, _, _, h2 => by
    have := h2 n rfl
    simp [spotN, this]
  | n :: ns, k + 1, h, h1, h2 => by
    have e := h1 0 n (by omega) rfl
    have ih := spotN_eq x ns k (by simpa using h) (fun j m hj hm => h1 (j + 1) m (by omega) (by simpa using hm)) (fun m hm => h2 m (by simpa using hm))
    simp only [spotN, List.takeWhile_cons, e, if_true, List.length_cons] at ih ⊢
    omega

set_option maxHeartbeats 1600000 in
set_option maxRecDepth 20000 in
theorem spot_some (wb g cap : Nat) (room left : Int) (ns : List (List UInt8)) (x : List UInt8) (w : World) (h : Cw w wb [.int .i64 room, .slice (some ⟨g, 0, none⟩) ns.length cap, .int .i64 left] 65) (hl : ns.length ≤ 100000)
    (hn : ∀ i n, ns[i]? = some n → w.cell? ⟨g, i * 3, none⟩ = some (encStr n)) :
    Calls Try.prog 59 #[.pointer (some ⟨wb, 0, none⟩), encStr x] w fun e w' => e = .returned (.tuple #[.int .i64 (spotN ns x), .bool (decide (ns[spotN ns x]? = some x))]) ∧ Sm w w' := by
  have hc := h.cell 1
  simp at hc
  go_enter Try.func59, Try.ntmps59
  go_wp2
  go_loop [6] (fun i => ∃ k : Nat, k ≤ ns.length ∧ i = .int .i64 k ∧ Hid (∀ j n, j < k → ns[j]? = some n → Op.bytesLess n x = true)) (fun i => ns.length - (intOf i).toNat)
  case atStart => exact ⟨0, Nat.zero_le _, rfl, fun j n hj => by omega⟩
  case round =>
    obtain ⟨k, hk, rfl, HT⟩ := hrel
    by_cases hlt : k < ns.length
    · obtain ⟨nk, hnk⟩ : ∃ nk, ns[k]? = some nk := ⟨_, List.getElem?_eq_getElem hlt⟩
      have hck := hn k nk hnk
      have f1 : (0 : Int) ≤ (k : Int) := by omega
      have f2 : (k : Int) < (ns.length : Int) := by omega
      by_cases hb : Op.bytesLess nk x = true
      · have HN : Hid (∀ j n, j < k + 1 → ns[j]? = some n → Op.bytesLess n x = true) := fun j n hj hm => by
          by_cases e : j = k
          · subst e; rw [hnk] at hm; cases hm; exact hb
          · exact HT.out j n (by omega) hm
        clear hnk HT hn
        go_wp2
        go_round
        case rel => exact ⟨k + 1, by omega, by go_num, HN⟩
        case measure => simp [intOf]; omega
      · have hb' : Op.bytesLess nk x = false := by simpa using hb
        have HS : Hid (spotN ns x = k) := spotN_eq x ns k hk HT.out (fun n hm => by rw [hnk] at hm; cases hm; exact hb')
        have HD : Hid (decide (ns[k]? = some x) = (nk == x)) := by show _ = _; rw [hnk]; by_cases e : nk = x <;> simp [e]
        clear hnk HT hn hb
        go_wp2_with fail
        go_quiet (fail)
        go_wp2
        go_ret2
        exact ⟨by rw [HS.out, HD.out]; rfl, ⟨rfl, rfl, rfl, rfl⟩⟩
    · have HS : Hid (spotN ns x = k) := spotN_eq x ns k hk HT.out (fun n hm => by rw [List.getElem?_eq_none (by omega)] at hm; cases hm)
      have HD : Hid (decide (ns[k]? = some x) = false) := by show _ = _; rw [List.getElem?_eq_none (by omega)]; simp
      have f2 : decide ((k : Int) < (ns.length : Int)) = false := by rw [decide_eq_false_iff_not]; omega
      clear HT hn
      go_wp2_with fail
      go_quiet (fail)
      go_wp2
      go_ret2
      exact ⟨by rw [HS.out, HD.out]; rfl, ⟨rfl, rfl, rfl, rfl⟩⟩
end Go.Proofs.Ythkgmnmdojmfgaa
