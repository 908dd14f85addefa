/-
  Fields as they lie in memory (Fd, Fs), and the law's heavy, by contract.
-/
import Derived.Test.YtamifgaaalclcabDoorReaderHash
namespace Go.Proofs.YtamifgaaalclcabDoor
open Go.RowKit

/-- A field: its kind, its number, its slice and that slice's bytes, its digest. -/
structure Fd where
  kind : Int
  n : Int
  bv : Value
  bs : List Int
  h : List Int
def Fd.cells (f : Fd) : List Value := .int .i64 f.kind :: .int .i64 f.n :: f.bv :: cellsOf f.h
structure Fd.ok (f : Fd) (w : World) : Prop where
  b : Bs w f.bv f.bs
  byt : Byt f.bs
  hl : f.h.length = 32
  hbyt : Byt f.h
  k0 : -9223372036854775808 ≤ f.kind
  k1 : f.kind ≤ 9223372036854775807
  n0 : -9223372036854775808 ≤ f.n
  n1 : f.n ≤ 9223372036854775807
  small : f.bs.length ≤ 140737488355328
theorem Fd.ok.keep {f : Fd} {w w' : World} (h : f.ok w) (hk : Below w.heap.size w w') : f.ok w' := ⟨h.b.below hk (Nat.le_refl _), h.byt, h.hl, h.hbyt, h.k0, h.k1, h.n0, h.n1, h.small⟩
theorem Fd.cells_len {f : Fd} {w : World} (h : f.ok w) : f.cells.length = 35 := by simp [Fd.cells, cellsOf, h.hl]

/-- The slice v reads as the fields fs. -/
def Fs (w : World) (v : Value) (fs : List Fd) : Prop :=
  (fs = [] ∧ ∃ ao cap, v = .slice ao 0 cap) ∨
  (fs ≠ [] ∧ ∃ b off cap, v = .slice (some ⟨b, off, none⟩) fs.length cap ∧ fs.length ≤ cap ∧ cap ≤ maxLen ∧ ∀ i f, fs[i]? = some f → w.rangeAt b (off + i * 35) f.cells ∧ f.ok w)
theorem Fs.len {w : World} {v : Value} {fs : List Fd} (h : Fs w v fs) : ∃ ao cap, v = .slice ao fs.length cap ∧ fs.length ≤ maxLen := by
  rcases h with ⟨rfl, ao, cap, rfl⟩ | ⟨_, b, off, cap, rfl, h1, h2, _⟩
  · exact ⟨ao, cap, rfl, by simp [maxLen]⟩
  · exact ⟨_, cap, rfl, by omega⟩

def heavyN : List Nat → Nat → Nat
  | [], n => n
  | l :: r, n => if n ≤ 3000 then heavyN r (n + 10 + l) else n
def heavyB (fs : List Fd) : Bool := decide (3000 < heavyN (fs.map (·.bs.length)) 0)
theorem heavyN_over (ls : List Nat) (n : Nat) (h : 3000 < n) : heavyN ls n = n := by
  cases ls with
  | nil => rfl
  | cons l r => simp [heavyN]; omega
theorem heavyN_step (l : Nat) (r : List Nat) (n : Nat) (h : n ≤ 3000) : heavyN (l :: r) n = heavyN r (n + 10 + l) := by simp [heavyN, h]

theorem dec3000 (n : Nat) : decide (3000 < n) = decide ((3000 : Int) < (n : Int)) := by rw [decide_eq_decide]; omega

set_option maxHeartbeats 1600000 in
theorem heavy_any (v : Value) (fs : List Fd) (w : World) (hf : Fs w v fs) :
    Calls Tryd.prog 4 #[v] w fun e w' => e = .returned (.bool (heavyB fs)) ∧ w = w' := by
  obtain ⟨ao, cap, hv, hm⟩ := hf.len
  subst hv
  unfold maxLen at hm
  generalize hls : fs.map (·.bs.length) = ls
  have HLS : Hid (fs.map (·.bs.length) = ls) := hls
  clear hls
  go_enter Tryd.func4, Tryd.ntmps4
  go_wp2
  go_loop [3, 4] (fun s i => ∃ (k n : Nat), k ≤ fs.length ∧ i = .int .i64 k ∧ s = .int .i64 n ∧ n ≤ 200000000000000 ∧ Hid (heavyN (ls.drop k) n = heavyN ls 0)) (fun _ i => fs.length - (intOf i).toNat)
  case atStart => exact ⟨0, 0, Nat.zero_le _, rfl, rfl, by decide, rfl⟩
  case round =>
    obtain ⟨k, n, hk, rfl, rfl, hn, HN⟩ := hrel
    by_cases hlt : k < fs.length
    · by_cases hn3 : n ≤ 3000
      · rcases hf with ⟨h0, _⟩ | ⟨_, b, off, cap2, he, hc1, hc2, hcell⟩
        · subst h0; simp at hlt
        simp only [Value.slice.injEq] at he
        obtain ⟨rfl, _, rfl⟩ := he
        obtain ⟨hra, hok⟩ := hcell k fs[k] (by simp [hlt])
        have hcb : w.cell? ⟨b, off + k * 35 + 2, none⟩ = some fs[k].bv := hra 2 _ rfl
        obtain ⟨a1, cap1, hbv, _⟩ := hok.b.len
        have hsm := hok.small
        have HL : Hid (ls.drop k = fs[k].bs.length :: ls.drop (k + 1)) := by
          show _ = _
          rw [← HLS.out, List.drop_eq_getElem_cons (by simpa using hlt)]
          simp
        generalize fs[k].bs.length = l at *
        rw [hbv] at hcb
        have HN2 : Hid (heavyN (ls.drop (k + 1)) (n + 10 + l) = heavyN ls 0) := by
          show _ = _
          rw [← HN.out, HL.out, heavyN_step _ _ _ hn3]
        clear HN HL hcell hra hbv hok
        go_wp2
        go_round
        case rel => exact ⟨k + 1, n + 10 + l, by omega, by go_num, by go_num, by omega, HN2⟩
        case measure => simp [intOf]; omega
      · have HF : Hid (heavyB fs = decide (3000 < (n : Int))) := by
          show _ = _
          unfold heavyB
          rw [HLS.out, ← HN.out, heavyN_over _ _ (by omega), dec3000]
        have hgt : (3000 : Int) < n := by omega
        clear HN
        go_wp2
        go_ret
        exact ⟨by rw [HF.out]; simp [hgt], rfl⟩
    · have HF : Hid (heavyB fs = decide (3000 < (n : Int))) := by
        show _ = _
        unfold heavyB
        rw [HLS.out, ← HN.out, List.drop_eq_nil_of_le (by rw [← HLS.out]; simp; omega)]
        exact dec3000 n
      clear HN
      go_wp2
      go_ret
      exact ⟨by rw [HF.out]; rfl, rfl⟩
end Go.Proofs.YtamifgaaalclcabDoor
