/-
  DiskPlays: scripts (Sts); heavy, by contract.
-/
import Derived.Test.YthkgmnmdojmfgaaPlayS
namespace Go.Proofs.Ythkgmnmdojmfgaa
open Go.RowKit Go.Maps Go.Sort
variable {w w' : World}

/-- The slice c reads as the steps ss. -/
def Sts (w : World) (c : Value) (ss : List Sp) : Prop := ∃ ao cap, c = .slice ao ss.length cap ∧ ss.length ≤ 140737488355328 ∧ (∀ s ∈ ss, s.ok w) ∧ (ss ≠ [] → ∃ b off, ao = some ⟨b, off, none⟩ ∧ ∀ i s, ss[i]? = some s → ∀ j u, s.cells[j]? = some u → w.cell? ⟨b, off + i * 6 + j, none⟩ = some u)
theorem Sp.ok.keep {s : Sp} (h : s.ok w) (hb : Below w.heap.size w w') : s.ok w' := ⟨h.bs.below hb (Nat.le_refl _), h.by8, h.len, h.n, h.a, h.t, h.x⟩
/-- What heavy answers: that it is, or that no step is. -/
def HvP (ss : List Sp) (e : Ending) : Prop := e = .returned (.bool true) ∨ (e = .returned (.bool false) ∧ ∀ (i : Nat) (s : Sp), i < 120 → ss[i]? = some s → s.zs.length ≤ 8000)
set_option maxHeartbeats 3200000 in
set_option maxRecDepth 20000 in
theorem heavy_any (c : Value) (ss : List Sp) (w : World) (h : Sts w c ss) :
    Calls Try.prog 9 #[c] w fun e w' => HvP ss e ∧ Sm w w' := by
  obtain ⟨ao, cap, rfl, hl, hok, hc⟩ := h
  go_enter Try.func9, Try.ntmps9
  go_wp2
  go_loopw [3, 4] (fun nv iv wr => ∃ k m : Nat, k ≤ ss.length ∧ k ≤ 120 ∧ iv = .int .i64 (k : Int) ∧ nv = .int .i64 (m : Int) ∧ m ≤ 8000 ∧ Hid (∀ (i : Nat) (s : Sp), i < k → ss[i]? = some s → s.zs.length ≤ 8000) ∧ Sm w wr) (fun _ iv _ => ss.length - (intOf iv).toNat)
  case atStart => exact ⟨0, 0, Nat.zero_le _, Nat.zero_le _, rfl, rfl, Nat.zero_le _, fun i s hi => by omega, Sm.refl _⟩
  case round =>
    obtain ⟨k, m, hk, hk2, rfl, rfl, hm, HT, hs⟩ := hrel
    by_cases hlt : k < ss.length ∧ k < 120
    · obtain ⟨s, hsk⟩ : ∃ s, ss[k]? = some s := ⟨_, List.getElem?_eq_getElem hlt.1⟩
      have hne : ss ≠ [] := fun e => by rw [e] at hlt; simp at hlt
      obtain ⟨b, off, rfl, hcell⟩ := hc hne
      have hso := hok s (List.mem_of_getElem? hsk)
      have la := hso.a
      have lt := hso.t
      have lz := hso.len
      obtain ⟨av, cv, hsv, _⟩ := hso.bs.len
      have e2 := cell_sm hs (hcell k s hsk 2 _ rfl)
      have e3 := cell_sm hs (hcell k s hsk 3 _ rfl)
      have e4 := cell_sm hs (hcell k s hsk 4 _ rfl)
      rw [hsv] at e4
      have f1 : (0 : Int) ≤ (k : Int) := by omega
      have f2 : (k : Int) < (ss.length : Int) := by omega
      have f3 : (k : Int) < 120 := by omega
      have q1 : IntKind.i64.wrap ((m : Int) + (s.a.length : Int)) = ((m + s.a.length : Nat) : Int) := by rw [IntKind.wrap_i64]; omega
      have q2 : IntKind.i64.wrap (((m + s.a.length : Nat) : Int) + (s.t.length : Int)) = ((m + s.a.length + s.t.length : Nat) : Int) := by rw [IntKind.wrap_i64]; omega
      have q3 : IntKind.i64.wrap (((m + s.a.length + s.t.length : Nat) : Int) + (s.zs.length : Int)) = ((m + s.a.length + s.t.length + s.zs.length : Nat) : Int) := by rw [IntKind.wrap_i64]; omega
      have HN : Hid (m + s.a.length + s.t.length + s.zs.length ≤ 8000 → ∀ (i : Nat) (s' : Sp), i < k + 1 → ss[i]? = some s' → s'.zs.length ≤ 8000) := fun hle i s' hi hs' => by
        by_cases e : i = k
        · rw [e, hsk] at hs'
          cases hs'
          omega
        · exact HT.out i s' (by omega) hs'
      clear hcell hsk hso HT
      go_wp2_with fail
      go_quiet (fail)
      by_cases hbig : 8000 < m + s.a.length + s.t.length + s.zs.length
      · have f4 : (8000 : Int) < (m : Int) + (s.a.length : Int) + (s.t.length : Int) + (s.zs.length : Int) := by omega
        clear hbig
        go_wp2_with fail
        go_ret
        exact ⟨Or.inl rfl, hs.trans (Sm.drewN _ _)⟩
      · have f4 : ¬ ((8000 : Int) < (m : Int) + (s.a.length : Int) + (s.t.length : Int) + (s.zs.length : Int)) := by omega
        have hn := HN.out (by omega)
        have HM : Hid (m + s.a.length + s.t.length + s.zs.length ≤ 8000) := by show _ ≤ _; omega
        have HN2 := hid_into hn
        have hs2 := hs.trans (Sm.drewN _ nq)
        clear hn HN hbig
        go_wp2_with fail
        go_roundw
        case rel => exact ⟨k + 1, m + s.a.length + s.t.length + s.zs.length, by omega, by omega, by go_num, by simp, HM.out, HN2, hs2⟩
        case measure => simp [intOf]; omega
    · have HR : Hid (∀ (i : Nat) (s : Sp), i < 120 → ss[i]? = some s → s.zs.length ≤ 8000) := fun i s hi hs' => by
        have := (List.getElem?_eq_some_iff.1 hs').1
        exact HT.out i s (by omega) hs'
      by_cases h1 : k < ss.length
      · have f2 : (k : Int) < (ss.length : Int) := by omega
        have f3 : ¬ ((k : Int) < 120) := by omega
        clear hlt HT
        go_wp2_with fail
        go_ret
        exact ⟨Or.inr ⟨rfl, HR.out⟩, hs⟩
      · have f2 : ¬ ((k : Int) < (ss.length : Int)) := by omega
        clear hlt HT
        go_wp2_with fail
        go_ret
        exact ⟨Or.inr ⟨rfl, HR.out⟩, hs⟩
end Go.Proofs.Ythkgmnmdojmfgaa
