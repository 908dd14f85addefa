/-
  DiskPlays: the document's may, and Read, by contract.
-/
import Derived.Test.YthkgmnmdojmfgaaPlayRef
namespace Go.Proofs.Ythkgmnmdojmfgaa
open Go.RowKit Go.Maps Go.Sort

def badN (n : List UInt8) : Bool := decide (n.length < 1) || decide (64 < n.length)
/-- The error that is ahead of all else. -/
def mayE (left : Int) (ns : List (List UInt8)) : Int := if left = 0 then 9 else if ns.any badN then 1 else 0

set_option maxHeartbeats 1600000 in
set_option maxRecDepth 20000 in
theorem may_any (wb g cap : Nat) (room : Int) (v : Value) (left : Int) (ns : List (List UInt8)) (w : World) (h : Cw w wb [.int .i64 room, v, .int .i64 left] 65) (hl : ns.length ≤ 100) (hsz : ∀ n ∈ ns, n.length ≤ 140737488355328)
    (hn : ∀ i n, ns[i]? = some n → w.cell? ⟨g, i, none⟩ = some (encStr n)) :
    Calls Try.prog 58 #[.pointer (some ⟨wb, 0, none⟩), .slice (some ⟨g, 0, none⟩) ns.length cap] w fun e w' => e = .returned (.int .i64 (mayE left ns)) ∧ w = w' := by
  have hc := h.cell 2
  simp at hc
  clear h
  by_cases h0 : left = 0
  · have e : mayE left ns = 9 := if_pos h0
    rw [e]
    subst h0
    go_enter Try.func58, Try.ntmps58
    go_wp2
    go_ret
    exact ⟨rfl, rfl⟩
  have h0' : (left == 0) = false := by simpa using h0
  have HE : Hid (mayE left ns = if ns.any badN then 1 else 0) := if_neg h0
  go_enter Try.func58, Try.ntmps58
  go_wp2
  go_loop [5] (fun i => ∃ k : Nat, k ≤ ns.length ∧ i = .int .i64 k ∧ Hid (∀ n ∈ ns.take k, badN n = false)) (fun i => ns.length - (intOf i).toNat)
  case atStart => exact ⟨0, Nat.zero_le _, rfl, by show ∀ n ∈ _, _; simp⟩
  case round =>
    obtain ⟨k, hk, rfl, HT⟩ := hrel
    by_cases hlt : k < ns.length
    · obtain ⟨nk, hnk⟩ : ∃ nk, ns[k]? = some nk := ⟨_, List.getElem?_eq_getElem hlt⟩
      have hck := hn k nk hnk
      have hm := List.mem_of_getElem? hnk
      have hs := hsz nk hm
      have f1 : (0 : Int) ≤ (k : Int) := by omega
      have f2 : (k : Int) < (ns.length : Int) := by omega
      by_cases hb : badN nk = true
      · have H1 : Hid (mayE left ns = 1) := by show _ = _; rw [HE.out, if_pos (List.any_eq_true.2 ⟨nk, hm, hb⟩)]
        by_cases hs1 : nk.length < 1
        · have hs1' : (nk.length : Int) < 1 := by omega
          clear HT HE hnk hb hn
          go_wp2
          go_ret
          exact ⟨by rw [H1.out]; rfl, rfl⟩
        · have hs2 : 64 < nk.length := by
            unfold badN at hb
            rw [Bool.or_eq_true, decide_eq_true_eq, decide_eq_true_eq] at hb
            omega
          have hs1' : ¬ (nk.length : Int) < 1 := by omega
          have hs2' : (64 : Int) < (nk.length : Int) := by omega
          clear HT HE hnk hb hn
          go_wp2
          go_ret
          exact ⟨by rw [H1.out]; rfl, rfl⟩
      · have hb' : badN nk = false := by simpa using hb
        have hs3 : ¬ nk.length < 1 ∧ ¬ 64 < nk.length := by
          unfold badN at hb'
          rw [Bool.or_eq_false_iff, decide_eq_false_iff_not, decide_eq_false_iff_not] at hb'
          exact hb'
        have hs1' : ¬ (nk.length : Int) < 1 := by omega
        have hs2' : ¬ (64 : Int) < (nk.length : Int) := by omega
        have HN : Hid (∀ n ∈ ns.take (k + 1), badN n = false) := by
          show ∀ n ∈ _, _
          obtain ⟨hi, e⟩ := List.getElem?_eq_some_iff.1 hnk
          rw [List.take_succ_eq_append_getElem hi, e]
          intro n hmem
          rcases List.mem_append.1 hmem with h | h
          · exact HT.out n h
          · have : n = nk := by simpa using h
            rw [this]; exact hb'
        clear HT hnk hb hb' hn
        go_wp2
        go_round
        case rel => exact ⟨k + 1, by omega, by go_num, HN⟩
        case measure => simp [intOf]; omega
    · have H0 : Hid (mayE left ns = 0) := by
        show _ = _
        have ht := HT.out
        rw [List.take_of_length_le (by omega)] at ht
        rw [HE.out, if_neg (fun e => by obtain ⟨n, h1, h2⟩ := List.any_eq_true.1 e; rw [ht n h1] at h2; cases h2)]
      have f2 : ¬ (k : Int) < (ns.length : Int) := by omega
      clear HT HE hn
      go_wp2
      go_ret
      exact ⟨by rw [H0.out]; rfl, rfl⟩

theorem ownsRow_sm {w w' : World} {base : Nat} {t : TypeId} {sz : Nat} {v : Value} {n : Nat} {cs : List Value} (h : w.ownsRow base t sz v n cs) (hs : Sm w w') : w'.ownsRow base t sz v n cs := by
  refine ⟨h.1, ?_⟩
  rcases h.2 with h2 | ⟨g, cap, cur, rfl, hb, hg, rest⟩
  · exact Or.inl h2
  · exact Or.inr ⟨g, cap, cur, rfl, hb, by rw [hs.heap]; exact hg, rest⟩
theorem Rk.sm {w w' : World} {base wb : Nat} {v : Value} {room left : Int} {L : List Fl3} (h : Rk w base wb v room left L) (hs : Sm w w') : Rk w' base wb v room left L :=
  ⟨hs.cw h.blk, ownsRow_sm h.row hs, fun f hf => ⟨hs.ow (h.each f hf).1, (h.each f hf).2⟩, h.few, h.wbb, h.sep⟩

set_option maxHeartbeats 1600000 in
set_option maxRecDepth 20000 in
theorem read3_none (base wb : Nat) (v : Value) (room left : Int) (L : List Fl3) (x : List UInt8) (w : World) (h : Rk w base wb v room left L) (hx : (names3 L)[spotN (names3 L) x]? ≠ some x) :
    Calls Try.prog 44 #[.pointer (some ⟨wb, 0, none⟩), encStr x] w fun e w' => e = .returned (.tuple #[.slice none 0 0, .int .i64 7]) ∧ Sm w w' := by
  have C := spot_any base wb v room left L x w h
  rw [decide_eq_false hx] at C
  generalize spotN (names3 L) x = k at *
  go_enter Try.func44, Try.ntmps44
  go_wp2_with fail
  refine C.mono ?_
  rintro e w1 ⟨rfl, hs⟩
  go_wp2
  go_ret2
  exact ⟨rfl, hs⟩

set_option maxHeartbeats 1600000 in
set_option maxRecDepth 20000 in
theorem read3_some (base wb : Nat) (v : Value) (room left : Int) (L : List Fl3) (x : List UInt8) (f : Fl3) (w : World) (h : Rk w base wb v room left L) (hf : L[spotN (names3 L) x]? = some f) (hx : f.nm = x) (hz : f.zs.length ≤ 100000000000) :
    Calls Try.prog 44 #[.pointer (some ⟨wb, 0, none⟩), encStr x] w fun e w' => ∃ ao cap, e = .returned (.tuple #[.slice ao f.zs.length cap, .int .i64 0]) ∧ Ow w' w.heap.size (.slice ao f.zs.length cap) f.zs ∧ Below w.heap.size w w' := by
  have C := spot_any base wb v room left L x w h
  rw [decide_eq_true (show (names3 L)[spotN (names3 L) x]? = some x by simp [names3] at hf ⊢; exact ⟨f, hf, hx⟩)] at C
  generalize spotN (names3 L) x = k at *
  have hk : k < L.length := (List.getElem?_eq_some_iff.1 hf).1
  have few := h.few
  go_enter Try.func44, Try.ntmps44
  go_wp2_with fail
  refine C.mono ?_
  rintro e w1 ⟨rfl, hs⟩
  have h1 := h.sm hs
  rcases h1.shape with ⟨_, h0⟩ | ⟨g, cap, rfl, hc1, hc2, hcell⟩
  · rw [h0] at hk; simp at hk
  have hcb := h1.blk.cell 1
  simp at hcb
  have hcf := (hcell k f hf).2.1
  have hof := (h1.each f (List.mem_of_getElem? hf)).1
  obtain ⟨af, cf, ef, _⟩ := hof.form
  rw [ef] at hcf hof
  have hlt1 := World.block_lt_of_cell? w1 _ hcb
  have hlt2 := World.block_lt_of_cell? w1 _ hcf
  simp only at hlt1 hlt2
  have hA : Below w1.heap.size w1 (w1.alloc (.cells #[] 5)) := (Below.refl _ _).alloc (Nat.le_refl _) _
  have ho : Ow (w1.alloc (.cells #[] 5)) w1.heap.size (.slice (some ⟨w1.heap.size, 0, none⟩) 0 0) [] := Ow_of_block (heap_alloc_new w1 _) (by simp) (Nat.le_refl _)
  have hbf : Bs (w1.alloc (.cells #[] 5)) (.slice af f.zs.length cf) f.zs := hof.bs.below hA (Nat.le_refl _)
  have f1 : (0 : Int) ≤ (k : Int) := by omega
  have f2 : (k : Int) < (L.length : Int) := by omega
  have hsz : w1.heap.size = w.heap.size := hs.size
  have HS : Hid (w1.heap.size = w.heap.size) := hsz
  have hBs : Below w.heap.size w w1 := hs.below _
  clear hcell hof C h h1 hf hsz ef hx
  go_wp2_with (at_builtin; refine wpList_append_bs _ rfl (.tmp 16) (.tmp 24) rfl w1.heap.size _ [] rfl ho (.slice af f.zs.length cf) f.zs (by rfl) hbf (by simp; omega) (by simp) ?_)
  intro ao3 cap3 w3 ho3 hg3 hat3
  have ho3' : Ow w3 w.heap.size (.slice ao3 f.zs.length cap3) f.zs := by
    rw [← HS.out]; simpa using ho3
  have hB3 : Below w.heap.size w w3 := by
    refine (hBs.trans (hA.mono (Nat.le_of_eq HS.out.symm))).trans ⟨hg3.os, hg3.tape, hg3.output, hg3.size, fun q hq => hg3.block q (by simp; have := HS.out; omega) (fun e => ?_)⟩
    have e' : q = w1.heap.size := by simpa [Value.ownBlock] using e
    have := HS.out
    omega
  clear ho3 hg3 hat3 ho hbf
  go_wp2
  go_ret2
  exact ⟨ao3, cap3, rfl, ho3', hB3⟩
end Go.Proofs.Ythkgmnmdojmfgaa
