/-
  Joined from: PlaySpot, PlayRef, PlayMay, PlayNames, PlaySet.
-/
import Derived.Test.YtnkjhooeklodcaaGreatDoorM12
import Derived.Maps.OwnSet
import Derived.Sort.EncStr
section
/-
  DiskPlays: the document's disk, first contracts: did, spot.
-/
namespace Go.Proofs.YtnkjhooeklodcaaGreatDoor
open Go.RowKit Go.Maps Go.Sort

def didW (w : World) (wb : Nat) (left : Int) : World := if 0 < left then w.setCell ⟨wb, 2, none⟩ (.int .i64 (left - 1)) else w

set_option maxHeartbeats 800000 in
theorem did_any (wb : Nat) (room : Int) (v : Value) (left : Int) (w : World) (h : Cw w wb [.int .i64 room, v, .int .i64 left] 91) (h0 : -9223372036854775807 ≤ left) (h1 : left ≤ 9223372036854775807) :
    Calls Tryz.prog 71 #[.pointer (some ⟨wb, 0, none⟩)] w fun e w' => e = .returned (.int .i64 0) ∧ w' = didW w wb left := by
  have hc := h.cell 2
  have hf := h.frozen 2
  simp at hc
  by_cases hl : 0 < left
  · have e : didW w wb left = w.setCell ⟨wb, 2, none⟩ (.int .i64 (left - 1)) := if_pos hl
    rw [e]
    clear e h
    go_enter Tryz.func71, Tryz.ntmps71
    go_wp2
    go_ret
    exact ⟨rfl, rfl⟩
  · have e : didW w wb left = w := if_neg hl
    rw [e]
    clear e h
    go_enter Tryz.func71, Tryz.ntmps71
    go_wp2
    go_ret
    exact ⟨rfl, rfl⟩

def spotN (ns : List (List UInt8)) (x : List UInt8) : Nat := (ns.takeWhile fun n => Op.bytesLess n x).length
theorem spotN_eq (x : List UInt8) : ∀ (ns : List (List UInt8)) (k : Nat), k ≤ ns.length → (∀ j n, j < k → ns[j]? = some n → Op.bytesLess n x = true) → (∀ n, ns[k]? = some n → Op.bytesLess n x = false) → spotN ns x = k
  | [], k, h, _, _ => by simp at h; simp [spotN, h]
  | n :: ns, 0, _, _, h2 => by
    have := h2 n rfl
    simp [spotN, this]
  | n :: ns, k + 1, h, h1, h2 => by
    have e := h1 0 n (by omega) rfl
    have ih := spotN_eq x ns k (by simpa using h) (fun j m hj hm => h1 (j + 1) m (by omega) (by simpa using hm)) (fun m hm => h2 m (by simpa using hm))
    simp only [spotN, List.takeWhile_cons, e, if_true, List.length_cons] at ih ⊢
    omega

set_option maxHeartbeats 1600000 in
set_option maxRecDepth 20000 in
theorem spot_some (wb g cap : Nat) (room left : Int) (ns : List (List UInt8)) (x : List UInt8) (w : World) (h : Cw w wb [.int .i64 room, .slice (some ⟨g, 0, none⟩) ns.length cap, .int .i64 left] 91) (hl : ns.length ≤ 100000)
    (hn : ∀ i n, ns[i]? = some n → w.cell? ⟨g, i * 3, none⟩ = some (encStr n)) :
    Calls Tryz.prog 69 #[.pointer (some ⟨wb, 0, none⟩), encStr x] w fun e w' => e = .returned (.tuple #[.int .i64 (spotN ns x), .bool (decide (ns[spotN ns x]? = some x))]) ∧ Sm w w' := by
  have hc := h.cell 1
  simp at hc
  go_enter Tryz.func69, Tryz.ntmps69
  go_wp2
  go_loop [6] (fun i => ∃ k : Nat, k ≤ ns.length ∧ i = .int .i64 k ∧ Hid (∀ j n, j < k → ns[j]? = some n → Op.bytesLess n x = true)) (fun i => ns.length - (intOf i).toNat)
  case atStart => exact ⟨0, Nat.zero_le _, rfl, fun j n hj => by omega⟩
  case round =>
    obtain ⟨k, hk, rfl, HT⟩ := hrel
    by_cases hlt : k < ns.length
    · obtain ⟨nk, hnk⟩ : ∃ nk, ns[k]? = some nk := ⟨_, List.getElem?_eq_getElem hlt⟩
      have hck := hn k nk hnk
      have f1 : (0 : Int) ≤ (k : Int) := by omega
      have f2 : (k : Int) < (ns.length : Int) := by omega
      by_cases hb : Op.bytesLess nk x = true
      · have HN : Hid (∀ j n, j < k + 1 → ns[j]? = some n → Op.bytesLess n x = true) := fun j n hj hm => by
          by_cases e : j = k
          · subst e; rw [hnk] at hm; cases hm; exact hb
          · exact HT.out j n (by omega) hm
        clear hnk HT hn
        go_wp2
        go_round
        case rel => exact ⟨k + 1, by omega, by go_num, HN⟩
        case measure => simp [intOf]; omega
      · have hb' : Op.bytesLess nk x = false := by simpa using hb
        have HS : Hid (spotN ns x = k) := spotN_eq x ns k hk HT.out (fun n hm => by rw [hnk] at hm; cases hm; exact hb')
        have HD : Hid (decide (ns[k]? = some x) = (nk == x)) := by show _ = _; rw [hnk]; by_cases e : nk = x <;> simp [e]
        clear hnk HT hn hb
        go_wp2_with fail
        go_quiet (fail)
        go_wp2
        go_ret2
        exact ⟨by rw [HS.out, HD.out]; rfl, ⟨rfl, rfl, rfl, rfl⟩⟩
    · have HS : Hid (spotN ns x = k) := spotN_eq x ns k hk HT.out (fun n hm => by rw [List.getElem?_eq_none (by omega)] at hm; cases hm)
      have HD : Hid (decide (ns[k]? = some x) = false) := by show _ = _; rw [List.getElem?_eq_none (by omega)]; simp
      have f2 : decide ((k : Int) < (ns.length : Int)) = false := by rw [decide_eq_false_iff_not]; omega
      clear HT hn
      go_wp2_with fail
      go_quiet (fail)
      go_wp2
      go_ret2
      exact ⟨by rw [HS.out, HD.out]; rfl, ⟨rfl, rfl, rfl, rfl⟩⟩
end Go.Proofs.YtnkjhooeklodcaaGreatDoor
end

section
/-
  DiskPlays: the document's disk in memory (Rk), and spot, Used, Fuse, New by contract.
-/
namespace Go.Proofs.YtnkjhooeklodcaaGreatDoor
open Go.RowKit Go.Maps Go.Sort

structure Fl3 where
  nm : List UInt8
  v : Value
  zs : List Int
  l : Nat
def Fl3.cells (f : Fl3) : List Value := [encStr f.nm, f.v, .int .i64 (f.l : Int)]
def cells3 (L : List Fl3) : List Value := L.flatMap Fl3.cells
theorem cells3_len (L : List Fl3) : (cells3 L).length = L.length * 3 := by
  induction L with
  | nil => rfl
  | cons f L ih =>
    have e : cells3 (f :: L) = f.cells ++ cells3 L := by simp [cells3]
    rw [e, List.length_append, ih, List.length_cons]
    simp [Fl3.cells]
    omega
theorem cells3_get : ∀ (L : List Fl3) (i j : Nat) (f : Fl3), L[i]? = some f → j < 3 → (cells3 L)[i * 3 + j]? = f.cells[j]?
  | [], _, _, _, h, _ => by simp at h
  | f :: L, 0, j, g, h, hj => by
    have e : cells3 (f :: L) = f.cells ++ cells3 L := by simp [cells3]
    have eg : f = g := by simpa using h
    rw [e, eg, Nat.zero_mul, Nat.zero_add, List.getElem?_append_left (by simp [Fl3.cells]; omega)]
  | f :: L, i + 1, j, g, h, hj => by
    have e : cells3 (f :: L) = f.cells ++ cells3 L := by simp [cells3]
    have h3 : f.cells.length = 3 := rfl
    rw [e, List.getElem?_append_right (by rw [h3]; omega), h3, show (i + 1) * 3 + j - 3 = i * 3 + j by omega]
    exact cells3_get L i j g (by simpa using h) hj

structure Rk (w : World) (base wb : Nat) (v : Value) (room left : Int) (L : List Fl3) : Prop where
  blk : Cw w wb [.int .i64 room, v, .int .i64 left] 91
  row : w.ownsRow base 110 3 v L.length (cells3 L)
  each : ∀ f ∈ L, Ow w base f.v f.zs ∧ (∀ z ∈ f.zs, 0 ≤ z ∧ z < 256) ∧ f.l ≤ f.zs.length ∧ ∀ k, f.v.ownBlock = some k → k ≠ wb ∧ v.ownBlock ≠ some k
  few : L.length ≤ 100000
  wbb : base ≤ wb
  sep : v.ownBlock ≠ some wb

theorem Rk.shape {w : World} {base wb : Nat} {v : Value} {room left : Int} {L : List Fl3} (h : Rk w base wb v room left L) : (v = .slice none 0 0 ∧ L = []) ∨ ∃ g cap, v = .slice (some ⟨g, 0, none⟩) L.length cap ∧ L.length ≤ cap ∧ cap ≤ maxLen ∧
    ∀ i f, L[i]? = some f → w.cell? ⟨g, i * 3, none⟩ = some (encStr f.nm) ∧ w.cell? ⟨g, i * 3 + 1, none⟩ = some f.v ∧ w.cell? ⟨g, i * 3 + 2, none⟩ = some (.int .i64 (f.l : Int)) := by
  rcases h.row.2 with ⟨rfl, h0⟩ | ⟨g, cap, cur, rfl, hb, hg, hn, hc, hs, ht⟩
  · exact Or.inl ⟨rfl, List.eq_nil_of_length_eq_zero h0⟩
  · refine Or.inr ⟨g, cap, rfl, hn, hc, fun i f hf => ?_⟩
    have key : ∀ j u, j < 3 → f.cells[j]? = some u → w.cell? ⟨g, i * 3 + j, none⟩ = some u := by
      intro j u hj hu
      have := World.ownsRow.cells h.row (g := g) rfl (i * 3 + j) u (by rw [cells3_get L i j f hf hj]; exact hu)
      simpa [Addr.add_lit] using this
    exact ⟨key 0 _ (by omega) rfl, key 1 _ (by omega) rfl, key 2 _ (by omega) rfl⟩

def names3 (L : List Fl3) : List (List UInt8) := L.map (·.nm)

set_option maxHeartbeats 1600000 in
set_option maxRecDepth 20000 in
theorem spot_any (base wb : Nat) (v : Value) (room left : Int) (L : List Fl3) (x : List UInt8) (w : World) (h : Rk w base wb v room left L) :
    Calls Tryz.prog 69 #[.pointer (some ⟨wb, 0, none⟩), encStr x] w fun e w' => e = .returned (.tuple #[.int .i64 (spotN (names3 L) x), .bool (decide ((names3 L)[spotN (names3 L) x]? = some x))]) ∧ Sm w w' := by
  have hln : (names3 L).length = L.length := by simp [names3]
  rcases h.shape with ⟨rfl, rfl⟩ | ⟨g, cap, rfl, h1, h2, hc⟩
  · have hc := h.blk.cell 1
    simp at hc
    have e : spotN (names3 []) x = 0 := rfl
    have e2 : decide ((names3 [])[0]? = some x) = false := rfl
    rw [e, e2]
    go_enter Tryz.func69, Tryz.ntmps69
    go_wp2
    go_loop [6] (fun i => i = .int .i64 0) (fun _ => 0)
    case atStart => rfl
    case round =>
      obtain rfl := hrel
      go_wp2_with fail
      go_quiet (fail)
      go_wp2
      go_ret2
      exact ⟨rfl, ⟨rfl, rfl, rfl, rfl⟩⟩
  · refine spot_some wb g cap room left (names3 L) x w (by rw [hln]; exact h.blk) (by rw [hln]; exact h.few) (fun i n hi => ?_)
    obtain ⟨f, hf, rfl⟩ : ∃ f, L[i]? = some f ∧ f.nm = n := by
      simp only [names3, List.getElem?_map, Option.map_eq_some_iff] at hi
      exact hi
    exact (hc i f hf).1

def tot3 (L : List Fl3) : Nat := (L.map fun f => f.zs.length).sum
theorem tot3_take {L : List Fl3} {i : Nat} {f : Fl3} (h : L[i]? = some f) : tot3 (L.take (i + 1)) = tot3 (L.take i) + f.zs.length := by
  obtain ⟨hi, e⟩ := List.getElem?_eq_some_iff.1 h
  rw [List.take_succ_eq_append_getElem hi, e]
  simp [tot3]
theorem tot3_append (a b : List Fl3) : tot3 (a ++ b) = tot3 a + tot3 b := by simp [tot3]
theorem tot3_le (L : List Fl3) (i : Nat) : tot3 (L.take i) ≤ tot3 L := by
  have := tot3_append (L.take i) (L.drop i)
  rw [List.take_append_drop] at this
  omega

set_option maxHeartbeats 1600000 in
set_option maxRecDepth 20000 in
theorem used_any (base wb : Nat) (v : Value) (room left : Int) (L : List Fl3) (w : World) (h : Rk w base wb v room left L) (hT : tot3 L ≤ 1099511627776) :
    Calls Tryz.prog 70 #[.pointer (some ⟨wb, 0, none⟩)] w fun e w' => e = .returned (.int .i64 (tot3 L)) ∧ w = w' := by
  have hc := h.blk.cell 1
  simp at hc
  have few := h.few
  have shp := h.shape
  have hv : ∃ ao cap, v = .slice ao L.length cap := by
    rcases shp with ⟨rfl, rfl⟩ | ⟨g, cap, rfl, _⟩
    · exact ⟨none, 0, rfl⟩
    · exact ⟨_, cap, rfl⟩
  obtain ⟨ao, cap, rfl⟩ := hv
  have each : ∀ f ∈ L, ∃ a c, f.v = .slice a f.zs.length c := fun f hf => by
    obtain ⟨a, c, e, _⟩ := (h.each f hf).1.form
    exact ⟨a, c, e⟩
  clear h
  go_enter Tryz.func70, Tryz.ntmps70
  go_wp2
  go_loop [3, 4] (fun n i => ∃ k : Nat, k ≤ L.length ∧ i = .int .i64 k ∧ n = .int .i64 (tot3 (L.take k))) (fun _ i => L.length - (intOf i).toNat)
  case atStart => exact ⟨0, Nat.zero_le _, rfl, rfl⟩
  case round =>
    obtain ⟨k, hk, rfl, rfl⟩ := hrel
    by_cases hlt : k < L.length
    · obtain ⟨f, hf⟩ : ∃ f, L[k]? = some f := ⟨_, List.getElem?_eq_getElem hlt⟩
      rcases shp with ⟨_, rfl⟩ | ⟨g, c2, hv2, h1, h2, hcell⟩
      · simp at hlt
      simp only [Value.slice.injEq] at hv2
      obtain ⟨rfl, _, rfl⟩ := hv2
      have hcf := (hcell k f hf).2.1
      obtain ⟨a, c, ef⟩ := each f (List.mem_of_getElem? hf)
      rw [ef] at hcf
      have HT : Hid (tot3 (L.take (k + 1)) = tot3 (L.take k) + f.zs.length) := tot3_take hf
      have hle := tot3_le L (k + 1)
      rw [HT.out] at hle
      have f1 : (0 : Int) ≤ (k : Int) := by omega
      have f2 : (k : Int) < (L.length : Int) := by omega
      generalize tot3 (L.take k) = t at *
      generalize f.zs.length = zl at *
      clear hcell each hf ef
      go_wp2
      go_round
      case rel => exact ⟨k + 1, by omega, by go_num, by rw [HT.out]; go_num⟩
      case measure => simp [intOf]; omega
    · have hke : L.take k = L := List.take_of_length_le (by omega)
      rw [hke]
      have f2 : ¬ (k : Int) < (L.length : Int) := by omega
      clear shp each hke
      go_wp2
      go_ret
      exact ⟨rfl, rfl⟩

set_option maxHeartbeats 800000 in
theorem fuse3_any (wb : Nat) (room : Int) (v : Value) (left n : Int) (w : World) (h : Cw w wb [.int .i64 room, v, .int .i64 left] 91) :
    Calls Tryz.prog 15 #[.pointer (some ⟨wb, 0, none⟩), .int .i64 n] w fun e w' => e = .returned (.tuple #[]) ∧ w' = w.setCell ⟨wb, 2, none⟩ (.int .i64 (max (-1) n)) := by
  have hc := h.cell 2
  have hf := h.frozen 2
  simp at hc
  clear h
  by_cases hn : n < -1
  · rw [show max (-1) n = -1 by omega]
    have hn' : ¬ (-1 < n) := by omega
    go_enter Tryz.func15, Tryz.ntmps15
    go_wp2
    go_end0
    exact ⟨rfl, rfl⟩
  · rw [show max (-1) n = n by omega]
    have hn' : -1 ≤ n := by omega
    go_enter Tryz.func15, Tryz.ntmps15
    go_wp2
    all_goals
      go_end0
      exact ⟨rfl, by first | rfl | (congr 2; omega)⟩

set_option maxHeartbeats 800000 in
theorem new3_bad (room : Int) (w : World) (h : room < 0 ∨ 1073741824 < room) : Calls Tryz.prog 36 #[.int .i64 room] w fun e w' => e = .returned (.tuple #[.pointer none, .int .i64 1]) ∧ w = w' := by
  by_cases h0 : room < 0
  · clear h
    go_enter Tryz.func36, Tryz.ntmps36
    go_wp2
    go_ret2
    exact ⟨rfl, rfl⟩
  · have h1 : 1073741824 < room := by omega
    clear h
    go_enter Tryz.func36, Tryz.ntmps36
    go_wp2
    go_ret2
    exact ⟨rfl, rfl⟩
set_option maxHeartbeats 800000 in
theorem new3_any (room : Int) (w : World) (h0 : 0 ≤ room) (h1 : room ≤ 1073741824) : Calls Tryz.prog 36 #[.int .i64 room] w fun e w' => e = .returned (.tuple #[.pointer (some ⟨w.heap.size, 0, none⟩), .int .i64 0]) ∧ Rk w' w.heap.size w.heap.size (.slice none 0 0) room (-1) [] ∧ Below w.heap.size w w' := by
  have hr : Rk (w.alloc (.cells #[.int .i64 room, .slice none 0 0, .int .i64 (-1)] 91)) w.heap.size w.heap.size (.slice none 0 0) room (-1) [] :=
    ⟨Cw.new w _ 91, World.ownsRow_nil _ _ _ _, fun f hf => (by cases hf), by simp, Nat.le_refl _, by simp [Value.ownBlock]⟩
  have hB : Below w.heap.size w (w.alloc (.cells #[.int .i64 room, .slice none 0 0, .int .i64 (-1)] 91)) := (Below.refl _ _).alloc (Nat.le_refl _) _
  go_enter Tryz.func36, Tryz.ntmps36
  go_wp2
  go_ret2
  exact ⟨rfl, hr, hB⟩
end Go.Proofs.YtnkjhooeklodcaaGreatDoor
end

section
/-
  DiskPlays: the document's may, and Read, by contract.
-/
namespace Go.Proofs.YtnkjhooeklodcaaGreatDoor
open Go.RowKit Go.Maps Go.Sort

def badN (n : List UInt8) : Bool := decide (n.length < 1) || decide (64 < n.length)
def mayE (left : Int) (ns : List (List UInt8)) : Int := if left = 0 then 9 else if ns.any badN then 1 else 0

set_option maxHeartbeats 1600000 in
set_option maxRecDepth 20000 in
theorem may_any (wb g cap : Nat) (room : Int) (v : Value) (left : Int) (ns : List (List UInt8)) (w : World) (h : Cw w wb [.int .i64 room, v, .int .i64 left] 91) (hl : ns.length ≤ 100) (hsz : ∀ n ∈ ns, n.length ≤ 140737488355328)
    (hn : ∀ i n, ns[i]? = some n → w.cell? ⟨g, i, none⟩ = some (encStr n)) :
    Calls Tryz.prog 68 #[.pointer (some ⟨wb, 0, none⟩), .slice (some ⟨g, 0, none⟩) ns.length cap] w fun e w' => e = .returned (.int .i64 (mayE left ns)) ∧ w = w' := by
  have hc := h.cell 2
  simp at hc
  clear h
  by_cases h0 : left = 0
  · have e : mayE left ns = 9 := if_pos h0
    rw [e]
    subst h0
    go_enter Tryz.func68, Tryz.ntmps68
    go_wp2
    go_ret
    exact ⟨rfl, rfl⟩
  have h0' : (left == 0) = false := by simpa using h0
  have HE : Hid (mayE left ns = if ns.any badN then 1 else 0) := if_neg h0
  go_enter Tryz.func68, Tryz.ntmps68
  go_wp2
  go_loop [5] (fun i => ∃ k : Nat, k ≤ ns.length ∧ i = .int .i64 k ∧ Hid (∀ n ∈ ns.take k, badN n = false)) (fun i => ns.length - (intOf i).toNat)
  case atStart => exact ⟨0, Nat.zero_le _, rfl, by show ∀ n ∈ _, _; simp⟩
  case round =>
    obtain ⟨k, hk, rfl, HT⟩ := hrel
    by_cases hlt : k < ns.length
    · obtain ⟨nk, hnk⟩ : ∃ nk, ns[k]? = some nk := ⟨_, List.getElem?_eq_getElem hlt⟩
      have hck := hn k nk hnk
      have hm := List.mem_of_getElem? hnk
      have hs := hsz nk hm
      have f1 : (0 : Int) ≤ (k : Int) := by omega
      have f2 : (k : Int) < (ns.length : Int) := by omega
      by_cases hb : badN nk = true
      · have H1 : Hid (mayE left ns = 1) := by show _ = _; rw [HE.out, if_pos (List.any_eq_true.2 ⟨nk, hm, hb⟩)]
        by_cases hs1 : nk.length < 1
        · have hs1' : (nk.length : Int) < 1 := by omega
          clear HT HE hnk hb hn
          go_wp2
          go_ret
          exact ⟨by rw [H1.out]; rfl, rfl⟩
        · have hs2 : 64 < nk.length := by
            unfold badN at hb
            rw [Bool.or_eq_true, decide_eq_true_eq, decide_eq_true_eq] at hb
            omega
          have hs1' : ¬ (nk.length : Int) < 1 := by omega
          have hs2' : (64 : Int) < (nk.length : Int) := by omega
          clear HT HE hnk hb hn
          go_wp2
          go_ret
          exact ⟨by rw [H1.out]; rfl, rfl⟩
      · have hb' : badN nk = false := by simpa using hb
        have hs3 : ¬ nk.length < 1 ∧ ¬ 64 < nk.length := by
          unfold badN at hb'
          rw [Bool.or_eq_false_iff, decide_eq_false_iff_not, decide_eq_false_iff_not] at hb'
          exact hb'
        have hs1' : ¬ (nk.length : Int) < 1 := by omega
        have hs2' : ¬ (64 : Int) < (nk.length : Int) := by omega
        have HN : Hid (∀ n ∈ ns.take (k + 1), badN n = false) := by
          show ∀ n ∈ _, _
          obtain ⟨hi, e⟩ := List.getElem?_eq_some_iff.1 hnk
          rw [List.take_succ_eq_append_getElem hi, e]
          intro n hmem
          rcases List.mem_append.1 hmem with h | h
          · exact HT.out n h
          · have : n = nk := by simpa using h
            rw [this]; exact hb'
        clear HT hnk hb hb' hn
        go_wp2
        go_round
        case rel => exact ⟨k + 1, by omega, by go_num, HN⟩
        case measure => simp [intOf]; omega
    · have H0 : Hid (mayE left ns = 0) := by
        show _ = _
        have ht := HT.out
        rw [List.take_of_length_le (by omega)] at ht
        rw [HE.out, if_neg (fun e => by obtain ⟨n, h1, h2⟩ := List.any_eq_true.1 e; rw [ht n h1] at h2; cases h2)]
      have f2 : ¬ (k : Int) < (ns.length : Int) := by omega
      clear HT HE hn
      go_wp2
      go_ret
      exact ⟨by rw [H0.out]; rfl, rfl⟩

theorem ownsRow_sm {w w' : World} {base : Nat} {t : TypeId} {sz : Nat} {v : Value} {n : Nat} {cs : List Value} (h : w.ownsRow base t sz v n cs) (hs : Sm w w') : w'.ownsRow base t sz v n cs := by
  refine ⟨h.1, ?_⟩
  rcases h.2 with h2 | ⟨g, cap, cur, rfl, hb, hg, rest⟩
  · exact Or.inl h2
  · exact Or.inr ⟨g, cap, cur, rfl, hb, by rw [hs.heap]; exact hg, rest⟩
theorem Rk.sm {w w' : World} {base wb : Nat} {v : Value} {room left : Int} {L : List Fl3} (h : Rk w base wb v room left L) (hs : Sm w w') : Rk w' base wb v room left L :=
  ⟨hs.cw h.blk, ownsRow_sm h.row hs, fun f hf => ⟨hs.ow (h.each f hf).1, (h.each f hf).2⟩, h.few, h.wbb, h.sep⟩

set_option maxHeartbeats 1600000 in
set_option maxRecDepth 20000 in
theorem read3_none (base wb : Nat) (v : Value) (room left : Int) (L : List Fl3) (x : List UInt8) (w : World) (h : Rk w base wb v room left L) (hx : (names3 L)[spotN (names3 L) x]? ≠ some x) :
    Calls Tryz.prog 46 #[.pointer (some ⟨wb, 0, none⟩), encStr x] w fun e w' => e = .returned (.tuple #[.slice none 0 0, .int .i64 7]) ∧ Sm w w' := by
  have C := spot_any base wb v room left L x w h
  rw [decide_eq_false hx] at C
  generalize spotN (names3 L) x = k at *
  go_enter Tryz.func46, Tryz.ntmps46
  go_wp2_with fail
  refine C.mono ?_
  rintro e w1 ⟨rfl, hs⟩
  go_wp2
  go_ret2
  exact ⟨rfl, hs⟩

set_option maxHeartbeats 1600000 in
set_option maxRecDepth 20000 in
theorem read3_some (base wb : Nat) (v : Value) (room left : Int) (L : List Fl3) (x : List UInt8) (f : Fl3) (w : World) (h : Rk w base wb v room left L) (hf : L[spotN (names3 L) x]? = some f) (hx : f.nm = x) (hz : f.zs.length ≤ 100000000000) :
    Calls Tryz.prog 46 #[.pointer (some ⟨wb, 0, none⟩), encStr x] w fun e w' => ∃ ao cap, e = .returned (.tuple #[.slice ao f.zs.length cap, .int .i64 0]) ∧ Ow w' w.heap.size (.slice ao f.zs.length cap) f.zs ∧ Below w.heap.size w w' := by
  have C := spot_any base wb v room left L x w h
  rw [decide_eq_true (show (names3 L)[spotN (names3 L) x]? = some x by simp [names3] at hf ⊢; exact ⟨f, hf, hx⟩)] at C
  generalize spotN (names3 L) x = k at *
  have hk : k < L.length := (List.getElem?_eq_some_iff.1 hf).1
  have few := h.few
  go_enter Tryz.func46, Tryz.ntmps46
  go_wp2_with fail
  refine C.mono ?_
  rintro e w1 ⟨rfl, hs⟩
  have h1 := h.sm hs
  rcases h1.shape with ⟨_, h0⟩ | ⟨g, cap, rfl, hc1, hc2, hcell⟩
  · rw [h0] at hk; simp at hk
  have hcb := h1.blk.cell 1
  simp at hcb
  have hcf := (hcell k f hf).2.1
  have hof := (h1.each f (List.mem_of_getElem? hf)).1
  obtain ⟨af, cf, ef, _⟩ := hof.form
  rw [ef] at hcf hof
  have hlt1 := World.block_lt_of_cell? w1 _ hcb
  have hlt2 := World.block_lt_of_cell? w1 _ hcf
  simp only at hlt1 hlt2
  have hA : Below w1.heap.size w1 (w1.alloc (.cells #[] 5)) := (Below.refl _ _).alloc (Nat.le_refl _) _
  have ho : Ow (w1.alloc (.cells #[] 5)) w1.heap.size (.slice (some ⟨w1.heap.size, 0, none⟩) 0 0) [] := Ow_of_block (heap_alloc_new w1 _) (by simp) (Nat.le_refl _)
  have hbf : Bs (w1.alloc (.cells #[] 5)) (.slice af f.zs.length cf) f.zs := hof.bs.below hA (Nat.le_refl _)
  have f1 : (0 : Int) ≤ (k : Int) := by omega
  have f2 : (k : Int) < (L.length : Int) := by omega
  have hsz : w1.heap.size = w.heap.size := hs.size
  have HS : Hid (w1.heap.size = w.heap.size) := hsz
  have hBs : Below w.heap.size w w1 := hs.below _
  clear hcell hof C h h1 hf hsz ef hx
  go_wp2_with (at_builtin; refine wpList_append_bs _ rfl (.tmp 16) (.tmp 24) rfl w1.heap.size _ [] rfl ho (.slice af f.zs.length cf) f.zs (by rfl) hbf (by simp; omega) (by simp) ?_)
  intro ao3 cap3 w3 ho3 hg3 hat3
  have ho3' : Ow w3 w.heap.size (.slice ao3 f.zs.length cap3) f.zs := by
    rw [← HS.out]; simpa using ho3
  have hB3 : Below w.heap.size w w3 := by
    refine (hBs.trans (hA.mono (Nat.le_of_eq HS.out.symm))).trans ⟨hg3.os, hg3.tape, hg3.output, hg3.size, fun q hq => hg3.block q (by simp; have := HS.out; omega) (fun e => ?_)⟩
    have e' : q = w1.heap.size := by simpa [Value.ownBlock] using e
    have := HS.out
    omega
  clear ho3 hg3 hat3 ho hbf
  go_wp2
  go_ret2
  exact ⟨ao3, cap3, rfl, ho3', hB3⟩
end Go.Proofs.YtnkjhooeklodcaaGreatDoor
end

section
/-
  DiskPlays: the document's Names, by contract.
-/
namespace Go.Proofs.YtnkjhooeklodcaaGreatDoor
open Go.RowKit Go.Maps Go.Sort

theorem Tryz.info9p : (Tryz.prog.info? 9).map (fun i => (i.zero, i.size, i.bytes)) = some (some (.string ⟨#[]⟩), 1, 16) := by kernel_rfl
theorem mk_str1 (W : World) (s : ByteArray) : (Instr.buildSlice 69 1 #[(0, .string s)]).run Tryz.prog W = .ok (.slice (some ⟨W.heap.size, 0, none⟩) 1 1) (W.alloc (.cells #[.string s] 9)) := by kernel_rfl
theorem wpList_made_str (w : World) {ops : Array Oper} {rest : List Oper} {o : Oper} {a : Act} {Q : Exit → Act → World → Prop} (hgd : o.guard = none) (x : Operand) (ho : o.op = .buildSlice 69 1 #[(0, x)]) (s : List UInt8) (hx : a.eval x = encStr s)
    (h : wpList Tryz.prog ops Q rest (a.put o.dst (.slice (some ⟨w.heap.size, 0, none⟩) 1 1)) (w.alloc (.cells #[encStr s] 9))) : wpList Tryz.prog ops Q (o :: rest) a w := by
  refine wpList_plain hgd fun _ hK => ?_
  unfold Oper.wp execOp
  simp only [ho, Sem.run_bind, List.map_toArray, List.map_cons, List.map_nil, hx, mk_str1, Result.andThen_ok]
  exact hK _ _ h
def Ot (w : World) (base : Nat) (v : Value) (ss : List (List UInt8)) : Prop := w.ownsRow base 9 1 v ss.length (ss.map encStr)
theorem Ot.form {w : World} {base : Nat} {v : Value} {ss : List (List UInt8)} (h : Ot w base v ss) : ∃ ao cap, v = .slice ao ss.length cap := by
  rcases h.2 with ⟨rfl, h0⟩ | ⟨g, cap, cur, rfl, _⟩
  · exact ⟨none, 0, by rw [h0]⟩
  · exact ⟨_, cap, rfl⟩
theorem wpList_append_str (w : World) {ops : Array Oper} {rest : List Oper} {o : Oper} {a : Act} {Q : Exit → Act → World → Prop} (hgd : o.guard = none) (s x : Operand)
    (ho : o.op = .call { callee := .builtin .append, args := #[s, x], argTypes := #[69, 69] })
    (base : Nat) (v : Value) (ss : List (List UInt8)) (hs : a.eval s = v) (hown : Ot w base v ss) (B : Nat) (n : List UInt8) (hx : a.eval x = .slice (some ⟨B, 0, none⟩) 1 1) (hb : w.cell? ⟨B, 0, none⟩ = some (encStr n))
    (h63 : ss.length ≤ 1000000000) (hbase : base ≤ w.heap.size)
    (h : ∀ ao cap w', Ot w' base (.slice ao (ss.length + 1) cap) (ss ++ [n]) → w.grownBy w' v.ownBlock →
      wpList Tryz.prog ops Q rest (a.put o.dst (.slice ao (ss.length + 1) cap)) w') : wpList Tryz.prog ops Q (o :: rest) a w := by
  obtain ⟨i0, hi, hz0, hz1, hz2⟩ := info_parts Tryz.info9p
  obtain ⟨v', w', hrun, h2, h3, _, h5⟩ := run_append_own_at (P := Tryz.prog) w base 69 o.type 9 i0 (.string ⟨#[]⟩) 1 16 Tryz.underlying69 hi hz0 hz1 hz2 rfl (by decide) v ss.length (ss.map encStr) hown ⟨B, 0, none⟩ 1 1 [encStr n] rfl
    (by intro j u hu
        cases j with
        | zero => rw [Addr.add_lit]; simp at hu; subst hu; exact hb
        | succ j => simp at hu) (by intro u hu; simp at hu; subst hu; rfl) (by unfold maxLen; omega) (by omega) hbase
  have h2' : Ot w' base v' (ss ++ [n]) := by
    unfold Ot
    rw [List.length_append]
    simpa using h2
  obtain ⟨ao, cap, hv⟩ := h2'.form
  rw [List.length_append] at hv
  subst hv
  refine wpList_plain hgd fun _ hK => ?_
  unfold Oper.wp execOp
  simp only [ho, resolve, invoke, builtin, Sem.run_bind, Sem.run_pure, Result.andThen_ok, List.map_toArray, List.map_cons, List.map_nil, hs, hx, hrun]
  exact hK _ _ (h ao cap w' h2' h3)

theorem ownsRow_below {w w' : World} {base : Nat} {t : TypeId} {sz : Nat} {v : Value} {n : Nat} {cs : List Value} (h : w.ownsRow base t sz v n cs) (hb : Below w.heap.size w w') : w'.ownsRow base t sz v n cs := by
  refine ⟨h.1, ?_⟩
  rcases h.2 with h2 | ⟨g, cap, cur, rfl, hg0, hg, rest⟩
  · exact Or.inl h2
  · exact Or.inr ⟨g, cap, cur, rfl, hg0, by rw [hb.block g (Array.getElem?_eq_some_iff.1 hg).1]; exact hg, rest⟩
theorem Rk.below {w w' : World} {base wb : Nat} {v : Value} {room left : Int} {L : List Fl3} (h : Rk w base wb v room left L) (hb : Below w.heap.size w w') : Rk w' base wb v room left L :=
  ⟨by have hlt := h.blk.lt; unfold Cw; rw [hb.block wb hlt]; exact h.blk, ownsRow_below h.row hb, fun f hf => ⟨ownsRow_below (h.each f hf).1 hb, (h.each f hf).2⟩, h.few, h.wbb, h.sep⟩

set_option maxHeartbeats 1600000 in
set_option maxRecDepth 20000 in
theorem names3_any (base wb : Nat) (v : Value) (room left : Int) (L : List Fl3) (w : World) (h : Rk w base wb v room left L) :
    Calls Tryz.prog 45 #[.pointer (some ⟨wb, 0, none⟩)] w fun e w' => ∃ ao cap, e = .returned (.slice ao (names3 L).length cap) ∧ Ot w' w.heap.size (.slice ao (names3 L).length cap) (names3 L) ∧ Below w.heap.size w w' := by
  have few := h.few
  have hnl : Hid ((names3 L).length = L.length) := by show _ = _; simp [names3]
  have hv : ∃ ao cap, v = .slice ao L.length cap := by
    rcases h.shape with ⟨rfl, rfl⟩ | ⟨g, cap, rfl, _⟩
    · exact ⟨none, 0, rfl⟩
    · exact ⟨_, cap, rfl⟩
  obtain ⟨av, cv, rfl⟩ := hv
  go_enter Tryz.func45, Tryz.ntmps45
  go_wp2
  go_loopw [3, 4] (fun l i wr => ∃ k : Nat, k ≤ L.length ∧ i = .int .i64 k ∧ Ot wr w.heap.size l ((names3 L).take k) ∧ Below w.heap.size w wr) (fun _ i _ => L.length - (intOf i).toNat)
  case atStart => exact ⟨0, Nat.zero_le _, rfl, World.ownsRow_nil _ _ _ _, Below.refl _ _⟩
  case round =>
    obtain ⟨k, hk, rfl, hot, hB⟩ := hrel
    have hr := h.below hB
    have hcb := hr.blk.cell 1
    simp at hcb
    obtain ⟨al, cl, hvl⟩ := hot.form
    have lk : ((names3 L).take k).length = k := by have := hnl.out; simp; omega
    rw [lk] at hvl
    subst hvl
    by_cases hlt : k < L.length
    · obtain ⟨f, hf⟩ : ∃ f, L[k]? = some f := ⟨_, List.getElem?_eq_getElem hlt⟩
      rcases hr.shape with ⟨_, h0⟩ | ⟨g, cap, hv2, hc1, hc2, hcell⟩
      · rw [h0] at hlt; simp at hlt
      simp only [Value.slice.injEq] at hv2
      obtain ⟨rfl, _, rfl⟩ := hv2
      have hcf := (hcell k f hf).1
      have HT : Hid ((names3 L).take (k + 1) = (names3 L).take k ++ [f.nm]) := by
        show _ = _
        have e : (names3 L)[k]? = some f.nm := by simp [names3, hf]
        obtain ⟨hi, e2⟩ := List.getElem?_eq_some_iff.1 e
        rw [List.take_succ_eq_append_getElem hi, e2]
      have hA : Below wr.heap.size wr (wr.alloc (.cells #[encStr f.nm] 9)) := (Below.refl _ _).alloc (Nat.le_refl _) _
      have hot1 : Ot (wr.alloc (.cells #[encStr f.nm] 9)) w.heap.size (.slice al k cl) ((names3 L).take k) := ownsRow_below hot hA
      have hcl : (wr.alloc (.cells #[encStr f.nm] 9)).cell? ⟨wr.heap.size, 0, none⟩ = some (encStr f.nm) := by
        rw [cell_of_row _ _ 0 _ _ _ (heap_alloc_new wr _)]; rfl
      have hBa : Below w.heap.size w (wr.alloc (.cells #[encStr f.nm] 9)) := hB.alloc hB.size _
      have f1 : (0 : Int) ≤ (k : Int) := by omega
      have f2 : (k : Int) < (L.length : Int) := by omega
      have hlk : ((names3 L).take k).length ≤ 1000000000 := by omega
      have hfrom : ∀ q, (Value.slice al k cl).ownBlock = some q → w.heap.size ≤ q := fun q hq => (World.ownsRow.lt hot1 q hq).1
      have HLK : Hid (((names3 L).take k).length = k) := lk
      clear hcell hr hot lk hf h
      generalize f.nm = nm at *
      go_wp2_with (first | (refine wpList_made_str _ rfl (.tmp 22) rfl nm rfl ?_) | (at_builtin; refine wpList_append_str _ rfl (.tmp 14) (.tmp 23) rfl w.heap.size (.slice al k cl) ((names3 L).take k) (by rfl) hot1 wr.heap.size nm (by rfl) hcl hlk hBa.size ?_))
      intro ao2 cap2 w2 hot2 hg2
      have hB2 : Below w.heap.size w w2 := hBa.trans ⟨hg2.os, hg2.tape, hg2.output, hg2.size, fun q hq => hg2.block q (by have := hBa.size; omega) (fun e => by have := hfrom q e.symm; omega)⟩
      rw [← HT.out] at hot2
      clear hot1 hcl hBa hA hg2 hfrom hlk
      go_wp2
      go_roundw
      case rel => exact ⟨k + 1, by omega, by go_num, hot2, hB2⟩
      case measure => simp [intOf]; omega
    · have hke : (names3 L).take k = names3 L := List.take_of_length_le (by have := hnl.out; omega)
      have hke2 : k = L.length := by omega
      have HO : Hid (Ot wr w.heap.size (.slice al (names3 L).length cl) (names3 L)) := by
        show Ot _ _ _ _
        rw [hke] at hot
        rw [hnl.out, ← hke2]; exact hot
      have HK : Hid (k = (names3 L).length) := by show _ = _; rw [hnl.out]; exact hke2
      have f2 : ¬ (k : Int) < (L.length : Int) := by omega
      clear hot hke hke2 hr h lk
      go_wp2
      go_ret
      exact ⟨al, cl, by rw [← HK.out]; rfl, HO.out, hB⟩
end Go.Proofs.YtnkjhooeklodcaaGreatDoor
end

section
/-
  DiskPlays: what a store into a file's row, or into the disk's own block, leaves of the document's disk.
-/
namespace Go.Proofs.YtnkjhooeklodcaaGreatDoor
open Go.RowKit Go.Maps Go.Sort

theorem ownsRow_other {w : World} {base : Nat} {t : TypeId} {sz : Nat} {v : Value} {n : Nat} {cs : List Value} (h : w.ownsRow base t sz v n cs) (b i : Nat) (u : Value) (hb : v.ownBlock ≠ some b) : (w.setCell ⟨b, i, none⟩ u).ownsRow base t sz v n cs := by
  refine ⟨h.1, ?_⟩
  rcases h.2 with h2 | ⟨g, cap, cur, rfl, hg0, hg, rest⟩
  · exact Or.inl h2
  · exact Or.inr ⟨g, cap, cur, rfl, hg0, by rw [Below.heap_setCell _ _ _ _ (fun e => hb (by simp [Value.ownBlock]; exact e))]; exact hg, rest⟩
theorem ownsRow_set {w : World} {base : Nat} {t : TypeId} {sz g cap n : Nat} {cs : List Value} (h : w.ownsRow base t sz (.slice (some ⟨g, 0, none⟩) n cap) n cs) (i : Nat) (u : Value) :
    (w.setCell ⟨g, i, none⟩ u).ownsRow base t sz (.slice (some ⟨g, 0, none⟩) n cap) n (cs.set i u) := by
  refine ⟨by simpa using h.1, ?_⟩
  rcases h.2 with ⟨h2, _⟩ | ⟨g', cap', cur, he, hg0, hg, hn, hc, hs, ht⟩
  · simp at h2
  · simp only [Value.slice.injEq, Option.some.injEq, Addr.mk.injEq, and_true, true_and] at he
    obtain ⟨rfl, rfl⟩ := he
    refine Or.inr ⟨g, cap, cur.setIfInBounds i u, rfl, hg0, ?_, hn, hc, by simpa using hs, ?_⟩
    · simp only [World.setCell, Array.getElem?_modify, hg]
      simp
    · rw [Array.toList_setIfInBounds, List.take_set, ht]
theorem cells3_set : ∀ (L : List Fl3) (k : Nat) (f : Fl3) (n : Nat), L[k]? = some f → cells3 (L.set k { f with l := n }) = (cells3 L).set (k * 3 + 2) (.int .i64 (n : Int))
  | [], _, _, _, h => by simp at h
  | g :: L, 0, f, n, h => by
    have e : g = f := by simpa using h
    subst e
    simp [cells3, Fl3.cells]
  | g :: L, k + 1, f, n, h => by
    have ih := cells3_set L k f n (by simpa using h)
    have e1 : cells3 (g :: L) = g.cells ++ cells3 L := by simp [cells3]
    have e2 : cells3 ((g :: L).set (k + 1) { f with l := n }) = g.cells ++ cells3 (L.set k { f with l := n }) := by simp [cells3]
    have h3 : g.cells.length = 3 := rfl
    rw [e1, e2, ih, List.set_append_right _ _ (by rw [h3]; omega), h3, show (k + 1) * 3 + 2 - 3 = k * 3 + 2 by omega]

theorem Rk.setL {w : World} {base wb g cap : Nat} {room left : Int} {L : List Fl3} {k n : Nat} {f : Fl3} (h : Rk w base wb (.slice (some ⟨g, 0, none⟩) L.length cap) room left L) (hf : L[k]? = some f) (hn : n ≤ f.zs.length) :
    Rk (w.setCell ⟨g, k * 3 + 2, none⟩ (.int .i64 (n : Int))) base wb (.slice (some ⟨g, 0, none⟩) (L.set k { f with l := n }).length cap) room left (L.set k { f with l := n }) := by
  have hgw : g ≠ wb := fun e => h.sep (by simp [Value.ownBlock]; exact e)
  refine ⟨?_, ?_, ?_, by simpa using h.few, h.wbb, by simpa [Value.ownBlock] using hgw⟩
  · rw [List.length_set]
    have := h.blk
    unfold Cw at this ⊢
    rw [Below.heap_setCell _ _ _ _ (fun e => hgw e.symm)]
    exact this
  · rw [cells3_set L k f n hf, List.length_set]
    exact ownsRow_set h.row _ _
  · intro q hq
    have key : ∀ p ∈ L, Ow (w.setCell ⟨g, k * 3 + 2, none⟩ (.int .i64 (n : Int))) base p.v p.zs ∧ ∀ b, p.v.ownBlock = some b → b ≠ wb ∧ (Value.slice (some ⟨g, 0, none⟩) (L.set k { f with l := n }).length cap).ownBlock ≠ some b := by
      intro p hp
      obtain ⟨h1, _, _, h4⟩ := h.each p hp
      have hne : p.v.ownBlock ≠ some g := fun e => (h4 g e).2 (by simp [Value.ownBlock])
      exact ⟨ownsRow_other h1 g _ _ hne, fun b hb => ⟨(h4 b hb).1, by simpa [Value.ownBlock] using (h4 b hb).2⟩⟩
    rcases List.mem_or_eq_of_mem_set hq with hm | rfl
    · obtain ⟨_, h2, h3, _⟩ := h.each q hm
      exact ⟨(key q hm).1, h2, h3, (key q hm).2⟩
    · have hm := List.mem_of_getElem? hf
      obtain ⟨_, h2, _, _⟩ := h.each f hm
      exact ⟨(key f hm).1, h2, hn, (key f hm).2⟩
theorem Rk.setF {w : World} {base wb : Nat} {v : Value} {room left left' : Int} {L : List Fl3} (h : Rk w base wb v room left L) : Rk (w.setCell ⟨wb, 2, none⟩ (.int .i64 left')) base wb v room left' L := by
  refine ⟨?_, ownsRow_other h.row wb _ _ h.sep, fun f hf => ?_, h.few, h.wbb, h.sep⟩
  · have := h.blk
    unfold Cw at this ⊢
    simp only [World.setCell, Array.getElem?_modify, this]
    simp
  · obtain ⟨h1, h2, h3, h4⟩ := h.each f hf
    exact ⟨ownsRow_other h1 wb _ _ (fun e => (h4 wb e).1 rfl), h2, h3, h4⟩
def didL (left : Int) : Int := if 0 < left then left - 1 else left
theorem Rk.did {w : World} {base wb : Nat} {v : Value} {room left : Int} {L : List Fl3} (h : Rk w base wb v room left L) : Rk (didW w wb left) base wb v room (didL left) L := by
  unfold didW didL
  split
  · exact h.setF
  · exact h
end Go.Proofs.YtnkjhooeklodcaaGreatDoor
end
