/-
  DiskPlays: the document's disk in memory (Rk), and spot, Used, Fuse, New by contract.
-/
import Derived.Test.YthkgmnmdojmfgaaPlaySpot
namespace Go.Proofs.Ythkgmnmdojmfgaa
open Go.RowKit Go.Maps Go.Sort

/-- A file of the document's disk: its name, its slice, its bytes, how many of them last. -/
structure Fl3 where
  nm : List UInt8
  v : Value
  zs : List Int
  l : Nat
def Fl3.cells (f : Fl3) : List Value := [encStr f.nm, f.v, .int .i64 (f.l : Int)]
def cells3 (L : List Fl3) : List Value := L.flatMap Fl3.cells
theorem cells3_len (L : List Fl3) : (cells3 L).length = L.length * 3 := by
  induction L with
  | nil => rfl
  | cons f L ih =>
    have e : cells3 (f :: L) = f.cells ++ cells3 L := by simp [cells3]
    rw [e, List.length_append, ih, List.length_cons]
    simp [Fl3.cells]
    omega
theorem cells3_get : ∀ (L : List Fl3) (i j : Nat) (f : Fl3), L[i]? = some f → j < 3 → (cells3 L)[i * 3 + j]? = f.cells[j]?
  | [], _, _, _, h, _ => by simp at h
  | f :: L, 0, j, g, h, hj => by
    have e : cells3 (f :: L) = f.cells ++ cells3 L := by simp [cells3]
    have eg : f = g := by simpa using h
    rw [e, eg, Nat.zero_mul, Nat.zero_add, List.getElem?_append_left (by simp [Fl3.cells]; omega)]
  | f :: L, i + 1, j, g, h, hj => by
    have e : cells3 (f :: L) = f.cells ++ cells3 L := by simp [cells3]
    have h3 : f.cells.length = 3 := rfl
    rw [e, List.getElem?_append_right (by rw [h3]; omega), h3, show (i + 1) * 3 + j - 3 = i * 3 + j by omega]
    exact cells3_get L i j g (by simpa using h) hj

/-- Block wb is the document's disk: its room, its files, what the fuse lets; all rows are the call's own, from block base on. -/
structure Rk (w : World) (base wb : Nat) (v : Value) (room left : Int) (L : List Fl3) : Prop where
  blk : Cw w wb [.int .i64 room, v, .int .i64 left] 65
  row : w.ownsRow base 71 3 v L.length (cells3 L)
  each : ∀ f ∈ L, Ow w base f.v f.zs ∧ (∀ z ∈ f.zs, 0 ≤ z ∧ z < 256) ∧ f.l ≤ f.zs.length ∧ ∀ k, f.v.ownBlock = some k → k ≠ wb ∧ v.ownBlock ≠ some k
  few : L.length ≤ 100000
  wbb : base ≤ wb
  sep : v.ownBlock ≠ some wb

theorem Rk.shape {w : World} {base wb : Nat} {v : Value} {room left : Int} {L : List Fl3} (h : Rk w base wb v room left L) : (v = .slice none 0 0 ∧ L = []) ∨ ∃ g cap, v = .slice (some ⟨g, 0, none⟩) L.length cap ∧ L.length ≤ cap ∧ cap ≤ maxLen ∧
    ∀ i f, L[i]? = some f → w.cell? ⟨g, i * 3, none⟩ = some (encStr f.nm) ∧ w.cell? ⟨g, i * 3 + 1, none⟩ = some f.v ∧ w.cell? ⟨g, i * 3 + 2, none⟩ = some (.int .i64 (f.l : Int)) := by
  rcases h.row.2 with ⟨rfl, h0⟩ | ⟨g, cap, cur, rfl, hb, hg, hn, hc, hs, ht⟩
  · exact Or.inl ⟨rfl, List.eq_nil_of_length_eq_zero h0⟩
  · refine Or.inr ⟨g, cap, rfl, hn, hc, fun i f hf => ?_⟩
    have key : ∀ j u, j < 3 → f.cells[j]? = some u → w.cell? ⟨g, i * 3 + j, none⟩ = some u := by
      intro j u hj hu
      have := World.ownsRow.cells h.row (g := g) rfl (i * 3 + j) u (by rw [cells3_get L i j f hf hj]; exact hu)
      simpa [Addr.add_lit] using this
    exact ⟨key 0 _ (by omega) rfl, key 1 _ (by omega) rfl, key 2 _ (by omega) rfl⟩

def names3 (L : List Fl3) : List (List UInt8) := L.map (·.nm)

set_option maxHeartbeats 1600000 in
set_option maxRecDepth 20000 in
theorem spot_any (base wb : Nat) (v : Value) (room left : Int) (L : List Fl3) (x : List UInt8) (w : World) (h : Rk w base wb v room left L) :
    Calls Try.prog 59 #[.pointer (some ⟨wb, 0, none⟩), encStr x] w fun e w' => e = .returned (.tuple #[.int .i64 (spotN (names3 L) x), .bool (decide ((names3 L)[spotN (names3 L) x]? = some x))]) ∧ Sm w w' := by
  have hln : (names3 L).length = L.length := by simp [names3]
  rcases h.shape with ⟨rfl, rfl⟩ | ⟨g, cap, rfl, h1, h2, hc⟩
  · have hc := h.blk.cell 1
    simp at hc
    have e : spotN (names3 []) x = 0 := rfl
    have e2 : decide ((names3 [])[0]? = some x) = false := rfl
    rw [e, e2]
    go_enter Try.func59, Try.ntmps59
    go_wp2
    go_loop [6] (fun i => i = .int .i64 0) (fun _ => 0)
    case atStart => rfl
    case round =>
      obtain rfl := hrel
      go_wp2_with fail
      go_quiet (fail)
      go_wp2
      go_ret2
      exact ⟨rfl, ⟨rfl, rfl, rfl, rfl⟩⟩
  · refine spot_some wb g cap room left (names3 L) x w (by rw [hln]; exact h.blk) (by rw [hln]; exact h.few) (fun i n hi => ?_)
    obtain ⟨f, hf, rfl⟩ : ∃ f, L[i]? = some f ∧ f.nm = n := by
      simp only [names3, List.getElem?_map, Option.map_eq_some_iff] at hi
      exact hi
    exact (hc i f hf).1

/-- How many bytes the files have. -/
def tot3 (L : List Fl3) : Nat := (L.map fun f => f.zs.length).sum
theorem tot3_take {L : List Fl3} {i : Nat} {f : Fl3} (h : L[i]? = some f) : tot3 (L.take (i + 1)) = tot3 (L.take i) + f.zs.length := by
  obtain ⟨hi, e⟩ := List.getElem?_eq_some_iff.1 h
  rw [List.take_succ_eq_append_getElem hi, e]
  simp [tot3]
theorem tot3_append (a b : List Fl3) : tot3 (a ++ b) = tot3 a + tot3 b := by simp [tot3]
theorem tot3_le (L : List Fl3) (i : Nat) : tot3 (L.take i) ≤ tot3 L := by
  have := tot3_append (L.take i) (L.drop i)
  rw [List.take_append_drop] at this
  omega

set_option maxHeartbeats 1600000 in
set_option maxRecDepth 20000 in
theorem used_any (base wb : Nat) (v : Value) (room left : Int) (L : List Fl3) (w : World) (h : Rk w base wb v room left L) (hT : tot3 L ≤ 1099511627776) :
    Calls Try.prog 46 #[.pointer (some ⟨wb, 0, none⟩)] w fun e w' => e = .returned (.int .i64 (tot3 L)) ∧ w = w' := by
  have hc := h.blk.cell 1
  simp at hc
  have few := h.few
  have shp := h.shape
  have hv : ∃ ao cap, v = .slice ao L.length cap := by
    rcases shp with ⟨rfl, rfl⟩ | ⟨g, cap, rfl, _⟩
    · exact ⟨none, 0, rfl⟩
    · exact ⟨_, cap, rfl⟩
  obtain ⟨ao, cap, rfl⟩ := hv
  have each : ∀ f ∈ L, ∃ a c, f.v = .slice a f.zs.length c := fun f hf => by
    obtain ⟨a, c, e, _⟩ := (h.each f hf).1.form
    exact ⟨a, c, e⟩
  clear h
  go_enter Try.func46, Try.ntmps46
  go_wp2
  go_loop [3, 4] (fun n i => ∃ k : Nat, k ≤ L.length ∧ i = .int .i64 k ∧ n = .int .i64 (tot3 (L.take k))) (fun _ i => L.length - (intOf i).toNat)
  case atStart => exact ⟨0, Nat.zero_le _, rfl, rfl⟩
  case round =>
    obtain ⟨k, hk, rfl, rfl⟩ := hrel
    by_cases hlt : k < L.length
    · obtain ⟨f, hf⟩ : ∃ f, L[k]? = some f := ⟨_, List.getElem?_eq_getElem hlt⟩
      rcases shp with ⟨_, rfl⟩ | ⟨g, c2, hv2, h1, h2, hcell⟩
      · simp at hlt
      simp only [Value.slice.injEq] at hv2
      obtain ⟨rfl, _, rfl⟩ := hv2
      have hcf := (hcell k f hf).2.1
      obtain ⟨a, c, ef⟩ := each f (List.mem_of_getElem? hf)
      rw [ef] at hcf
      have HT : Hid (tot3 (L.take (k + 1)) = tot3 (L.take k) + f.zs.length) := tot3_take hf
      have hle := tot3_le L (k + 1)
      rw [HT.out] at hle
      have f1 : (0 : Int) ≤ (k : Int) := by omega
      have f2 : (k : Int) < (L.length : Int) := by omega
      generalize tot3 (L.take k) = t at *
      generalize f.zs.length = zl at *
      clear hcell each hf ef
      go_wp2
      go_round
      case rel => exact ⟨k + 1, by omega, by go_num, by rw [HT.out]; go_num⟩
      case measure => simp [intOf]; omega
    · have hke : L.take k = L := List.take_of_length_le (by omega)
      rw [hke]
      have f2 : ¬ (k : Int) < (L.length : Int) := by omega
      clear shp each hke
      go_wp2
      go_ret
      exact ⟨rfl, rfl⟩

set_option maxHeartbeats 800000 in
theorem fuse3_any (wb : Nat) (room : Int) (v : Value) (left n : Int) (w : World) (h : Cw w wb [.int .i64 room, v, .int .i64 left] 65) :
    Calls Try.prog 42 #[.pointer (some ⟨wb, 0, none⟩), .int .i64 n] w fun e w' => e = .returned (.tuple #[]) ∧ w' = w.setCell ⟨wb, 2, none⟩ (.int .i64 (max (-1) n)) := by
  have hc := h.cell 2
  have hf := h.frozen 2
  simp at hc
  clear h
  by_cases hn : n < -1
  · rw [show max (-1) n = -1 by omega]
    have hn' : ¬ (-1 < n) := by omega
    go_enter Try.func42, Try.ntmps42
    go_wp2
    go_end0
    exact ⟨rfl, rfl⟩
  · rw [show max (-1) n = n by omega]
    have hn' : -1 ≤ n := by omega
    go_enter Try.func42, Try.ntmps42
    go_wp2
    all_goals
      go_end0
      exact ⟨rfl, by first | rfl | (congr 2; omega)⟩

set_option maxHeartbeats 800000 in
theorem new3_bad (room : Int) (w : World) (h : room < 0 ∨ 1073741824 < room) : Calls Try.prog 12 #[.int .i64 room] w fun e w' => e = .returned (.tuple #[.pointer none, .int .i64 1]) ∧ w = w' := by
  by_cases h0 : room < 0
  · clear h
    go_enter Try.func12, Try.ntmps12
    go_wp2
    go_ret2
    exact ⟨rfl, rfl⟩
  · have h1 : 1073741824 < room := by omega
    clear h
    go_enter Try.func12, Try.ntmps12
    go_wp2
    go_ret2
    exact ⟨rfl, rfl⟩
set_option maxHeartbeats 800000 in
theorem new3_any (room : Int) (w : World) (h0 : 0 ≤ room) (h1 : room ≤ 1073741824) : Calls Try.prog 12 #[.int .i64 room] w fun e w' => e = .returned (.tuple #[.pointer (some ⟨w.heap.size, 0, none⟩), .int .i64 0]) ∧ Rk w' w.heap.size w.heap.size (.slice none 0 0) room (-1) [] ∧ Below w.heap.size w w' := by
  have hr : Rk (w.alloc (.cells #[.int .i64 room, .slice none 0 0, .int .i64 (-1)] 65)) w.heap.size w.heap.size (.slice none 0 0) room (-1) [] :=
    ⟨Cw.new w _ 65, World.ownsRow_nil _ _ _ _, fun f hf => (by cases hf), by simp, Nat.le_refl _, by simp [Value.ownBlock]⟩
  have hB : Below w.heap.size w (w.alloc (.cells #[.int .i64 room, .slice none 0 0, .int .i64 (-1)] 65)) := (Below.refl _ _).alloc (Nat.le_refl _) _
  go_enter Try.func12, Try.ntmps12
  go_wp2
  go_ret2
  exact ⟨rfl, hr, hB⟩
end Go.Proofs.Ythkgmnmdojmfgaa
