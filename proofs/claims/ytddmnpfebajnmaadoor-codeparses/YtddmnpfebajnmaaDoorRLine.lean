/-
  The document's Has and Line.
-/
import Derived.Test.YtddmnpfebajnmaaDoorLine
namespace Go.Proofs.YtddmnpfebajnmaaDoor
open Go.RowKit Go.Sort
set_option maxRecDepth 20000 in
set_option maxHeartbeats 4000000 in
theorem rhas_any (o : Int) (w : World) : Calls Tryd.prog 31 #[.int .i64 o] w fun e w' => e = .returned (.bool (hasA o)) ∧ w' = w := by
  have key : hasA o = ((o == 1) || ((o == 2) || ((o == 3) || ((o == 16) || ((o == 18) || ((o == 19) || (o == 20))))))) := by
    by_cases k1 : o = 1 <;> by_cases k2 : o = 2 <;> by_cases k3 : o = 3 <;> by_cases k16 : o = 16 <;> by_cases k18 : o = 18 <;> by_cases k19 : o = 19 <;> by_cases k20 : o = 20 <;> simp [hasA, *]
  rw [key]
  clear key
  go_enter Tryd.func31, Tryd.ntmps31
  cases e1 : (o == 1) with
  | true => go_wp2; go_ret; exact ⟨rfl, rfl⟩
  | false =>
  cases e2 : (o == 2) with
  | true => go_wp2; go_ret; exact ⟨rfl, rfl⟩
  | false =>
  cases e3 : (o == 3) with
  | true => go_wp2; go_ret; exact ⟨rfl, rfl⟩
  | false =>
  cases e4 : (o == 16) with
  | true => go_wp2; go_ret; exact ⟨rfl, rfl⟩
  | false =>
  cases e5 : (o == 18) with
  | true => go_wp2; go_ret; exact ⟨rfl, rfl⟩
  | false =>
  cases e6 : (o == 19) with
  | true => go_wp2; go_ret; exact ⟨rfl, rfl⟩
  | false =>
  cases e7 : (o == 20) with
  | true => go_wp2; go_ret; exact ⟨rfl, rfl⟩
  | false => go_wp2; go_ret; exact ⟨rfl, rfl⟩
set_option maxRecDepth 20000 in
set_option maxHeartbeats 4000000 in
theorem rline_any (n : Nat) (a : Int) (w : World) (h1 : 1 ≤ n) (h2 : n ≤ 22) (ha : In64 a) :
    Calls Tryd.prog 36 #[.agg #[.int .i64 (n : Int), .int .i64 a]] w fun e w' => e = .returned (.string ⟨(lineL ((n : Int), a)).toArray⟩) ∧ RowKit.Below w.heap.size w w' := by
  have HB0 : Hid (RowKit.Below w.heap.size w (w.alloc (.cells #[.int .i64 (n : Int), .int .i64 a] 60))) := (Below.refl _ _).alloc (Nat.le_refl _) _
  have HL : Hid (lineL ((n : Int), a) = nameL n ++ (if hasA (n : Int) then 32 :: Lib.itoa a else [])) := hid_into (by simp [lineL])
  have hnl := nameL_len n
  have HN : Hid (∀ W : World, (W.alloc (.cells namesR.toArray 9)).cell? ⟨W.heap.size, n, none⟩ = some (.string ⟨(nameL n).toArray⟩)) := hid_into fun W => ((Cw.new W namesR 9).cell n).trans (namesR_at n h2)
  have hz : (⟨(nameL n).toArray⟩ : ByteArray).size = (nameL n).length := by simp [ByteArray.size]
  have CH := rhas_any (n : Int)
  generalize nameL n = nm at HN HL hnl hz
  generalize hasA (n : Int) = hs at HL CH
  obtain ⟨nr, hnr⟩ : ∃ nr, nr = namesR := ⟨_, rfl⟩
  have CN : ∀ W, Calls Tryd.prog 56 #[] W fun e w' => e = .returned (.slice (some ⟨W.heap.size, 0, none⟩) 23 23) ∧ w' = W.alloc (.cells nr.toArray 9) := by rw [hnr]; exact names_any
  rw [← hnr] at HN
  clear hnr
  have e22 : (n : Int) < 23 := by omega
  have e23 : n < 23 := by omega
  have c0 : (w.alloc (.cells #[.int .i64 (n : Int), .int .i64 a] 60)).cell? ⟨w.heap.size, 0, none⟩ = some (.int .i64 (n : Int)) := (Cw.new w [.int .i64 (n : Int), .int .i64 a] 60).cell 0
  have c1 : (w.alloc (.cells #[.int .i64 (n : Int), .int .i64 a] 60)).cell? ⟨w.heap.size, 1, none⟩ = some (.int .i64 a) := (Cw.new w [.int .i64 (n : Int), .int .i64 a] 60).cell 1
  have hWs : w.heap.size < (w.alloc (.cells #[.int .i64 (n : Int), .int .i64 a] 60)).heap.size := by simp
  go_enter Tryd.func36, Tryd.ntmps36
  go_wp2_with fail
  have k1 : ((w.alloc (.cells #[.int .i64 (n : Int), .int .i64 a] 60)).drew.alloc (.cells nr.toArray 9)).cell? ⟨w.heap.size, 0, none⟩ = some (.int .i64 (n : Int)) := by
    rw [World.cell?_of_block (w := (w.alloc (.cells #[.int .i64 (n : Int), .int .i64 a] 60)).drew) (Below.heap_alloc _ _ _ hWs)]
    exact c0
  have hn3 : ((w.alloc (.cells #[.int .i64 (n : Int), .int .i64 a] 60)).alloc (.cells nr.toArray 9)).cell? ⟨w.heap.size + 1, n, none⟩ = some (.string ⟨nm.toArray⟩) := by
    have := HN.out (w.alloc (.cells #[.int .i64 (n : Int), .int .i64 a] 60))
    rw [World.size_alloc] at this
    exact this
  have hn4 : ((w.alloc (.cells #[.int .i64 (n : Int), .int .i64 a] 60)).alloc (.cells nr.toArray 9)).drew.cell? ⟨w.heap.size + 1, n, none⟩ = some (.string ⟨nm.toArray⟩) := hn3
  go_region_with (go_at_call 56; refine (CN _).mono ?_; rintro e w3 ⟨rfl, rfl⟩)
  all_goals
    generalize hW : ((w.alloc (.cells #[.int .i64 (n : Int), .int .i64 a] 60)).alloc (.cells nr.toArray 9)).drew = W
    have HBW : Hid (RowKit.Below w.heap.size w W) := by
      rw [← hW]
      exact ((HB0.out.alloc (by simp) _).drew)
    have d0 : W.cell? ⟨w.heap.size, 0, none⟩ = some (.int .i64 (n : Int)) := by
      rw [← hW]
      exact (((Cw.new w [.int .i64 (n : Int), .int .i64 a] 60).alloc (.cells nr.toArray 9)).cell 0)
    have d1 : W.cell? ⟨w.heap.size, 1, none⟩ = some (.int .i64 a) := by
      rw [← hW]
      exact (((Cw.new w [.int .i64 (n : Int), .int .i64 a] 60).alloc (.cells nr.toArray 9)).cell 1)
    clear hW hn3 hn4 k1 c0 c1 HN CN
    cases hs with
    | false =>
      go_wp2_with (go_at_call 31; refine (CH _).mono ?_; rintro e w3 ⟨rfl, rfl⟩)
      go_ret
      exact ⟨by rw [HL.out]; simp, HBW.out⟩
    | true =>
      have HL2 : Hid (lineL ((n : Int), a) = nm ++ 32 :: Lib.itoa a) := hid_into (by rw [HL.out]; simp)
      have hdl := itoa_len a ha
      have C := fun (W' : World) => whole_any a ha W'
      have HJ := hid_into (join_line nm (Lib.itoa a))
      have hdz : (⟨(Lib.itoa a).toArray⟩ : ByteArray).size = (Lib.itoa a).length := by simp [ByteArray.size]
      clear HL
      generalize Lib.itoa a = d at *
      have z1 : (⟨#[32]⟩ : ByteArray).size = 1 := rfl
      have s1 : ((⟨nm.toArray⟩ : ByteArray) ++ ⟨#[32]⟩).size = nm.length + 1 := by rw [ByteArray.size_append, hz]; rfl
      generalize nm.length = nl at *
      generalize d.length = dl at *
      have u1 : ¬ 9223372036854775807 < nl + 1 := by omega
      have u2 : ¬ 9223372036854775807 < nl + 1 + dl := by omega
      go_wp2_with (first
        | (go_at_call 31; refine (CH _).mono ?_; rintro e w3 ⟨rfl, rfl⟩)
        | (go_at_call 57; refine (C _).mono ?_; rintro e w4 ⟨rfl, B4⟩))
      go_ret
      exact ⟨congrArg (fun b => Ending.returned (.string b)) (HJ.out.trans (by rw [HL2.out])), HBW.out.trans (B4.mono HBW.out.size)⟩

end Go.Proofs.YtddmnpfebajnmaaDoor
