/-
  An instruction as text: the table's line, and the document's Line.
-/
import Derived.Test.YtddmnpfebajnmaaDoorText
import Derived.Deep.RegionHeld3
import Derived.Laws.EntriesVeiled
namespace Go.Proofs.YtddmnpfebajnmaaDoor
open Go.RowKit Go.Sort
theorem join_line (nm d : List UInt8) : (⟨nm.toArray⟩ : ByteArray) ++ ⟨#[32]⟩ ++ ⟨d.toArray⟩ = ⟨(nm ++ 32 :: d).toArray⟩ := by
  rw [show (⟨#[32]⟩ : ByteArray) = ⟨([32] : List UInt8).toArray⟩ from rfl, ByteArray.mk_append_mk, ByteArray.mk_append_mk]
  simp
theorem below_undrew {B : Nat} {w w' : World} (h : RowKit.Below B w.drew w') : RowKit.Below B w w' := ⟨h.os, h.tape, h.output, h.size, h.block⟩
set_option maxRecDepth 20000 in
set_option maxHeartbeats 4000000 in
theorem line_any (tb n : Nat) (a : Int) (w : World) (ht : Tp w) (hT : Tb w tb) (h1 : 1 ≤ n) (h2 : n ≤ 22) (ha : In64 a) :
    Calls Tryd.prog 33 #[.pointer (some ⟨tb, 0, none⟩), .agg #[.int .i64 (n : Int), .int .i64 a]] w fun e w' => e = .returned (.string ⟨(lineL ((n : Int), a)).toArray⟩) ∧ Below w.heap.size w w' := by
  obtain ⟨t0, t1, t2⟩ := hT.at n h1 h2
  have hlt := Cw.lt hT
  have HB0 : Hid (Below w.heap.size w (w.alloc (.cells #[.int .i64 (n : Int), .int .i64 a] 60))) := (Below.refl _ _).alloc (Nat.le_refl _) _
  have HL : Hid (lineL ((n : Int), a) = nameL n ++ (if hasA (n : Int) then 32 :: Lib.itoa a else [])) := hid_into (by simp [lineL])
  have hnl := nameL_len n
  generalize nameL n = nm at t0 HL hnl
  generalize hasA (n : Int) = hs at t1 HL
  generalize mayF n = fm at t2
  have e22 : (n : Int) < 23 := by omega
  have hz : (⟨nm.toArray⟩ : ByteArray).size = nm.length := by simp [ByteArray.size]
  go_enter Tryd.func33, Tryd.ntmps33
  go_wp2_with fail
  go_region
  generalize hW : ((w.alloc (.cells #[.int .i64 (n : Int), .int .i64 a] 60)).alloc (.cells #[.string ⟨nm.toArray⟩, .bool hs, .func (.func fm) #[] #[]] 55)).drew = W
  have HBW : Hid (RowKit.Below w.heap.size w W) := by
    rw [← hW]
    exact ((HB0.out.alloc (by simp) _).drew)
  have c0 : W.cell? ⟨w.heap.size, 1, none⟩ = some (.int .i64 a) := by
    rw [← hW]
    have h0 : Cw (w.alloc (.cells #[.int .i64 (n : Int), .int .i64 a] 60)) w.heap.size [.int .i64 (n : Int), .int .i64 a] 60 := Cw.new w _ _
    exact ((h0.alloc (.cells #[.string ⟨nm.toArray⟩, .bool hs, .func (.func fm) #[] #[]] 55)).cell 1)
  have hcw : Cw W (w.heap.size + 1) [.string ⟨nm.toArray⟩, .bool hs, .func (.func fm) #[] #[]] 55 := by
    rw [← hW]
    have h0 := Cw.new (w.alloc (.cells #[.int .i64 (n : Int), .int .i64 a] 60)) [.string ⟨nm.toArray⟩, .bool hs, .func (.func fm) #[] #[]] 55
    rw [World.size_alloc] at h0
    exact h0
  have c1 := hcw.cell 0
  have c2 := hcw.cell 1
  simp only [List.getElem?_cons_succ, List.getElem?_cons_zero] at c1 c2
  have hTW := ht.below HBW.out (Nat.le_refl _)
  have hsz : w.heap.size + 1 < W.heap.size := hcw.lt
  clear hW hcw hT t0 t1 t2
  cases hs with
  | false =>
    go_wp2_with fail
    go_ret
    exact ⟨by rw [HL.out]; simp, HBW.out⟩
  | true =>
    have HL2 : Hid (lineL ((n : Int), a) = nm ++ 32 :: Lib.itoa a) := hid_into (by rw [HL.out]; simp)
    have hdl := itoa_len a ha
    have C := fun (W' : World) (h : Tp W') => itoa_any a ha W' h
    have HJ := hid_into (join_line nm (Lib.itoa a))
    have hdz : (⟨(Lib.itoa a).toArray⟩ : ByteArray).size = (Lib.itoa a).length := by simp [ByteArray.size]
    clear HL
    generalize Lib.itoa a = d at *
    have z1 : (⟨#[32]⟩ : ByteArray).size = 1 := rfl
    have s1 : ((⟨nm.toArray⟩ : ByteArray) ++ ⟨#[32]⟩).size = nm.length + 1 := by rw [ByteArray.size_append, hz]; rfl
    generalize nm.length = nl at *
    generalize d.length = dl at *
    have u1 : ¬ 9223372036854775807 < nl + 1 := by omega
    have u2 : ¬ 9223372036854775807 < nl + 1 + dl := by omega
    have hTd : Tp W.drew := ⟨hTW.pw, hTW.sz⟩
    go_wp2_with fail
    go_region_held3 (fun V => V.cell? ⟨w.heap.size + 1, 0, none⟩ = some (.string ⟨nm.toArray⟩) ∧ V.cell? ⟨w.heap.size, 1, none⟩ = some (.int .i64 a)) (first | exact ⟨c1, c0⟩ | assumption)
      (first
        | (go_at_call 55; refine (C _ hTd).mono ?_; rintro e w3 ⟨rfl, B3⟩; have ht3 := And.intro ((B3.cell (p := ⟨w.heap.size + 1, 0, none⟩) hsz).trans c1) ((B3.cell (p := ⟨w.heap.size, 1, none⟩) (Nat.lt_of_succ_lt hsz)).trans c0)))
    go_wp2_with fail
    go_ret
    exact ⟨congrArg (fun b => Ending.returned (.string b)) (HJ.out.trans (by rw [HL2.out])), HBW.out.trans ((below_undrew B3).mono HBW.out.size)⟩
end Go.Proofs.YtddmnpfebajnmaaDoor
