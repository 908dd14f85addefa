/-
  Bytes as a program: Decode.
-/
import Derived.Test.YtddmnpfebajnmaaDoorTake2
namespace Go.Proofs.YtddmnpfebajnmaaDoor
open Go.RowKit
theorem newReader_q (sv : Value) (zs : List Int) (w : World) (hb : Bs w sv zs) (hz : zs.length ≤ 100000000000000) :
    Calls Tryd.prog 38 #[sv] w fun e w' => ∃ b, e = .returned (.pointer (some ⟨b, 0, none⟩)) ∧ Rq w'.heap.size w' b zs 0 ∧ Below w.heap.size w w' ∧ w.heap.size ≤ b := by
  go_enter Tryd.func38, Tryd.ntmps38
  go_wp2_with fail
  refine (clone_any sv zs _ hb hz).mono ?_
  rintro e w1 ⟨ao, cap, rfl, hown, B1⟩
  have R : Rd (w1.alloc (.cells #[.slice ao zs.length cap, .int .i64 0] 104)) w1.heap.size (.slice ao zs.length cap) zs 0 :=
    ⟨heap_alloc_new w1 _, hown.bs.below ((Below.refl _ _).alloc (Nat.le_refl _) _) (Nat.le_refl _), fun e => by have := World.ownsRow.lt hown _ e; omega⟩
  have hk : ∀ k, (Value.slice ao zs.length cap).ownBlock = some k → k < w1.heap.size := fun k e => (World.ownsRow.lt hown k e).2
  have hs := B1.size
  have HQ : Hid (Rq (w1.alloc (.cells #[.slice ao zs.length cap, .int .i64 0] 104)).heap.size (w1.alloc (.cells #[.slice ao zs.length cap, .int .i64 0] 104)) w1.heap.size zs 0) := ⟨by simp, _, R, fun k e => by have := hk k e; simp; omega⟩
  clear hown hk R
  go_wp2
  go_ret
  exact ⟨_, rfl, HQ.out, B1.alloc hs _, hs⟩
set_option maxRecDepth 20000 in
set_option maxHeartbeats 4000000 in
theorem decode_any (sv : Value) (zs : List Int) (w : World) (hb : Bs w sv zs) (hz : zs.length ≤ 100000000000000) (hy : Byt zs) :
    Calls Tryd.prog 19 #[sv] w fun e w' => ∃ rv, e = .returned (.tuple #[rv, .int .i64 (decP zs).2]) ∧ Ls w' rv (decP zs).1 ∧ Below w.heap.size w w' := by
  have C1 := newReader_q sv zs w hb hz
  have HD := hid_into (decP_tk zs)
  have HNE := hid_into (tkR_ne zs)
  have CT := fun b W h' => take_any b zs W h' hy
  have HLN := hid_into (fun l => tkR_len (l := l) hy)
  clear hb hz hy
  cases hk : tkR zs with
  | error x =>
    have hx : x ≠ 0 := fun e => HNE.out (by rw [hk, e])
    have hx' : (x != 0) = true := by simp [hx]
    have HD2 : Hid (decP zs = ([], x)) := by show _ = _; rw [HD.out, hk]
    rw [hk] at CT
    clear HD HNE HLN hk
    go_enter Tryd.func19, Tryd.ntmps19
    go_wp2_with (first
      | (go_at_call 38; refine C1.mono ?_; rintro e w1 ⟨b, rfl, h1, B1, hb⟩)
      | (go_at_call 37; refine (CT _ _ h1).mono ?_; rintro e w2 ⟨s2, l2, e2, rfl, h2, rfl, S2⟩))
    go_ret2
    rw [HD2.out]
    exact ⟨_, rfl, (Lo.nil _ 0).ls, B1.trans (S2.below hb B1.size)⟩
  | ok l =>
    have hlen := HLN.out l hk
    rw [hk] at CT
    have HD2 : Hid (decP zs = if (chk l).2 = 0 then (l, 0) else ([], (chk l).2)) := by show _ = _; rw [HD.out, hk]
    have CK := fun v W h' => check_any v l W h'
    clear HD HNE HLN hk
    by_cases hok : (chk l).2 = 0
    · have HD3 : Hid (decP zs = (l, 0)) := by show _ = _; rw [HD2.out, if_pos hok]
      rw [hok] at CK
      go_enter Tryd.func19, Tryd.ntmps19
      go_wp2_with (first
        | (go_at_call 38; refine C1.mono ?_; rintro e w1 ⟨b, rfl, h1, B1, hb⟩)
        | (go_at_call 37; refine (CT _ _ h1).mono ?_; rintro e w2 ⟨s2, l2, e2, rfl, h2, ⟨rfl, rfl⟩, S2⟩)
        | (go_at_call 9; refine (CK _ _ h2).mono ?_; rintro e w3 ⟨rfl, B3⟩))
      go_ret2
      rw [HD3.out]
      exact ⟨_, rfl, h2.below B3, (B1.trans (S2.below hb B1.size)).trans (B3.mono (by have := B1.size; have := S2.size; omega))⟩
    · have HD3 : Hid (decP zs = ([], (chk l).2)) := by show _ = _; rw [HD2.out, if_neg hok]
      generalize chk l = c at *
      have hc : (c.2 != 0) = true := by simp [hok]
      clear HD2 hok
      go_enter Tryd.func19, Tryd.ntmps19
      go_wp2_with (first
        | (go_at_call 38; refine C1.mono ?_; rintro e w1 ⟨b, rfl, h1, B1, hb⟩)
        | (go_at_call 37; refine (CT _ _ h1).mono ?_; rintro e w2 ⟨s2, l2, e2, rfl, h2, ⟨rfl, rfl⟩, S2⟩)
        | (go_at_call 9; refine (CK _ _ h2).mono ?_; rintro e w3 ⟨rfl, B3⟩))
      go_ret2
      rw [HD3.out]
      exact ⟨_, rfl, (Lo.nil _ 0).ls, (B1.trans (S2.below hb B1.size)).trans (B3.mono (by have := B1.size; have := S2.size; omega))⟩
end Go.Proofs.YtddmnpfebajnmaaDoor
