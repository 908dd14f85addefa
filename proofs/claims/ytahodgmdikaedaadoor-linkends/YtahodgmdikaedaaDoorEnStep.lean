/-
  LinkEnds, the plain facts from step to step. No walk.
-/
import Derived.Test.YtahodgmdikaedaaDoorEnPlain
namespace Go.Proofs.YtahodgmdikaedaaDoor
/-- What holds of both ends and the packets under way; cy: the rows that came; c: bounds the counts. -/
structure Ef (A : List (List Int)) (x y : Lk) (Q : Qe) (cy : List (List Int)) (c : Nat) : Prop where
  e : En A 16 x y Q
  k : Cm A y cy
  gd : ∀ q ∈ Q, q.2.Good ∧ (q.1 = true → Tr A q.2)
  bx : Bd c x
  bY : Bd c y
  sx : x.since ≤ 4
  sy : y.since ≤ 4
  xc : x.came = 0
  yf : y.first = 1
  al : A.length ≤ 60
section
variable {A : List (List Int)} {x y : Lk} {Q : Qe} {cy : List (List Int)} {c : Nat} {p : Pk}
theorem Ef.way16 (h : Ef A x y Q cy c) : x.way ≤ 16 := by have := h.e.fw; omega
theorem Ef.first (h : Ef A x y Q cy c) : x.first ≤ 61 := by have := h.e.lx.le; have := h.al; omega
theorem Ef.ycame (h : Ef A x y Q cy c) : y.came ≤ 60 := by have := h.k.le; have := h.al; omega
theorem Ef.len (h : Ef A x y Q cy c) : x.L.length ≤ 60 := by have := h.e.lx.len; have := h.al; omega
theorem Ef.lost {q : Bool × Pk} (h : Ef A x y (q :: Q) cy c) : Ef A x y Q cy c := ⟨h.e.lost, h.k, fun r hr => h.gd r (List.mem_cons_of_mem _ hr), h.bx, h.bY, h.sx, h.sy, h.xc, h.yf, h.al⟩
theorem Ef.popY (h : Ef A x y ((true, p) :: Q) cy c) : Ef A x (y.hearS 16 p) (Q ++ outY (y.hearO 16 p)) (cy ++ y.rows p) (c + 17) := by
  obtain ⟨hg, ht⟩ := h.gd (true, p) (List.mem_cons_self ..)
  obtain ⟨hn, _⟩ := h.e.tr (true, p) (List.mem_cons_self ..) rfl
  obtain ⟨e1, e2, e3⟩ := yHear (W := 16) h.e.yL h.e.yw hn
  have hk := h.k.hear 16 (ht rfl)
  refine ⟨h.e.popY, hk, fun q hq => ?_, h.bx.mono (by omega), h.bY.hear p, h.sx, since_hear h.sy p, h.xc, ?_, h.al⟩
  · rcases List.mem_append.1 hq with hq | hq
    · exact h.gd q (List.mem_cons_of_mem _ hq)
    · rw [e3] at hq
      obtain rfl : q = (false, ⟨0, (y.hearS 16 p).came, []⟩) := by simpa [outY] using hq
      have h1 : (y.hearS 16 p).came ≤ A.length := hk.le
      have h2 := h.al
      exact ⟨⟨Nat.zero_le _, (by show (y.hearS 16 p).came ≤ _; omega), (fun z hz => by cases hz), Nat.zero_le _, fun _ => rfl⟩, fun e => by cases e⟩
  · have e0 : (y.own p.ack).first = y.first := by
      show y.first + min y.way _ = _
      rw [h.e.yw]; simp
    have e4 : (y.hear1 p).first = y.first := by
      unfold Lk.hear1 Lk.come
      split
      · exact e0
      · first | exact e0 | (split <;> exact e0)
    unfold Lk.hearS
    split
    · show (y.hear1 p).first = 1; rw [e4, h.yf]
    · show (y.hear1 p).first = 1; rw [e4, h.yf]
theorem Ef.popX (h : Ef A x y ((false, p) :: Q) cy c) (hgo : ∀ q ∈ x.hearO 16 p, q.Good) : Ef A (x.hearS 16 p) y (Q ++ outX (x.hearO 16 p)) cy (c + 17) := by
  obtain ⟨hn, _⟩ := h.e.tk (false, p) (List.mem_cons_self ..) rfl
  obtain ⟨e1, e2⟩ := xHear (x := x) (W := 16) hn
  refine ⟨h.e.popX, h.k, fun q hq => ?_, h.bx.hear p, h.bY.mono (by omega), since_hear h.sx p, h.sy, ?_, h.yf, h.al⟩
  · rcases List.mem_append.1 hq with hq | hq
    · exact h.gd q (List.mem_cons_of_mem _ hq)
    · obtain ⟨r, hr, rfl⟩ := List.mem_map.1 hq
      exact ⟨hgo r hr, fun _ => hear_tr h.e.lx p r hr⟩
  · rw [e1]; exact h.xc
theorem Ef.tick (h : Ef A x y [] cy c) (hgo : ∀ q ∈ x.tickO, q.Good) : Ef A x.tickS y.tickS (outX x.tickO) cy (c + 16) := by
  obtain ⟨b1, b2, b3, b4⟩ := tick_same y
  refine ⟨h.e.tick.1, ⟨by rw [b4]; exact h.k.c, by rw [b4]; exact h.k.le⟩, fun q hq => ?_, h.bx.tick h.way16, h.bY.tick (by rw [h.e.yw]; omega), since_tick h.sx, since_tick h.sy, by rw [tick_came]; exact h.xc, by rw [b3]; exact h.yf, h.al⟩
  obtain ⟨r, hr, rfl⟩ := List.mem_map.1 hq
  exact ⟨hgo r hr, fun _ => tick_tr h.e.lx r hr⟩
/-- What is under way is not more than so many. -/
theorem tickO_len (x : Lk) (h : x.way ≤ 16) : x.tickO.length ≤ 16 := by
  unfold Lk.tickO
  split
  · simp
  · rw [List.length_map, List.length_range']; exact h
theorem toY_len (Q : Qe) : (toY Q).length ≤ Q.length := by
  unfold toY
  rw [List.length_map]
  exact List.length_filter_le ..
theorem pot_top (h : Ef A x y Q cy c) (hQ : Q.length ≤ 16) : pot x Q ≤ 160 := by
  have h1 := toY_len Q
  have h2 := h.len
  unfold pot
  omega
end
end Go.Proofs.YtahodgmdikaedaaDoor
