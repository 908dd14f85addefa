/-
  Bytes as instructions: take.
-/
import Derived.Test.YtddmnpfebajnmaaDoorCheck
import Derived.Test.YtddmnpfebajnmaaDoorTakesHelp
namespace Go.Proofs.YtddmnpfebajnmaaDoor
open Go.RowKit
/-- Instructions, or the error: what take makes of bytes. -/
def tkR (zs : List Int) : Except Int (List Ii) :=
  if (numR 10 0 0 zs).2.2 ≠ 0 then .error (numR 10 0 0 zs).2.2
  else if (numR 10 0 0 zs).1 < 0 ∨ 256 < (numR 10 0 0 zs).1 then .error 3
  else takeN (numR 10 0 0 zs).1.toNat (numR 10 0 0 zs).2.1
theorem decP_tk (zs : List Int) : decP zs = match tkR zs with
    | .error e => ([], e)
    | .ok l => if (chk l).2 = 0 then (l, 0) else ([], (chk l).2) := by
  unfold decP tkR
  split
  · rfl
  · split
    · rfl
    · rfl
theorem tkR_ne (zs : List Int) : tkR zs ≠ .error 0 := by
  unfold tkR
  split
  · rename_i h
    intro e
    simp only [Except.error.injEq] at e
    exact h e
  · split
    · intro e; cases e
    · exact decP_back.takeN_ne _ _
theorem tkR_len {zs : List Int} {l : List Ii} (hb : Byt zs) (h : tkR zs = .ok l) : l.length ≤ 256 := by
  unfold tkR at h
  split at h
  · cases h
  · split at h
    · cases h
    · rename_i h1 h2
      have := (takeN_back _ _ l (numR_byt 10 0 0 zs hb).1 h).2
      omega
/-- Block b is a Reader; it and its row lie below N. -/
def Rq (N : Nat) (w : World) (b : Nat) (zs : List Int) (e : Int) : Prop := b < N ∧ ∃ v, Rd w b v zs e ∧ ∀ k, v.ownBlock = some k → k < N
theorem Rq.keep {N : Nat} {w w' : World} {b : Nat} {zs : List Int} {e : Int} (h : Rq N w b zs e) (hk : ∀ k, k < N → w'.heap[k]? = w.heap[k]?) : Rq N w' b zs e := by
  obtain ⟨h1, v, h2, h3⟩ := h
  exact ⟨h1, v, h2.keep (hk b h1) (fun k hk' _ => hk k (h3 k hk')), h3⟩
theorem Rq.left {N : Nat} {w w' : World} {b : Nat} {v : Value} {zs : List Int} {e : Int} (h1 : b < N) (h3 : ∀ k, v.ownBlock = some k → k < N) (h : Rleft w b v w' zs e) : Rq N w' b zs e ∧ Rstep b w w' := by
  obtain ⟨v', hr, hs, hv⟩ := h
  refine ⟨⟨h1, v', hr, fun k hk => ?_⟩, hs⟩
  rcases hv with e | e
  · exact h3 k (by rw [← e]; exact hk)
  · rw [e] at hk; cases hk
theorem rq_byte {N : Nat} {w : World} {b : Nat} {zs : List Int} {e : Int} (h : Rq N w b zs e) :
    Calls Tryd.prog 59 #[.pointer (some ⟨b, 0, none⟩)] w fun r w' => r = .returned (.int .u8 ((rowR [0] zs e).1.getD 0 0)) ∧ Rq N w' b (rowR [0] zs e).2.1 (rowR [0] zs e).2.2 ∧ Rstep b w w' := by
  obtain ⟨h1, v, h2, h3⟩ := h
  refine (rbyte_u b v zs e w h2).mono ?_
  rintro r w' ⟨hr, hl⟩
  obtain ⟨k1, k2⟩ := Rq.left h1 h3 hl
  exact ⟨hr, k1, k2⟩
theorem rq_num {N : Nat} {w : World} {b : Nat} {zs : List Int} {e : Int} (h : Rq N w b zs e) (hz : Byt zs) :
    Calls Tryd.prog 58 #[.pointer (some ⟨b, 0, none⟩)] w fun r w' => r = .returned (.int .i64 (numE zs e).1) ∧ Rq N w' b (numE zs e).2.1 (numE zs e).2.2 ∧ Rstep b w w' := by
  obtain ⟨h1, v, h2, h3⟩ := h
  refine (rnum_u b v zs e w h2 hz).mono ?_
  rintro r w' ⟨hr, hl⟩
  obtain ⟨k1, k2⟩ := Rq.left h1 h3 hl
  exact ⟨hr, k1, k2⟩
theorem rq_end {N : Nat} {w : World} {b : Nat} {zs : List Int} {e : Int} (h : Rq N w b zs e) :
    Calls Tryd.prog 61 #[.pointer (some ⟨b, 0, none⟩)] w fun r w' => r = .returned (.int .i64 (endR zs e)) ∧ w' = w := by
  obtain ⟨h1, v, h2, h3⟩ := h
  exact (end_any b v zs e w h2).mono fun r w' ⟨a, b⟩ => ⟨a, b.symm⟩
def whyI (zs : List Int) (e : Int) : Int := if endR zs e = 2 then 2 else 3
theorem rq_why {N : Nat} {w : World} {b : Nat} {zs : List Int} {e : Int} (h : Rq N w b zs e) :
    Calls Tryd.prog 60 #[.pointer (some ⟨b, 0, none⟩)] w fun r w' => r = .returned (.int .i64 (whyI zs e)) ∧ w' = w := by
  have C := rq_end h
  unfold whyI
  generalize endR zs e = x at *
  by_cases hx : x = 2
  · subst hx
    rw [if_pos rfl]
    go_enter Tryd.func60, Tryd.ntmps60
    go_wp2_with (go_at_call 61; refine C.mono ?_; rintro e w1 ⟨rfl, rfl⟩)
    go_ret
    exact ⟨rfl, rfl⟩
  · rw [if_neg hx]
    have hb : (x == 2) = false := by simp [hx]
    go_enter Tryd.func60, Tryd.ntmps60
    go_wp2_with (go_at_call 61; refine C.mono ?_; rintro e w1 ⟨rfl, rfl⟩)
    go_ret
    exact ⟨rfl, rfl⟩
theorem Tb.grown {w w' : World} {tb base : Nat} {v : Value} {l : List Ii} (h : Tb w tb) (ho : Lo w base v l) (hg : w.grownBy w' v.ownBlock) : Tb w' tb := by
  refine h.keep (hg.block tb (Cw.lt h) fun e => ?_)
  rcases ho.2 with ⟨rfl, _⟩ | ⟨g, cap, cur, rfl, _, hgg, _⟩
  · simp [Value.ownBlock] at e
  · have e' : tb = g := by simpa [Value.ownBlock] using e
    subst e'
    have h' : w.heap[tb]? = some (.cells opsR.toArray 57 (0, 0)) := h
    rw [hgg] at h'
    simp at h'
/-- What the loop of taking holds: so many are left to be taken. -/
structure TkI (T : Except Int (List Ii)) (n : Nat) (k : Nat) (acc : List Ii) (zs : List Int) (e : Int) : Prop where
  ok : e = 0 → T = (takeN (n - k) zs).map (acc ++ ·)
  bad : e ≠ 0 → zs = [] ∧ T = .error e ∧ (e = 2 ∨ e = 3)
  byt : Byt zs
theorem TkI.start (n : Nat) (zs : List Int) (h : Byt zs) : TkI (takeN n zs) n 0 [] zs 0 :=
  ⟨fun _ => by rw [Nat.sub_zero]; cases takeN n zs <;> rfl, fun h => absurd rfl h, h⟩
theorem TkI.num {T : Except Int (List Ii)} {n : Nat} {k : Nat} {acc : List Ii} {z : Int} {zs : List Int} (h : TkI T n k acc (z :: zs) 0) (hk : k < n) (ho : opI z = true) (ha : hasA z = true) :
    TkI T n (k + 1) (acc ++ [(z, (numR 10 0 0 zs).1)]) (numR 10 0 0 zs).2.1 (numR 10 0 0 zs).2.2 := by
  have hb : Byt zs := fun y hy => h.byt y (by simp [hy])
  obtain ⟨m, hm⟩ : ∃ m, n - k = m + 1 := ⟨n - k - 1, by omega⟩
  have e := h.ok rfl
  rw [hm, takeN, if_pos ho, if_pos ha] at e
  refine ⟨fun h0 => ?_, fun h0 => ⟨(numR_err 10 0 0 zs h0).2, ?_, ?_⟩, (numR_byt 10 0 0 zs hb).1⟩
  · rw [if_pos h0, map_app] at e
    rw [e, show n - (k + 1) = m by omega]
  · rw [if_neg h0] at e
    rw [e]
    rfl
  · rcases decP_back.numR_two 10 0 0 zs with h1 | h1 | h1
    · exact absurd h1 h0
    · exact Or.inl h1
    · exact Or.inr h1
theorem TkI.plain {T : Except Int (List Ii)} {n : Nat} {k : Nat} {acc : List Ii} {z : Int} {zs : List Int} (h : TkI T n k acc (z :: zs) 0) (hk : k < n) (ho : opI z = true) (ha : hasA z = false) : TkI T n (k + 1) (acc ++ [(z, 0)]) zs 0 := by
  obtain ⟨m, hm⟩ : ∃ m, n - k = m + 1 := ⟨n - k - 1, by omega⟩
  have e := h.ok rfl
  rw [hm, takeN, if_pos ho, if_neg (by simp [ha]), map_app] at e
  exact ⟨fun _ => by rw [e, show n - (k + 1) = m by omega], fun h0 => absurd rfl h0, fun y hy => h.byt y (by simp [hy])⟩
theorem TkI.none_ {T : Except Int (List Ii)} {n : Nat} {k : Nat} {acc : List Ii} {z : Int} {zs : List Int} (h : TkI T n k acc (z :: zs) 0) (hk : k < n) (ho : opI z = false) : T = .error 3 := by
  obtain ⟨m, hm⟩ : ∃ m, n - k = m + 1 := ⟨n - k - 1, by omega⟩
  have e := h.ok rfl
  rw [hm, takeN, if_neg (by simp [ho])] at e
  rw [e]
  rfl
theorem TkI.short {T : Except Int (List Ii)} {n : Nat} {k : Nat} {acc : List Ii} (h : TkI T n k acc [] 0) (hk : k < n) : T = .error 2 := by
  obtain ⟨m, hm⟩ : ∃ m, n - k = m + 1 := ⟨n - k - 1, by omega⟩
  have e := h.ok rfl
  rw [hm, takeN] at e
  rw [e]
  rfl
/-- What take answers. -/
def TkA (r : Except Int (List Ii)) (l : List Ii) (e : Int) : Prop := match r with
  | .ok l' => l = l' ∧ e = 0
  | .error x => e = x
/-- At the end: what is answered. -/
theorem TkI.last {T : Except Int (List Ii)} {n : Nat} {acc : List Ii} {zs : List Int} {e : Int} (h : TkI T n n acc zs e) : TkA T acc (endR zs e) := by
  by_cases he : e = 0
  · subst he
    have h1 := h.ok rfl
    rw [Nat.sub_self, takeN] at h1
    by_cases hz : zs = []
    · subst hz
      rw [if_pos rfl] at h1
      rw [h1]
      simp [Except.map, endR, TkA]
    · rw [if_neg hz] at h1
      rw [h1]
      simp [Except.map, endR, hz, TkA]
  · obtain ⟨h1, h2, h3⟩ := h.bad he
    rw [h2]
    simp [endR, h1, TkA]
end Go.Proofs.YtddmnpfebajnmaaDoor
