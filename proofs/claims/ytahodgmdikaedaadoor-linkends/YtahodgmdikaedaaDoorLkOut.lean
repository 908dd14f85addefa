/-
  Packets of an end are under way to the other one: out, by contract.
-/
import Derived.Test.YtahodgmdikaedaaDoorLkWay
namespace Go.Proofs.YtahodgmdikaedaaDoor
open Go.RowKit
/-- Two ends with the document's beside them, and packets under way. -/
structure Bo (w : World) (B xb la lb da db : Nat) (v : Value) (ps : List Pq) : Prop where
  q : Cw w xb (boC la lb da db v) 46
  k : Wq w B v ps
  n : ¬ BlkP v ps xb
  b : B ≤ xb
theorem Bo.gr {w w' : World} {B xb la lb da db : Nat} {v : Value} {ps : List Pq} {G : Nat → Prop} (h : Bo w B xb la lb da db v ps) (hg : Gr G w w') (hx : ¬ G xb) (hn : ∀ k, BlkP v ps k → ¬ G k) : Bo w' B xb la lb da db v ps :=
  ⟨hg.cw h.q hx, h.k.gr hg hn, h.n, h.b⟩
/-- What out's loop holds behind j rows. -/
structure OutI (w : World) (B xb la lb da db : Nat) (v : Value) (ps : List Pq) (en : Int) (zs : List (List Int)) (v' : Value) (new : List Pq) (W : World) : Prop where
  b : Bo W B xb la lb da db v' (ps ++ new)
  e : new.map (fun p => (p.to, p.b)) = zs.map fun z => (1 - en, z)
  g : Gr (fun k => k = xb ∨ v.ownBlock = some k) w W
  k : ∀ k, BlkP v' (ps ++ new) k → BlkP v ps k ∨ w.heap.size ≤ k
  o : ∀ k, v'.ownBlock = some k → v.ownBlock = some k ∨ w.heap.size ≤ k
theorem snoc2 {xs : List (List Int)} {k : Nat} (h : k < xs.length) : xs.take (k + 1) = xs.take k ++ [xs.getD k []] := by
  rw [List.take_succ_eq_append_getElem h, List.getD, List.getElem?_eq_getElem h]
  rfl
section
variable {w : World} {B xb la lb da db : Nat} {v : Value} {ps : List Pq} {en : Int}
/-- One row more under way. -/
theorem OutI.step {W : World} {zs : List (List Int)} {v' : Value} {new : List Pq} (h : OutI w B xb la lb da db v ps en zs v' new W) (hB : B ≤ w.heap.size) (hl : (ps ++ new).length ≤ 1000000) (ap : Option Addr) (cp : Nat) (z : List Int) (hz : Bs W (.slice ap z.length cp) z) (hzl : z.length ≤ 1000000) :
    ∃ a1 c1 w1 a2 c2 w2, Hid (∀ ty, (Builtin.append_ #[29, 29] ty #[.slice (some ⟨W.heap.size, 0, none⟩) 0 0, .slice ap z.length cp]).run Tryd.prog (W.drew.alloc (.cells #[] 5)) = .ok (.slice a1 z.length c1) w1) ∧
      w1.cell? ⟨xb, 4, none⟩ = some v' ∧ xb < w1.heap.size ∧
      Hid (∀ ty, (Builtin.append_ #[44, 44] ty #[v', .slice (some ⟨w1.heap.size, 0, none⟩) 1 1]).run Tryd.prog (w1.alloc (.cells #[.int .i64 (1 - en), .slice a1 z.length c1] 50)) = .ok (.slice a2 ((ps ++ new).length + 1) c2) w2) ∧
      w2.cell? ⟨xb, 4, none⟩ = some v' ∧ w2.frozen? ⟨xb, 4, none⟩ = false ∧
      (∀ (k : Nat) x, k < W.heap.size → (W.cell? ⟨k, x, none⟩).isSome = true → w1.cell? ⟨k, x, none⟩ = W.cell? ⟨k, x, none⟩) ∧
      Hid (∃ new', OutI w B xb la lb da db v ps en (zs ++ [z]) (.slice a2 ((ps ++ new).length + 1) c2) new' (w2.setCell ⟨xb, 4, none⟩ (.slice a2 ((ps ++ new).length + 1) c2))) := by
  have hxW := h.b.q.lt
  have hWs := h.g.size
  have hsa : (W.drew.alloc (.cells #[] 5)).heap.size = W.heap.size + 1 := World.size_alloc _ _
  have hown : Ow (W.drew.alloc (.cells #[] 5)) W.heap.size (.slice (some ⟨W.heap.size, 0, none⟩) 0 0) [] := Ow_of_block (heap_alloc_new W.drew _) (by simp) (Nat.le_refl _)
  have Ba : Below W.heap.size W (W.drew.alloc (.cells #[] 5)) := ((Below.refl _ W).drew).alloc (Nat.le_refl _) _
  obtain ⟨a1, c1, w1, hr1, ho1, hg1, hat1⟩ := run_append_bs (W.drew.alloc (.cells #[] 5)) W.heap.size 0 _ [] hown (.slice ap z.length cp) z (hz.below Ba (Nat.le_refl _)) (by simp; omega) (by omega)
  simp only [List.length_nil, Nat.zero_add, List.nil_append] at hr1 ho1
  have B1 : Below W.heap.size W w1 := Ba.trans (grown_below hg1 (by omega) hown.from)
  have G1 : Gr (fun _ => False) W w1 := Gr.of_below B1 _ fun k hk hb => by omega
  have K1 : Bo w1 B xb la lb da db v' (ps ++ new) := h.b.gr G1 (fun h => h) fun _ _ h => h
  have hs1 := B1.size
  have hk1 := World.ownsRow.lt ho1
  obtain ⟨a2, c2, w2, hr2, hq2, hg2, hb2, hoo⟩ := K1.k.push (by omega) (1 - en) (.slice a1 z.length c1) z (ho1.mono (by omega)) (fun k hk e => by have := (hk1 k hk).1; have := (h.b.k.blk k (Or.inl e)).2; omega) hl
  have hxv : ¬ v'.ownBlock = some xb := fun e => h.b.n (Or.inl e)
  have q2 : Cw w2 xb (boC la lb da db v') 46 := hg2.cw K1.q hxv
  have hnx : ¬ BlkP (.slice a2 ((ps ++ new).length + 1) c2) (ps ++ new ++ [⟨1 - en, .slice a1 z.length c1, z⟩]) xb := fun hk => by
    rcases hb2 xb hk with e | e | e
    · exact h.b.n e
    · have := (hk1 xb e).1; omega
    · omega
  have gs : Gr (fun k => k = xb) w2 (w2.setCell ⟨xb, 4, none⟩ (.slice a2 ((ps ++ new).length + 1) c2)) := Gr.setCell _ _ _ rfl
  refine ⟨a1, c1, w1, a2, c2, w2, fun ty => hr1, K1.q.cell 4, K1.q.lt, hr2, q2.cell 4, q2.frozen 4, fun k x hk _ => World.cell?_of_block (B1.block k hk), new ++ [⟨1 - en, .slice a1 z.length c1, z⟩], ⟨q2.set 4 _, ?_, ?_, h.b.b⟩, ?_, ?_, fun k hk => ?_, fun k hk => ?_⟩
  · rw [← List.append_assoc]
    exact hq2.gr gs fun k hk e => hnx (by rw [← e]; exact hk)
  · rw [← List.append_assoc]
    exact hnx
  · rw [List.map_append, h.e, List.map_append]
    rfl
  · refine ((h.g.trans G1 fun _ h => h.elim).trans hg2 fun k hk => ?_).trans gs fun k hk => Or.inl (Or.inl hk)
    rcases h.o k hk with e | e
    · exact Or.inl (Or.inr e)
    · exact Or.inr e
  · rw [← List.append_assoc] at hk
    rcases hb2 k hk with e | e | e
    · exact h.k k e
    · exact Or.inr (by have := (hk1 k e).1; omega)
    · exact Or.inr (by omega)
  · rcases hoo k hk with e | e
    · exact h.o k e
    · exact Or.inr (by omega)
set_option maxHeartbeats 3200000 in
set_option maxRecDepth 20000 in
theorem out_any (h : Bo w B xb la lb da db v ps) (hB : B ≤ w.heap.size) (he : 0 ≤ en ∧ en ≤ 1) {n : Nat} {u : Value} {os : List Rw2} (ho : Osl w n u os) (hsep : ∀ k, (u.ownBlock = some k ∨ ∃ r ∈ os, r.1.ownBlock = some k) → k ≠ xb ∧ v.ownBlock ≠ some k) (hrl : ∀ r ∈ os, r.2.length ≤ 1000000) (hl : ps.length + os.length ≤ 1000000) :
    Calls Tryd.prog 17 #[.pointer (some ⟨xb, 0, none⟩), .int .i64 en, u] w fun e w' => ∃ v' new, e = .returned (.tuple #[]) ∧ OutI w B xb la lb da db v ps en (bytesOf2 os) v' new w' := by
  have I0 : OutI w B xb la lb da db v ps en [] v [] w := ⟨by rw [List.append_nil]; exact h, rfl, Gr.refl _ _, fun k hk => Or.inl (by rw [List.append_nil] at hk; exact hk), fun k hk => Or.inl hk⟩
  obtain ⟨uo, uc, rfl⟩ := ho.form
  have hu : ∀ k, ((Value.slice uo os.length uc).ownBlock = some k ∨ ∃ r ∈ os, r.1.ownBlock = some k) → k < w.heap.size := fun k hk => by
    rcases hk with hk | ⟨r, hr, hk⟩
    · exact (World.ownsRow.lt ho.row k hk).2
    · exact (World.ownsRow.lt (ho.each r hr).1 k hk).2
  have HO : Hid (∀ W, Gr (fun k => k = xb ∨ v.ownBlock = some k) w W → Osl W n (.slice uo os.length uc) os) := fun W hg =>
    ⟨ownsRow_keep ho.row fun k hk hlt => hg.block k hlt fun e => by rcases e with e | e; exact (hsep k (Or.inl hk)).1 e; exact (hsep k (Or.inl hk)).2 e,
     fun r hr => ⟨(ho.each r hr).1.keep fun k hk hlt => hg.block k hlt fun e => by rcases e with e | e; exact (hsep k (Or.inr ⟨r, hr, hk⟩)).1 e; exact (hsep k (Or.inr ⟨r, hr, hk⟩)).2 e, (ho.each r hr).2⟩⟩
  have hnl : ∀ (j : Nat) v' new W, OutI w B xb la lb da db v ps en ((bytesOf2 os).take j) v' new W → j ≤ os.length → new.length = j := fun j v' new W hI hj => by
    have := congrArg List.length hI.e
    rw [List.length_map, List.length_map, List.length_take, bytesOf2_len] at this
    omega
  have hnl := hid_into hnl
  clear h ho hsep hu
  go_enter Tryd.func17, Tryd.ntmps17
  go_wp2_with fail
  go_loopw [6] (fun i wr => ∃ (j : Nat) (v' : Value) (new : List Pq), i = .int .i64 (j : Int) ∧ j ≤ os.length ∧ OutI w B xb la lb da db v ps en ((bytesOf2 os).take j) v' new wr) (fun i _ => os.length - (intOf i).toNat)
  case atStart => exact ⟨0, v, [], rfl, Nat.zero_le _, by rw [List.take_zero]; exact I0⟩
  case round =>
    obtain ⟨j, v', new, rfl, hj, I⟩ := hrel
    by_cases hlt : j < os.length
    · have f1 : (0 : Int) ≤ (j : Int) := by omega
      have f2 : (j : Int) < (os.length : Int) := by omega
      obtain ⟨rg, ap, cp, rfl, hcell, hbs, hc1, hc2, hrg, hrk⟩ := (HO.out wr I.g).at hlt
      have hzl : ((bytesOf2 os).getD j []).length ≤ 1000000 := by
        have : (bytesOf2 os).getD j [] = (os[j]).2 := by simp [bytesOf2, List.getD, hlt]
        rw [this]
        exact hrl _ (List.getElem_mem hlt)
      have hlen := hnl.out j v' new wr I (by omega)
      obtain ⟨a1, c1, w1, a2, c2, w2, R1, k1, x1, R2, k2, z2, kk, N⟩ := I.step hB (by rw [List.length_append]; omega) ap cp _ hbs hzl
      rw [← snoc2 (by rw [bytesOf2_len]; exact hlt)] at N
      have kx : wr.cell? ⟨xb, 4, none⟩ = some v' := I.b.q.cell 4
      have lx := I.b.q.lt
      have lg := World.block_lt_of_cell? wr _ hcell
      obtain ⟨vo, vc, hv'⟩ : ∃ vo vc, v' = .slice vo (ps ++ new).length vc := I.b.k.row.form
      subst hv'
      unfold maxLen at hc2
      clear I hbs hlen kk
      generalize (bytesOf2 os).getD j [] = z at *
      generalize hml : (ps ++ new).length = ml at *
      replace hml := hid_into hml
      have s1 : IntKind.i64.wrap (1 - en) = 1 - en := IntWalk.i64_in _ (by omega)
      go_wp2_with fail
      go_region_law (first
        | (refine step_append_eq rfl 29 (.tmp 20) (.tmp 24) rfl _ _ _ (by rfl) (by rfl) R1.out ?_)
        | (refine step_append_eq rfl 44 (.tmp 17) (.tmp 27) rfl _ _ _ (by rfl) (by rfl) R2.out ?_))
      all_goals
        (clear R1 R2 k1 x1 k2 z2 kx lx lg hcell
         go_wp2_with fail
         go_roundw
         case rel =>
          obtain ⟨new', N'⟩ := N.out
          exact ⟨j + 1, _, new', by go_num, by omega, N'⟩
         case measure => simp [intOf]; omega)
    · obtain rfl : j = os.length := by omega
      have hI : OutI w B xb la lb da db v ps en (bytesOf2 os) v' new wr := by
        have e : (bytesOf2 os).take os.length = bytesOf2 os := List.take_of_length_le (by rw [bytesOf2_len]; exact Nat.le_refl _)
        rw [e] at I
        exact I
      clear I
      go_wp2_with fail
      go_end0
      exact ⟨v', new, rfl, hI⟩
end
end Go.Proofs.YtahodgmdikaedaaDoor
