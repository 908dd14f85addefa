/-
  LinkWindow's walk.
-/
import Derived.Test.YtahodgmdikaedaaDoorM13
import Derived.Test.YtahodgmdikaedaaDoorLkWin
import Derived.Test.YtahodgmdikaedaaDoorLkRq
namespace Go.Proofs.YtahodgmdikaedaaDoor
open Go.RowKit
theorem wp_good (j : Nat) (h : j < 256) : (wp j).Good := ⟨by show j + 1 ≤ _; omega, Nat.zero_le _, fun z hz => by simp [wp] at hz; omega, by show 1 ≤ 4096; omega, fun h => by cases h⟩
theorem Ld.sz {w : World} {B : Nat} {F : Nat → Prop} {lb : Nat} {id : Int} {s : Lk} (h : Ld w B F lb id s) : B ≤ w.heap.size := by
  obtain ⟨v, rs, hl⟩ := h.l
  have h1 := hl.hi lb hl.fl
  have h2 := h.b lb hl.fl
  omega
/-- The blocks of a row of rows. -/
def Blk (v : Value) (rs : List Rw2) (k : Nat) : Prop := v.ownBlock = some k ∨ ∃ r ∈ rs, r.1.ownBlock = some k
theorem Rq.gr2 {G : Nat → Prop} {w w' : World} {B : Nat} {v : Value} {rs : List Rw2} (h : Rq w B v rs) (hg : Gr G w w') (hn : ∀ k, Blk v rs k → ¬ G k) : Rq w' B v rs :=
  ⟨h.row.keep fun k hk hlt => hg.block k hlt (hn k (Or.inl hk)), fun r hr => ⟨(h.each r hr).1.keep fun k hk hlt => hg.block k hlt (hn k (Or.inr ⟨r, hr, hk⟩)), (h.each r hr).2⟩⟩
theorem Rq.blk {w : World} {B : Nat} {v : Value} {rs : List Rw2} (h : Rq w B v rs) : ∀ k, Blk v rs k → B ≤ k ∧ k < w.heap.size := fun k hk => by
  rcases hk with hk | ⟨r, hr, hk⟩
  · exact h.row.lt k hk
  · exact World.ownsRow.lt (h.each r hr).1 k hk
/-- Two ends, and packets as they lie in the law's own queue. -/
structure WnJ (w : World) (la lb : Nat) (F : Nat → Prop) (s y : Lk) (v : Value) (rs : List Rw2) (W : World) : Prop where
  a : Ld W la F la 4 s
  b : Ld W la (fun k => k = lb) lb 4 y
  q : Rq W la v rs
  n : ∀ k, Blk v rs k → ¬ F k ∧ k ≠ lb
  f : ∀ k, F k → k ≠ lb
  l : Below la w W
theorem WnJ.push {w : World} {la lb : Nat} {F : Nat → Prop} {s y : Lk} {v : Value} {rs : List Rw2} {W : World} (h : WnJ w la lb F s y v rs W) {u : Value} {os : List Rw2} {n3 : Nat} (ho : Osl W n3 u os) (hn : la ≤ n3) (hb : ∀ k, Blk v rs k → k < n3) (hf : ∀ k, n3 ≤ k → ¬ F k ∧ k ≠ lb) (hl : rs.length + os.length ≤ 1000) :
    ∃ ao cap w', (∀ ty, (Builtin.append_ #[33, 33] ty #[v, u]).run Tryd.prog W = .ok (.slice ao (rs.length + os.length) cap) w') ∧ WnJ w la lb F s y (.slice ao (rs.length + os.length) cap) (rs ++ os) w' := by
  have hsz : la ≤ W.heap.size := h.a.sz
  obtain ⟨ao, cap, w', hrun, hq, hg, hat⟩ := h.q.app ho hn (fun k hk => hb k (Or.inl hk)) (by omega) hsz
  refine ⟨ao, cap, w', hrun, h.a.gr hg fun k hk e => (h.n k (Or.inl e)).1 hk, h.b.gr hg fun k hk e => (h.n k (Or.inl e)).2 hk, hq, fun k hk => ?_, h.f, h.l.trans (hg.below hsz fun k hk => (h.q.row.lt k hk).1)⟩
  rcases hk with hk | ⟨r, hr, hk⟩
  · rcases hat with e | ⟨k', e, hk'⟩
    · exact h.n k (Or.inl (by rw [← e]; exact hk))
    · rw [e] at hk
      have := Option.some.inj hk
      refine ⟨fun hF => by have := h.a.hi k hF; omega, fun e2 => by have := h.b.hi k e2; omega⟩
  · rcases List.mem_append.1 hr with hr | hr
    · exact h.n k (Or.inr ⟨r, hr, hk⟩)
    · exact hf k (World.ownsRow.lt (ho.each r hr).1 k hk).1
/-- Behind n rows Sent and c that were owned to. -/
def WnI (w : World) (la lb : Nat) (n c : Nat) (v : Value) (W : World) : Prop := ∃ F s y rs, WnJ w la lb F s y v rs W ∧ Wa n c s ∧ Wb c y ∧ bytesOf2 rs = (wps c (min 16 (n - c))).map (encP 4)
theorem wn_len {n c : Nat} {rs : List Rw2} (h : bytesOf2 rs = (wps c (min 16 (n - c))).map (encP 4)) : rs.length = min 16 (n - c) := by
  have := pb_len h
  rw [wps_len] at this
  exact this
/-- Send, and what goes out behind the others. -/
theorem WnI.send {w : World} {la lb j : Nat} {ao : Option Addr} {cap : Nat} {W : World} (h : WnI w la lb j 0 (.slice ao (min 16 j) cap) W) (hz : 0 < la) (hT : Tab w) (hj : j < 60) :
    Calls Tryd.prog 14 #[.pointer (some ⟨la, 0, none⟩), .slice (some ⟨W.heap.size, 0, none⟩) 1 1] (W.alloc (.cells #[.int .u8 (j : Int)] 5)) fun e w' => ∃ ao2 cap2 ao3 cap3 w3, e = .returned (.tuple #[.slice ao2 (if j < 16 then 1 else 0) cap2, .int .i64 0]) ∧
      Hid (∀ ty, (Builtin.append_ #[33, 33] ty #[.slice ao (min 16 j) cap, .slice ao2 (if j < 16 then 1 else 0) cap2]).run Tryd.prog w' = .ok (.slice ao3 (min 16 (j + 1)) cap3) w3) ∧ Hid (WnI w la lb (j + 1) 0 (.slice ao3 (min 16 (j + 1)) cap3) w3) := by
  obtain ⟨F, s, y, rs, J, sa, sb, hb⟩ := h
  have hsz := J.a.sz
  have hlen : rs.length = min 16 j := wn_len hb
  have hB1 : Below la w (W.alloc (.cells #[.int .u8 (j : Int)] 5)) := J.l.alloc hsz _
  have G1 : Gr (fun _ => False) W (W.alloc (.cells #[.int .u8 (j : Int)] 5)) := Gr.alloc _ _ _
  have hs1 : (W.alloc (.cells #[.int .u8 (j : Int)] 5)).heap.size = W.heap.size + 1 := World.size_alloc _ _
  have A1 := J.a.gr G1 fun k _ h => h
  have hbs : Bs (W.alloc (.cells #[.int .u8 (j : Int)] 5)) (.slice (some ⟨W.heap.size, 0, none⟩) 1 1) [(j : Int)] := Bs_of_block (heap_alloc_new W _) (by simp [maxLen])
  refine (Ld.send A1 A1.sz (hT.below hB1 hz) hz hbs (fun z hz => by simp at hz; omega) (by simp) (by rw [sa.l, wr_len]; omega) (by have := sa.g; omega)).mono ?_
  rintro e w2 ⟨ao2, cap2, n3, rfl, hn3, P, A2, G2⟩
  obtain ⟨sa2, eo⟩ := sa.put
  have elen : ((s.put [(j : Int)]).outs 16).length = if j < 16 then 1 else 0 := by rw [eo]; split <;> rfl
  rw [elen] at P ⊢
  rw [eo] at P
  obtain ⟨os, ho, hbo⟩ := P
  have hlo : os.length = if j < 16 then 1 else 0 := by have := pb_len hbo; rw [this]; split <;> rfl
  have blt := J.q.blk
  have J2 : WnJ w la lb (Fw F (W.alloc (.cells #[.int .u8 (j : Int)] 5)).heap.size n3) ((s.put [(j : Int)]).goes 16) y (.slice ao (min 16 j) cap) rs w2 := by
    refine ⟨A2, (J.b.gr G1 fun k _ h => h).gr G2 fun k hk hF => J.f k hF hk, (J.q.gr2 G1 fun k _ h => h).gr2 G2 fun k hk => (J.n k hk).1, fun k hk => ⟨fun hF => ?_, (J.n k hk).2⟩, fun k hF e => ?_, hB1.trans (G2.below A1.sz J.a.b)⟩
    · rcases hF with hF | hF
      · exact (J.n k hk).1 hF
      · have := (blt k hk).2; omega
    · rcases hF with hF | hF
      · exact J.f k hF e
      · have := J.b.hi k e; omega
  obtain ⟨ao3, cap3, w3, hrun, J3⟩ := J2.push ho (by omega) (fun k hk => by have := (blt k hk).2; omega) (fun k hk => ⟨fun hF => by rcases hF with hF | hF; have := J.a.hi k hF; omega; omega, fun e => by have := J.b.hi k e; omega⟩) (by rw [hlen, hlo]; split <;> omega)
  have el : rs.length + os.length = min 16 (j + 1) := by rw [hlen, hlo]; split <;> omega
  rw [el] at hrun J3
  refine ⟨ao2, cap2, ao3, cap3, w3, rfl, hrun, _, _, _, _, J3, sa2, sb, ?_⟩
  rw [bytesOf2_append, hb, hbo, ← List.map_append]
  congr 1
  show wps 0 (min 16 j) ++ _ = wps 0 (min 16 (j + 1))
  split
  · rw [show min 16 (j + 1) = min 16 j + 1 by omega, ← wps_app]
    congr 1
    rw [show 0 + min 16 j = j by omega]
    rfl
  · rw [List.append_nil, show min 16 (j + 1) = min 16 j by omega]
/-- The first packet comes to the other end, and what that tells comes back. -/
theorem WnI.own {w : World} {la lb n c l : Nat} {v : Value} {W : World} (h : WnI w la lb n c v W) (hz : 0 < la) (hT : Tab w) (hn : n ≤ 60) (hc : c < n) (hl : min 16 (n - c) = l + 1) :
    ∃ g off cap ap cp el, v = .slice (some ⟨g, off, none⟩) (l + 1) cap ∧ l + 1 ≤ cap ∧ cap ≤ maxLen ∧ W.cell? ⟨g, off, none⟩ = some (.slice ap el cp) ∧
      Hid (Calls Tryd.prog 16 #[.pointer (some ⟨lb, 0, none⟩), .slice ap el cp] W fun e w' => ∃ g5 cap5 ga oa cpa g6 cap6 ap6 cp6 l6, e = .returned (.tuple #[.slice (some ⟨g5, 0, none⟩) 1 cap5, .slice (some ⟨g6, 0, none⟩) 1 cap6]) ∧
        w'.cell? ⟨g5, 0, none⟩ = some (.slice (some ⟨ga, oa, none⟩) 1 cpa) ∧ w'.cell? ⟨ga, oa, none⟩ = some (.int .u8 (c : Int)) ∧ w'.cell? ⟨g6, 0, none⟩ = some (.slice ap6 l6 cp6) ∧
        Hid (Calls Tryd.prog 16 #[.pointer (some ⟨la, 0, none⟩), .slice ap6 l6 cp6] w' fun e w2 => ∃ ao7 l7 cap7 bo lp bc ao8 cap8 w3, e = .returned (.tuple #[.slice ao7 l7 cap7, .slice bo lp bc]) ∧
          Hid (∀ ty, (Builtin.append_ #[33, 33] ty #[.slice (if cap = 1 then some ⟨g, off, none⟩ else some ⟨g, off + 1, none⟩) l (cap - 1), .slice bo lp bc]).run Tryd.prog w2 = .ok (.slice ao8 (min 16 (n - (c + 1))) cap8) w3) ∧ Hid (WnI w la lb n (c + 1) (.slice ao8 (min 16 (n - (c + 1))) cap8) w3) ∧
          Hid (Calls Tryd.prog 19 #[.pointer (some ⟨la, 0, none⟩)] w3 fun e w' => e = .returned (.int .i64 ((n - (c + 1) : Nat) : Int)) ∧ w' = w3))) := by
  obtain ⟨F, s, y, rs, J, sa, sb, hb⟩ := h
  have hlen : rs.length = l + 1 := by rw [wn_len hb, hl]
  have hsz := J.a.sz
  cases rs with
  | nil => simp at hlen
  | cons r rs =>
    have hl2 : rs.length = l := by simpa using hlen
    rw [hl, wps_cons] at hb
    simp only [bytesOf2, List.map_cons, List.cons.injEq] at hb
    obtain ⟨hr, hb⟩ := hb
    obtain ⟨g, off, cap, ap, cp, hv, c1, c2, hcell, hbs, hbk, hq⟩ := J.q.head
    rw [hl2] at hv c1 hq
    rw [hr] at hcell hbs
    have hgood := wp_good c (by omega)
    have R1 := rd_enc 4 4 (by decide) (wp c) hgood
    rw [if_pos rfl] at R1
    have L1 := encP_len 4 (wp c) hgood
    refine ⟨g, off, cap, ap, cp, _, hv, c1, c2, hcell, ?_⟩
    refine (Ld.hear J.b (hT.below J.l hz) hz hbs (encP_byt 4 (by decide) _ hgood) (by omega) (wp c) R1 (by rw [sb.g]; omega) (by rw [sb.k]; omega) (by rw [sb.v]; omega) (by rw [sb.f, sb.w]; omega)).mono ?_
    rintro e w5 ⟨ao5, cap5, os5, bo5, bc5, rfl, O5, hr5, P5, B5, G5⟩
    obtain ⟨sb2, e1, e2⟩ := sb.hear
    rw [e1] at hr5
    rw [e2] at P5 ⊢
    have hl5 : os5.length = 1 := by have := congrArg List.length hr5; rw [bytesOf2_len] at this; simpa using this
    obtain ⟨g5, ap5, cp5, rfl, q5, hb5, _, _, _, _⟩ := O5.at (j := 0) (by omega)
    rw [hr5] at q5 hb5
    obtain ⟨g6, ap6, cp6, rfl, q6, hb6, _, _, _, _⟩ := P5.at (j := 0) (p := ⟨0, c + 1, []⟩) rfl
    obtain ⟨ga, oa, hga, hcella⟩ : ∃ ga oa, ap5 = some ⟨ga, oa, none⟩ ∧ w5.cell? ⟨ga, oa, none⟩ = some (.int .u8 (c : Int)) := by
      rcases hb5 with ⟨h, _⟩ | ⟨_, b, o, cc, e, _, _, hc⟩
      · cases h
      · simp only [Value.slice.injEq] at e
        obtain ⟨rfl, _, _⟩ := e
        have := hc 0 (by simp)
        exact ⟨b, o, rfl, this⟩
    subst hga
    have hG0 : ∀ k, Blk v (r :: rs) k → ¬ k = lb := fun k hk => (J.n k hk).2
    have blt := J.q.blk
    have A5 := J.a.gr G5 fun k hF e => J.f k hF e
    have bq : ∀ k, Blk (.slice (if cap = 1 then some ⟨g, off, none⟩ else some ⟨g, off + 1, none⟩) l (cap - 1)) rs k → Blk v (r :: rs) k := fun k hk => by
      rcases hk with hk | ⟨q, hq2, hk⟩
      · refine Or.inl ?_
        rw [hv, ← hk]
        split <;> rfl
      · exact Or.inr ⟨q, List.mem_cons_of_mem _ hq2, hk⟩
    have J5 : WnJ w la lb F s (y.hearS 16 (wp c)) (.slice (if cap = 1 then some ⟨g, off, none⟩ else some ⟨g, off + 1, none⟩) l (cap - 1)) rs w5 :=
      ⟨A5, B5, hq.gr2 G5 fun k hk => hG0 k (bq k hk), fun k hk => J.n k (bq k hk), J.f, J.l.trans (G5.below hsz fun k hk => by have := J.b.b k hk; exact this)⟩
    have hgood2 : Pk.Good ⟨0, c + 1, []⟩ := ⟨Nat.zero_le _, (by show c + 1 ≤ _; omega), (fun z hz => by cases hz), Nat.zero_le _, fun _ => rfl⟩
    have R2 := rd_enc 4 4 (by decide) ⟨0, c + 1, []⟩ hgood2
    rw [if_pos rfl] at R2
    have L2 := encP_len 4 ⟨0, c + 1, []⟩ hgood2
    refine ⟨g5, cap5, ga, oa, cp5, g6, bc5, ap6, cp6, _, by rw [hl5]; rfl, q5, hcella, q6, ?_⟩
    refine (Ld.hear J5.a (hT.below J5.l hz) hz hb6 (encP_byt 4 (by decide) _ hgood2) (by omega) ⟨0, c + 1, []⟩ R2 (by have := sa.g; omega) (by rw [sa.k]; omega) (by rw [sa.v]; omega) (by rw [sa.f, sa.w]; omega)).mono ?_
    rintro e w7 ⟨ao7, cap7, os7, bo7, bc7, rfl, _, _, P7, A7, G7⟩
    obtain ⟨sa2, e3⟩ := sa.own hc
    rw [e3] at P7 ⊢
    obtain ⟨os, ho, hbo⟩ := P7
    have hlo : os.length = min 16 (n - (c + 1)) - (min 16 (n - c) - 1) := by rw [pb_len hbo, wps_len]
    have J7 : WnJ w la lb F (s.hearS 16 ⟨0, c + 1, []⟩) (y.hearS 16 (wp c)) (.slice (if cap = 1 then some ⟨g, off, none⟩ else some ⟨g, off + 1, none⟩) l (cap - 1)) rs w7 :=
      ⟨A7, J5.b.gr G7 fun k hk hF => J.f k hF hk, J5.q.gr2 G7 fun k hk => (J5.n k hk).1, J5.n, J.f, J5.l.trans (G7.below J5.a.sz J.a.b)⟩
    have b5 := J5.q.blk
    obtain ⟨ao8, cap8, w8, hrun, J8⟩ := J7.push ho J5.a.sz (fun k hk => (b5 k hk).2) (fun k hk => ⟨fun hF => by have := J5.a.hi k hF; omega, fun e => by have := J5.b.hi k e; omega⟩) (by rw [hl2, hlo]; omega)
    have el : rs.length + os.length = min 16 (n - (c + 1)) := by rw [hl2, hlo]; omega
    rw [el] at hrun J8
    refine ⟨ao7, _, cap7, bo7, _, bc7, ao8, cap8, w8, rfl, hrun, ⟨_, _, _, _, J8, sa2, sb2, ?_⟩, ?_⟩
    · have hb' : bytesOf2 rs = (wps (c + 1) l).map (encP 4) := hb
      rw [bytesOf2_append, hb', hbo, ← List.map_append, show c + min 16 (n - c) = c + 1 + l by omega, wps_app]
      congr 2
      omega
    · have := J8.a.left
      rw [sa2.l, wr_len] at this
      exact this
section
variable {ops : Array Oper} {rest : List Oper} {o : Oper} {a : Act} {w : World} {Q : Exit → Act → World → Prop}
theorem wpList_append_eq {w' : World} (hgd : o.guard = none) (t : TypeId) (s x : Operand) (ho : o.op = .call { callee := .builtin .append, args := #[s, x], argTypes := #[t, t] })
    (v u v' : Value) (hs : a.eval s = v) (hx : a.eval x = u) (hr : ∀ ty, (Builtin.append_ #[t, t] ty #[v, u]).run Tryd.prog w = .ok v' w') (h : wpList Tryd.prog ops Q rest (a.put o.dst v') w') : wpList Tryd.prog ops Q (o :: rest) a w := by
  refine wpList_plain hgd fun _ hK => ?_
  unfold Oper.wp execOp
  simp only [ho, resolve, invoke, builtin, Sem.run_bind, Sem.run_pure, Result.andThen_ok, List.map_toArray, List.map_cons, List.map_nil, hs, hx, hr]
  exact hK _ _ h
end
set_option maxHeartbeats 6400000 in
set_option maxRecDepth 20000 in
theorem window_walk (n0 n1 : Int) (h0 : -9223372036854775808 ≤ n0 ∧ n0 ≤ 9223372036854775807) (h1 : -9223372036854775808 ≤ n1 ∧ n1 ≤ 9223372036854775807) (w : World) (ht : Tab w) :
    Calls Tryd.prog 8 #[.int .i64 n0, .int .i64 n1] w fun e w' => e = .returned (.bool true) ∧ Below w.heap.size w w' := by
  have K : Hid (∀ W, Below w.heap.size w W → Calls Tryd.prog 10 #[] W fun e w' => e = .returned (.bool true) ∧ Below w.heap.size w w') := fun W h => (lknown_any W (ht.below h ht.lt)).mono fun e w' ⟨he, hB⟩ => ⟨he, h.trans (hB.mono h.size)⟩
  have hc : n0 < 0 ∨ (¬ n0 < 0 ∧ 60 < n0) ∨ (¬ n0 < 0 ∧ ¬ 60 < n0 ∧ n1 < 0) ∨ (¬ n0 < 0 ∧ ¬ 60 < n0 ∧ ¬ n1 < 0 ∧ n0 < n1) ∨ (0 ≤ n0 ∧ n0 ≤ 60 ∧ 0 ≤ n1 ∧ n1 ≤ n0) := by omega
  rcases hc with c | ⟨c, c2⟩ | ⟨c, c2, c3⟩ | ⟨c, c2, c3, c4⟩ | hc
  iterate 4
    · clear ht h0 h1
      go_enter Tryd.func8, Tryd.ntmps8
      go_wp2_with (go_at_call 10; refine (K.out _ (Below.refl _ _)).mono ?_; rintro e w1 ⟨rfl, hB⟩)
      go_ret
      exact ⟨rfl, hB⟩
  obtain ⟨n, rfl⟩ : ∃ n : Nat, n0 = n := ⟨n0.toNat, by omega⟩
  obtain ⟨m, rfl⟩ : ∃ m : Nat, n1 = m := ⟨n1.toNat, by omega⟩
  have hn : n ≤ 60 := by omega
  have hm : m ≤ n := by omega
  have q1 : ¬ (n : Int) < 0 := by omega
  have q2 : ¬ (60 : Int) < (n : Int) := by omega
  have q3 : ¬ (m : Int) < 0 := by omega
  have q4 : ¬ (n : Int) < (m : Int) := by omega
  have hz := hid_into ht.lt
  have hT := hid_into ht
  clear ht h0 h1 hc
  go_enter Tryd.func8, Tryd.ntmps8
  go_wp2_with fail
  refine (Ld.new w w.heap.size (Nat.le_refl _) 4 (by decide)).mono ?_
  rintro e w1 ⟨rfl, A1, B1, s1⟩
  replace s1 := hid_into s1
  have hle1 := hid_into B1.size
  replace B1 := hid_into B1
  replace A1 := hid_into A1
  generalize hla : w.heap.size = la at *
  replace hla := hid_into hla
  go_wp2_with fail
  refine (Ld.new w1 la hle1.out 4 (by decide)).mono ?_
  rintro e w2 ⟨rfl, C2, B2, s2⟩
  have A2 := hid_into (A1.out.below B2)
  have B12 : Hid (Below la w w2) := B1.out.trans (B2.mono hle1.out)
  replace s2 := hid_into s2
  replace C2 := hid_into C2
  clear B2
  generalize w1.heap.size = lb at *
  have I0 : Hid (WnI w la lb 0 0 (.slice none 0 0) w2) := ⟨_, _, _, [], ⟨A2.out, C2.out, Rq.nil _ _, fun k hk => (by rcases hk with hk | ⟨r, hr, hk⟩; cases hk; cases hr), fun k hk => (by have := s1.out; omega), B12.out⟩, ⟨rfl, rfl, rfl, rfl, Nat.zero_le _, rfl⟩, ⟨rfl, rfl, rfl, rfl, rfl, rfl⟩, rfl⟩
  clear A1 B1 A2 C2 B12 hle1 s2
  go_wp2_with fail
  go_loopw [7, 8] (fun o i wr => ∃ (j : Nat) (ao : Option Addr) (cap : Nat), i = .int .i64 (j : Int) ∧ j ≤ n ∧ o = .slice ao (min 16 j) cap ∧ WnI w la lb j 0 (.slice ao (min 16 j) cap) wr) (fun _ i _ => n - (intOf i).toNat)
  case atStart => exact ⟨0, none, 0, rfl, Nat.zero_le _, rfl, I0.out⟩
  case round =>
    obtain ⟨j, ao, cap, rfl, hj, rfl, I⟩ := hrel
    by_cases hlt : j < n
    · have hlt' : (j : Int) < (n : Int) := by omega
      have C := hid_into (I.send hz.out hT.out (by omega))
      have hj8 : IntKind.u8.wrap (j : Int) = (j : Int) := by simp only [IntKind.wrap_u8]; omega
      clear I hn
      by_cases h16 : j < 16
      · have h16' : (j : Int) < 16 := by omega
        rw [if_pos h16] at C
        clear h16
        generalize hl2 : min 16 (j + 1) = l2 at *
        replace hl2 := hid_into hl2
        generalize min 16 j = l1 at *
        go_wp2_with (first
          | (go_at_call 14; refine C.out.mono ?_; rintro e w3 ⟨ao2, cap2, ao3, cap3, w4, rfl, HR, HI⟩)
          | (refine wpList_append_eq rfl 33 (.tmp 69) (.tmp 70) rfl _ _ _ (by rfl) (by rfl) HR.out ?_))
        go_roundw
        case rel => exact ⟨j + 1, ao3, cap3, by go_num, by omega, by rw [hl2.out], by rw [hl2.out]; exact HI.out⟩
        case measure => simp [intOf]; omega
      · have h16' : ¬ (j : Int) < 16 := by omega
        rw [if_neg h16] at C
        clear h16
        generalize hl2 : min 16 (j + 1) = l2 at *
        replace hl2 := hid_into hl2
        generalize min 16 j = l1 at *
        go_wp2_with (first
          | (go_at_call 14; refine C.out.mono ?_; rintro e w3 ⟨ao2, cap2, ao3, cap3, w4, rfl, HR, HI⟩)
          | (refine wpList_append_eq rfl 33 (.tmp 69) (.tmp 70) rfl _ _ _ (by rfl) (by rfl) HR.out ?_))
        go_roundw
        case rel => exact ⟨j + 1, ao3, cap3, by go_num, by omega, by rw [hl2.out], by rw [hl2.out]; exact HI.out⟩
        case measure => simp [intOf]; omega
    · obtain rfl : j = n := by omega
      have I1 := hid_into I
      clear I
      go_wp2_with fail
      go_loopw [7, 11, 12] (fun o k i wr => ∃ (c : Nat) (ao : Option Addr) (cap : Nat), i = .int .i64 (c : Int) ∧ k = .int .i64 (c : Int) ∧ c ≤ m ∧ o = .slice ao (min 16 (j - c)) cap ∧ WnI w la lb j c (.slice ao (min 16 (j - c)) cap) wr) (fun _ _ i _ => m - (intOf i).toNat)
      case atStart => exact ⟨0, ao, cap, rfl, rfl, Nat.zero_le _, rfl, I1.out⟩
      case round =>
        obtain ⟨c, ao2, cap2, rfl, rfl, hcm, rfl, I⟩ := hrel
        by_cases hlt2 : c < m
        · have hlt2' : (c : Int) < (m : Int) := by omega
          obtain ⟨l, hl⟩ : ∃ l, min 16 (j - c) = l + 1 := ⟨min 16 (j - c) - 1, by omega⟩
          obtain ⟨g, off, cap3, ap, cp, el, hv, c1, c2, hcell, C⟩ := I.own hz.out hT.out hn (by omega) hl
          rw [hl] at hv ⊢
          simp only [Value.slice.injEq] at hv
          obtain ⟨rfl, _, rfl⟩ := hv
          obtain ⟨d, hd⟩ : ∃ d, d = j - (c + 1) := ⟨_, rfl⟩
          have hdi : (j : Int) - ((c : Int) + 1) = (d : Int) := by omega
          rw [← hd] at C
          have hL : Hid (min 16 (j - (c + 1)) = min 16 d) := by show _ = _; rw [hd]
          have hLi : min (16 : Int) (d : Int) = ((min 16 d : Nat) : Int) := by omega
          have c8 : IntKind.u8.wrap (c : Int) = (c : Int) := by simp only [IntKind.wrap_u8]; omega
          have p1 : (0 : Int) < (l : Int) + 1 := by omega
          have p2 : (1 : Int) ≤ (l : Int) + 1 := by omega
          have p3 : l + 1 ≤ cap2 := c1
          unfold maxLen at c2
          clear I hd hn hm hl
          generalize min 16 d = L2 at *
          by_cases hcap : cap2 = 1
          · subst hcap
            rw [if_pos rfl] at C
            obtain rfl : l = 0 := by omega
            clear c1 p3
            go_wp2_with fail
            refine C.out.mono ?_
            rintro e w5 ⟨g5, cap5, ga, oa, cpa, g6, cap6, ap6, cp6, l6, rfl, r5, r6, r7, C2⟩
            go_wp2_with fail
            refine C2.out.mono ?_
            rintro e w7 ⟨ao7, l7, cap7, bo, lp, bc, ao8, cap8, w8, rfl, HR, HI, C3⟩
            clear C C2 r5 r6 r7 hcell
            go_wp2_with (first
              | (refine wpList_append_eq rfl 33 (.tmp 127) (.tmp 128) rfl _ _ _ (by rfl) (by rfl) (fun ty => HR.out ty) ?_)
              | (go_at_call 19; refine C3.out.mono ?_; rintro e w9 ⟨rfl, h9⟩; subst h9))
            go_roundw
            case rel => exact ⟨c + 1, ao8, cap8, by go_num, by go_num, by omega, by rw [hL.out], by rw [hL.out]; exact HI.out⟩
            case measure => simp [intOf]; omega
          · rw [if_neg hcap] at C
            have hcap2 : ¬ (cap2 : Int) = 1 := by omega
            go_wp2_with fail
            refine C.out.mono ?_
            rintro e w5 ⟨g5, cap5, ga, oa, cpa, g6, cap6, ap6, cp6, l6, rfl, r5, r6, r7, C2⟩
            go_wp2_with fail
            refine C2.out.mono ?_
            rintro e w7 ⟨ao7, l7, cap7, bo, lp, bc, ao8, cap8, w8, rfl, HR, HI, C3⟩
            clear C C2 r5 r6 r7 hcell
            go_wp2_with (first
              | (refine wpList_append_eq rfl 33 (.tmp 127) (.tmp 128) rfl _ _ _ (by rfl) (by rfl) (fun ty => HR.out ty) ?_)
              | (go_at_call 19; refine C3.out.mono ?_; rintro e w9 ⟨rfl, h9⟩; subst h9))
            go_roundw
            case rel => exact ⟨c + 1, ao8, cap8, by go_num, by go_num, by omega, by rw [hL.out], by rw [hL.out]; exact HI.out⟩
            case measure => simp [intOf]; omega
        · obtain rfl : c = m := by omega
          have hB : Hid (Below la w wr) := by obtain ⟨_, _, _, _, J, _⟩ := I; exact J.l
          clear I
          go_wp2_with (go_at_call 10; refine (K.out _ hB.out).mono ?_; rintro e w9 ⟨rfl, h9⟩)
          go_ret
          exact ⟨rfl, by rw [hla.out]; exact h9⟩
end Go.Proofs.YtahodgmdikaedaaDoor
