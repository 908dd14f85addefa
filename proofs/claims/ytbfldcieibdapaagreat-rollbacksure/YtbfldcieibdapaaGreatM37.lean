/-
  Joined from: RfMem, RfNow, RfLocal.
-/
import Derived.Test.YtbfldcieibdapaaGreatM21
import Derived.Test.YtbfldcieibdapaaGreatM35
import Derived.Test.YtbfldcieibdapaaGreatM36
section
/-
  The document's session in memory (Rx); used, Needs, by contracts.
-/
namespace Go.Proofs.YtbfldcieibdapaaGreat
open Go.RowKit
/-- Where the parts of the document's session lie; the game's program is the caller's own. -/
structure Yx where
  sb : Nat
  qb : Nat
  qlo : Nat
  qhi : Nat
  a0 : Nat
  a1 : Nat
  b0 : Nat
  b1 : Nat
  cv : Value
structure Yx.Ok (Y : Yx) (lo hi : Nat) : Prop where
  s : lo ≤ Y.sb ∧ Y.sb < hi
  q : lo ≤ Y.qlo ∧ Y.qhi ≤ hi
  sq : Y.sb < Y.qlo ∨ Y.qhi ≤ Y.sb
def Yx.cells (Y : Yx) (G : Gm) (s : Sa) : List Value := [Y.cv, .int .i64 G.cap, .int .i64 G.fuel, .int .u32 G.seed, .int .i64 s.me, .pointer (some ⟨Y.qb, 0, none⟩), .int .i64 (s.P : Int), .int .i64 s.st, .int .i64 s.wr]
structure Rx (w : World) (lo hi : Nat) (Y : Yx) (G : Gm) (s : Sa) : Prop where
  c : Cw w Y.sb (Y.cells G s) 52
  q : In.Rq w Y.qlo Y.qhi Y.qb Y.a0 Y.a1 Y.b0 Y.b1 s.r0 s.r1
  l : Ls w Y.cv G.l
  x : Y.Ok lo hi
  z : hi ≤ w.heap.size
  ok : s.Ok G
  g : G.Ok
  nc : G.l ≠ [] → ∀ k, Y.cv.ownBlock = some k → k < lo
theorem Ls.keepN {w w' : World} {v : Value} {l : List Ii} (h : Ls w v l) (hk : l ≠ [] → ∀ k, v.ownBlock = some k → w'.heap[k]? = w.heap[k]?) : Ls w' v l := by
  have hl := h
  rcases h with ⟨rfl, rest⟩ | ⟨hne, _⟩
  · exact Or.inl ⟨rfl, rest⟩
  · exact hl.keep fun k h1 _ => hk hne k h1
section
variable {w w' : World} {lo hi : Nat} {Y : Yx} {G : Gm} {s t : Sa}
theorem Rx.keep (h : Rx w lo hi Y G s) (hk : ∀ k, lo ≤ k → k < hi → w'.heap[k]? = w.heap[k]?) (hc : ∀ k, k < lo → w'.heap[k]? = w.heap[k]?) (hz : hi ≤ w'.heap.size) : Rx w' lo hi Y G s :=
  ⟨h.c.keep (hk _ h.x.s.1 h.x.s.2), h.q.keep (fun k h1 h2 => hk k (by have := h.x.q; omega) (by have := h.x.q; omega)), h.l.keepN (fun hne k h1 => hc k (h.nc hne k h1)), h.x, hz, h.ok, h.g, h.nc⟩
theorem Rx.below (h : Rx w lo hi Y G s) (hb : Below w.heap.size w w') : Rx w' lo hi Y G s := h.keep (fun k _ hk => hb.block k (by have := h.z; omega)) (fun k hk => hb.block k (by have := h.z; have := h.x.s; omega)) (Nat.le_trans h.z hb.size)
theorem Rx.sm (h : Rx w lo hi Y G s) (hb : Sm w w') : Rx w' lo hi Y G s := h.keep (fun k _ _ => by rw [hb.heap]) (fun k _ => by rw [hb.heap]) (by rw [hb.heap]; exact h.z)
/-- The cells that are read. -/
structure Yl (w : World) (Y : Yx) (G : Gm) (s : Sa) : Prop where
  c0 : w.cell? ⟨Y.sb, 0, none⟩ = some Y.cv
  c1 : w.cell? ⟨Y.sb, 1, none⟩ = some (.int .i64 G.cap)
  c2 : w.cell? ⟨Y.sb, 2, none⟩ = some (.int .i64 G.fuel)
  c3 : w.cell? ⟨Y.sb, 3, none⟩ = some (.int .u32 G.seed)
  c4 : w.cell? ⟨Y.sb, 4, none⟩ = some (.int .i64 s.me)
  c5 : w.cell? ⟨Y.sb, 5, none⟩ = some (.pointer (some ⟨Y.qb, 0, none⟩))
  c6 : w.cell? ⟨Y.sb, 6, none⟩ = some (.int .i64 (s.P : Int))
  c7 : w.cell? ⟨Y.sb, 7, none⟩ = some (.int .i64 s.st)
  c8 : w.cell? ⟨Y.sb, 8, none⟩ = some (.int .i64 s.wr)
theorem Rx.cl (h : Rx w lo hi Y G s) : Yl w Y G s := ⟨(h.c.cell 0).trans rfl, (h.c.cell 1).trans rfl, (h.c.cell 2).trans rfl, (h.c.cell 3).trans rfl, (h.c.cell 4).trans rfl, (h.c.cell 5).trans rfl, (h.c.cell 6).trans rfl, (h.c.cell 7).trans rfl, (h.c.cell 8).trans rfl⟩
/-- What is used, a row of the call's own. -/
structure Ud (w wr : World) (s : Sa) (v : Value) (k : Nat) : Prop where
  b : Below w.heap.size w wr
  o : Po wr w.heap.size v (s.usL k)
set_option maxRecDepth 20000 in
set_option maxHeartbeats 2000000 in
theorem rused_any (h : Rx w lo hi Y G s) (n : Nat) (hn : (n : Int) ≤ G.cap) : Calls Tryz.prog 45 #[.pointer (some ⟨Y.sb, 0, none⟩), .int .i64 (n : Int)] w fun e w' => ∃ v, e = .returned v ∧ Ps w' v (s.usL n) ∧ Below w.heap.size w w' := by
  have hc6 := (chkG_cap h.g.c).2.2.1
  have CG : Hid (∀ W (k : Nat), k < n → Below w.heap.size w W → W.cell? ⟨Y.sb, 5, none⟩ = some (.pointer (some ⟨Y.qb, 0, none⟩)) ∧ (∃ b, Calls Tryz.prog 43 #[.pointer (some ⟨Y.qb, 0, none⟩), .int .i64 0, .int .i64 (k : Int)] W fun e w' => e = .returned (.tuple #[.int .u16 (s.use k).1, .bool b]) ∧ w' = W) ∧ (∃ b, Calls Tryz.prog 43 #[.pointer (some ⟨Y.qb, 0, none⟩), .int .i64 1, .int .i64 (k : Int)] W fun e w' => e = .returned (.tuple #[.int .u16 (s.use k).2, .bool b]) ∧ w' = W)) := fun W k hk hW => by
    have H := h.below hW
    have e0 : (In.getP s.r0 (k : Int)).1 = (s.use k).1 := getP_gv (by have := h.ok.fit.r0l; omega)
    have e1 : (In.getP s.r1 (k : Int)).1 = (s.use k).2 := getP_gv (by have := h.ok.fit.r1l; omega)
    have g0 := In.rget_anyR H.q 0 (k : Int)
    have g1 := In.rget_anyR H.q 1 (k : Int)
    rw [show In.sel 0 s.r0 s.r1 = s.r0 from rfl, e0] at g0
    rw [show In.sel 1 s.r0 s.r1 = s.r1 from rfl, e1] at g1
    exact ⟨H.cl.c5, ⟨_, g0⟩, ⟨_, g1⟩⟩
  have hn6 : (n : Int) ≤ 600 := by omega
  clear h hn hc6
  go_enter Tryz.func45, Tryz.ntmps45
  go_wp2_with fail
  go_loopw [5, 6] (fun ul ui wr => ∃ k : Nat, ∃ ao cap, k ≤ n ∧ ui = .int .i64 (k : Int) ∧ ul = .slice ao k cap ∧ Hid (Ud w wr s (.slice ao k cap) k)) (fun _ ui _ => n - (intOf ui).toNat)
  case atStart => exact ⟨0, none, 0, Nat.zero_le _, rfl, rfl, Below.refl _ _, Po.nil _ _⟩
  case round =>
    obtain ⟨k, ao, cap, hk, rfl, rfl, HU⟩ := hrel
    by_cases hkn : k < n
    · have hkn' : (k : Int) < (n : Int) := by omega
      obtain ⟨c5, ⟨b0, C0⟩, ⟨b1, C1⟩⟩ := CG.out wr k hkn HU.out.b
      have D0 := hid_into C0
      have D1 := hid_into C1
      clear C0 C1 CG
      obtain ⟨x, hx⟩ : ∃ x, x = (s.use k).1 := ⟨_, rfl⟩
      obtain ⟨y, hy⟩ : ∃ y, y = (s.use k).2 := ⟨_, rfl⟩
      rw [← hx] at D0
      rw [← hy] at D1
      have HX := hid_into hx
      have HY := hid_into hy
      clear hx hy
      have HP : Hid (Ps (wr.alloc (.cells #[.int .u16 x, .int .u16 y] 62)) (.slice (some ⟨wr.heap.size, 0, none⟩) 1 1) [(x, y)]) := Ps_of_block (l := [(x, y)]) (heap_alloc_new wr _) (by show 1 ≤ maxLen; unfold maxLen; decide)
      have HO : Hid (Po (wr.alloc (.cells #[.int .u16 x, .int .u16 y] 62)) w.heap.size (.slice ao k cap) (s.usL k)) := HU.out.o.below ((Below.refl _ _).alloc (Nat.le_refl _) _)
      have HB : Hid (Below w.heap.size w (wr.alloc (.cells #[.int .u16 x, .int .u16 y] 62))) := HU.out.b.alloc HU.out.b.size _
      have HLn : Hid ((s.usL k).length = k) := Sa.usL_len s k
      have tok1 : True := trivial
      go_wp2_with (first
        | (go_at_call 43; have _k := tok1; refine D0.out.mono ?_; rintro e w1 ⟨rfl, h1⟩; replace h1 := h1.symm; subst h1; clear tok1)
        | (go_at_call 43; refine D1.out.mono ?_; rintro e w1 ⟨rfl, h1⟩; replace h1 := h1.symm; subst h1)
        | (at_builtin; refine wpList_append_ps _ rfl (.tmp 34) (.tmp 38) rfl w.heap.size (.slice ao k cap) (s.usL k) rfl ?_ (.slice (some ⟨wr.heap.size, 0, none⟩) 1 1) [(x, y)] rfl ?_ ?_ ?_ ?_; exact HO.out; exact HP.out; (rw [HLn.out]; show k + 1 ≤ 1000000; omega); exact HB.out.size; intro ao3 cap3 W3 hO3 hG3 hown3; rw [HLn.out] at hO3 hown3 ⊢))
      go_roundw
      case rel =>
        refine ⟨k + 1, ao3, cap3, by omega, by simp, by simp, HB.out.trans (Grows.below (Grows.grownBy (F := fun q => (Value.slice ao k cap).ownBlock = some q) hG3 fun q hq => hq) HB.out.size (fun q hq => (HO.out.lt q hq).1)), ?_⟩
        rw [Sa.usL_succ, show s.use k = (x, y) by rw [HX.out, HY.out]]
        exact hO3
      case measure => simp [intOf]; omega
    · have hkn' : ¬ (k : Int) < (n : Int) := by omega
      obtain rfl : k = n := by omega
      clear CG
      go_wp2_with fail
      go_ret
      exact ⟨_, rfl, HU.out.o.ls, HU.out.b⟩
end
end Go.Proofs.YtbfldcieibdapaaGreat
end

section
/-
  The document's Now and Sure, by contracts.
-/
namespace Go.Proofs.YtbfldcieibdapaaGreat
open Go.RowKit
section
variable {w w' : World} {lo hi : Nat} {Y : Yx} {G : Gm} {s t : Sa}
set_option maxRecDepth 20000 in
set_option maxHeartbeats 4000000 in
theorem rNow_any (h : Rx w lo hi Y G s) : Calls Tryz.prog 19 #[.pointer (some ⟨Y.sb, 0, none⟩)] w fun e w' => e = .returned (.agg (stV (s.now G)).toArray) ∧ Below w.heap.size w w' := by
  obtain ⟨ao, cp, hcv, hm⟩ := h.l.len
  have hPl := h.ok.fit.P_le
  have HC : Hid (∀ W, Below w.heap.size w W → (W.cell? ⟨Y.sb, 0, none⟩ = some (.slice ao G.l.length cp) ∧ W.cell? ⟨Y.sb, 1, none⟩ = some (.int .i64 G.cap) ∧ W.cell? ⟨Y.sb, 2, none⟩ = some (.int .i64 G.fuel)) ∧ W.cell? ⟨Y.sb, 3, none⟩ = some (.int .u32 G.seed) ∧ W.cell? ⟨Y.sb, 5, none⟩ = some (.pointer (some ⟨Y.qb, 0, none⟩)) ∧ W.cell? ⟨Y.sb, 6, none⟩ = some (.int .i64 (s.P : Int))) := fun W hW => by
    have H := (h.below hW).cl
    exact ⟨⟨by rw [H.c0, hcv], H.c1, H.c2⟩, H.c3, H.c5, H.c6⟩
  have CU : Hid (∀ W, Below w.heap.size w W → Calls Tryz.prog 45 #[.pointer (some ⟨Y.sb, 0, none⟩), .int .i64 ((s.P : Nat) : Int)] W fun e w' => ∃ v, e = .returned v ∧ Ps w' v (s.usL (s.P)) ∧ Below W.heap.size W w') := fun W hW => rused_any (h.below hW) _ (by exact hPl)
  have CY : Hid (∀ W v, Below w.heap.size w W → Ps W v (s.usL (s.P)) → Calls Tryz.prog 25 #[.agg #[.slice ao G.l.length cp, .int .i64 G.cap, .int .i64 G.fuel], .int .u32 G.seed, v] W fun e w' => e = .returned (.tuple #[.agg (stV (s.now G)).toArray, .int .i64 0]) ∧ Below W.heap.size W w') := fun W v hW hp => by
    have hl := (h.below hW).l
    rw [hcv] at hl
    have g := rPlay_any _ G.l G.cap G.fuel G.seed v _ W hl hp (h.ok.fit.usL _) h.g.s (by rw [Sa.usL_len]; have := Sa.B_le s; have := (chkG_cap h.g.c).2.2.1; omega)
    rw [show playE G.l G.cap G.fuel G.seed (s.usL (s.P)) = (s.now G, 0) from if_pos h.g.c] at g
    exact g
  have HZ : Hid ((Tryz.prog.info? 48).bind (·.zero) = some (.agg zeroS.toArray)) := Tryz.zero48
  have ZS := zeroS_size
  have hwf : (s.now G).Wf := (h.ok.fit.gs h.g _).wf
  have HN := st_size hwf
  have HL := st_len hwf
  have HO := st_one hwf
  generalize stV (s.now G) = cs at *
  generalize (s.P : Int) = p at *
  clear h hwf hcv hm hPl
  go_enter Tryz.func19, Tryz.ntmps19
  go_upto_region 1 with (go_big_may; first
    | (refine wpList_alloc_row rfl 48 rfl zeroS HZ.out ?_; intro W1 hr1 B1 _))
  have HSk : Hid (∀ V, Below W1.heap.size W1 V → (V.cell? ⟨Y.sb, 0, none⟩ = some (.slice ao G.l.length cp) ∧ V.cell? ⟨Y.sb, 1, none⟩ = some (.int .i64 G.cap) ∧ V.cell? ⟨Y.sb, 2, none⟩ = some (.int .i64 G.fuel)) ∧ V.cell? ⟨Y.sb, 3, none⟩ = some (.int .u32 G.seed) ∧ V.cell? ⟨Y.sb, 5, none⟩ = some (.pointer (some ⟨Y.qb, 0, none⟩)) ∧ V.cell? ⟨Y.sb, 6, none⟩ = some (.int .i64 p)) := fun V hV => HC.out _ (B1.trans (hV.mono B1.size))
  have S0 := HSk.out W1.drew (Below.refl _ _).drew
  have HB0 : Hid (Below W1.heap.size W1 W1.drew) := (Below.refl _ _).drew
  try dsimp only at S0
  refine wp_region_held (S := fun V => (V.cell? ⟨Y.sb, 0, none⟩ = some (.slice ao G.l.length cp) ∧ V.cell? ⟨Y.sb, 1, none⟩ = some (.int .i64 G.cap) ∧ V.cell? ⟨Y.sb, 2, none⟩ = some (.int .i64 G.fuel)) ∧ V.cell? ⟨Y.sb, 3, none⟩ = some (.int .u32 G.seed) ∧ V.cell? ⟨Y.sb, 5, none⟩ = some (.pointer (some ⟨Y.qb, 0, none⟩)) ∧ V.cell? ⟨Y.sb, 6, none⟩ = some (.int .i64 p)) (by kernel_rfl) ?_
  change wpAnyH _ _ _ _ _ _ _ _ (World.drew _)
  refine wpAnyH_take (i := 0) (v := .pointer (some ⟨Y.sb, 0, none⟩)) rfl (by kernel_rfl) (by kernel_rfl) (by kernel_rfl) (fun _ _ _ h => h) (Or.inl ⟨by kernel_rfl, by intro V _; go_simp⟩) S0 ?_
  refine wpAnyH_take (i := 1) (v := .pointer (some ⟨Y.sb, 0, none⟩)) rfl (by kernel_rfl) (by kernel_rfl) (by kernel_rfl) (fun _ _ _ h => h) (Or.inl ⟨by kernel_rfl, by intro V _; go_simp⟩) S0 ?_
  refine wpAnyH_take (i := 2) (v := .pointer (some ⟨Y.sb, 0, none⟩)) rfl (by kernel_rfl) (by kernel_rfl) (by kernel_rfl) (fun _ _ _ h => h) (Or.inl ⟨by kernel_rfl, by intro V _; go_simp⟩) S0 ?_
  refine wpAnyH_take (i := 3) (v := .agg #[.slice ao G.l.length cp, .int .i64 G.cap, .int .i64 G.fuel]) rfl (by kernel_rfl) (by kernel_rfl) (by kernel_rfl) (fun _ _ _ h => h) (Or.inl ⟨by kernel_rfl, by intro V hV; obtain ⟨⟨y0, y1, y2⟩, y3, y5, y6⟩ := hV; go_simp⟩) S0 ?_
  refine wpAnyH_take (i := 4) (v := .pointer (some ⟨Y.sb, 0, none⟩)) rfl (by kernel_rfl) (by kernel_rfl) (by kernel_rfl) (fun _ _ _ h => h) (Or.inl ⟨by kernel_rfl, by intro V _; go_simp⟩) S0 ?_
  refine wpAnyH_take (i := 5) (v := .pointer (some ⟨Y.sb, 0, none⟩)) rfl (by kernel_rfl) (by kernel_rfl) (by kernel_rfl) (fun _ _ _ h => h) (Or.inl ⟨by kernel_rfl, by intro V _; go_simp⟩) S0 ?_
  refine wpAnyH_take (i := 6) (v := .pointer (some ⟨Y.sb, 3, none⟩)) rfl (by kernel_rfl) (by kernel_rfl) (by kernel_rfl) (fun _ _ _ h => h) (Or.inl ⟨by kernel_rfl, by intro V _; go_simp⟩) S0 ?_
  refine wpAnyH_take (i := 7) (v := .int .u32 G.seed) rfl (by kernel_rfl) (by kernel_rfl) (by kernel_rfl) (fun _ _ _ h => h) (Or.inl ⟨by kernel_rfl, by intro V hV; obtain ⟨⟨y0, y1, y2⟩, y3, y5, y6⟩ := hV; go_simp⟩) S0 ?_
  refine wpAnyH_take (i := 8) (v := .pointer (some ⟨Y.sb, 0, none⟩)) rfl (by kernel_rfl) (by kernel_rfl) (by kernel_rfl) (fun _ _ _ h => h) (Or.inl ⟨by kernel_rfl, by intro V _; go_simp⟩) S0 ?_
  refine wpAnyH_take (i := 9) (v := .pointer (some ⟨Y.sb, 0, none⟩)) rfl (by kernel_rfl) (by kernel_rfl) (by kernel_rfl) (fun _ _ _ h => h) (Or.inl ⟨by kernel_rfl, by intro V _; go_simp⟩) S0 ?_
  refine wpAnyH_take (i := 10) (v := .pointer (some ⟨Y.sb, 0, none⟩)) rfl (by kernel_rfl) (by kernel_rfl) (by kernel_rfl) (fun _ _ _ h => h) (Or.inl ⟨by kernel_rfl, by intro V _; go_simp⟩) S0 ?_
  refine wpAnyH_take (i := 11) (v := .pointer (some ⟨Y.sb, 6, none⟩)) rfl (by kernel_rfl) (by kernel_rfl) (by kernel_rfl) (fun _ _ _ h => h) (Or.inl ⟨by kernel_rfl, by intro V _; go_simp⟩) S0 ?_
  refine wpAnyH_take (i := 12) (v := .int .i64 p) rfl (by kernel_rfl) (by kernel_rfl) (by kernel_rfl) (fun _ _ _ h => h) (Or.inl ⟨by kernel_rfl, by intro V hV; obtain ⟨⟨y0, y1, y2⟩, y3, y5, y6⟩ := hV; go_simp⟩) S0 ?_
  refine wpAnyH_ready (rs := [13, 18]) (by kernel_rfl) (by simp) ?_
  refine AllReadyH.cons rfl (fun KK hK => ?_) (AllReadyH.cons rfl (fun KK hK => ?_) AllReadyH.nil)
  · go_simp
    refine (CU.out _ (B1.trans (HB0.out.mono B1.size))).mono ?_
    rintro e w1 ⟨v, rfl, hp, Bx⟩
    have HB1 := hid_into (HB0.out.trans (Bx.mono HB0.out.size))
    have S1 := HSk.out w1 HB1.out
    dsimp only
    refine hK.out _ _ (by exact S1) (fun _ => ?_)
    have HP1 := hid_into hp
    clear hp
    clear hK KK Bx
    refine wpAnyH_ready (rs := [14, 18]) (by kernel_rfl) (by simp) ?_
    try simp only [List.getElem_toArray, List.getElem_cons_zero, List.getElem_cons_succ, Act.put, List.setIfInBounds_toArray, List.set_cons_zero, List.set_cons_succ]
    refine AllReadyH.cons rfl (fun KK hK => ?_) (AllReadyH.cons rfl (fun KK hK => ?_) AllReadyH.nil)
    · go_simp
      refine (CY.out _ _ (B1.trans (HB1.out.mono B1.size)) HP1.out).mono ?_
      rintro e w2 ⟨rfl, Bx⟩
      have HB2 := hid_into (HB1.out.trans (Bx.mono HB1.out.size))
      have S2 := HSk.out w2 HB2.out
      dsimp only
      refine hK.out _ _ (by exact S2) (fun _ => ?_)
      clear hK KK Bx
      refine wpAnyH_take (i := 15) (v := .tuple #[.agg cs.toArray, .int .i64 0]) rfl (by kernel_rfl) (by kernel_rfl) (by kernel_rfl) (fun _ _ _ h => h) (Or.inl ⟨by kernel_rfl, by intro V _; go_simp⟩) S2 ?_
      refine wpAnyH_take (i := 16) (v := .agg cs.toArray) rfl (by kernel_rfl) (by kernel_rfl) (by kernel_rfl) (fun _ _ _ h => h) (Or.inl ⟨by kernel_rfl, by intro V _; go_simp⟩) S2 ?_
      refine wpAnyH_take (i := 17) (v := .int .i64 0) rfl (by kernel_rfl) (by kernel_rfl) (by kernel_rfl) (fun _ _ _ h => h) (Or.inl ⟨by kernel_rfl, by intro V _; go_simp⟩) S2 ?_
      refine wpAnyH_ready (rs := [18]) (by kernel_rfl) (by simp) ?_
      try simp only [List.getElem_toArray, List.getElem_cons_zero, List.getElem_cons_succ, Act.put, List.setIfInBounds_toArray, List.set_cons_zero, List.set_cons_succ]
      refine AllReadyH.cons rfl (fun KK hK => ?_) AllReadyH.nil
      refine step_alloc_row rfl 48 rfl zeroS HZ.out ?_
      intro w3 hn3 Ba _
      have NB : W1.heap.size ≤ w2.heap.size := HB2.out.size
      have HNB := hid_into NB
      clear NB
      have HB3 := hid_into (HB2.out.trans (Ba.mono HB2.out.size))
      have S3 := HSk.out w3 HB3.out
      refine hK.out _ _ (by exact S3) (fun _ => ?_)
      try (have HP3 := hid_into (HP2.out.below Ba))
      clear hK KK Ba
      refine wpAnyH_ready (rs := [19]) (by kernel_rfl) (by simp) ?_
      refine AllReadyH.cons rfl (fun KK hK => ?_) AllReadyH.nil
      refine step_store_rw rfl 48 (.tmp 3) (.tmp 21) rfl (w2.heap.size) zeroS cs 48 (by kernel_rfl) (by kernel_rfl) hn3 ZS HL HO ?_
      intro W5 NC O5
      have HBe := hid_into (HB3.out.trans (O5.below HNB.out))
      have Se := HSk.out W5 HBe.out
      refine hK.out _ _ (by exact Se) (fun _ => ?_)
      clear hK KK
      refine wpAnyH_take (i := 20) (v := .int .i64 0) rfl (by kernel_rfl) (by kernel_rfl) (by kernel_rfl) (fun _ _ _ h => h) (Or.inl ⟨by kernel_rfl, by intro V _; go_simp⟩) Se ?_
      simp only [List.getElem_toArray, List.getElem_cons_zero, List.getElem_cons_succ, Act.put, List.setIfInBounds_toArray, List.set_cons_zero, List.set_cons_succ]
      refine wpAnyH_done (by kernel_rfl) ?_ _
      have hr5 := hr1.below HBe.out hr1.lt
      go_wp2_with (first
        | (refine wpList_load_rw rfl 48 (.tmp 3) rfl _ cs 48 _ rfl ?_ Tryz.underlying48 rfl HN ?_; exact NC)
        | (refine wpList_store_rw rfl 48 (.tmp 2) (.tmp 23) rfl w.heap.size zeroS cs 48 rfl rfl ?_ ZS HL HO.out ?_; exact hr5; intro W6 hr6 O6))
      exact ret_row rfl rfl rfl hr6 Tryz.underlying48 rfl HN ⟨rfl, (B1.trans (HBe.out.mono B1.size)).trans (O6.below (Nat.le_refl _))⟩
    · refine step_alloc_row rfl 48 rfl zeroS HZ.out ?_
      intro w2 hn2 Ba _
      have NB : W1.heap.size ≤ w1.heap.size := HB1.out.size
      have HNB := hid_into NB
      clear NB
      have HB2 := hid_into (HB1.out.trans (Ba.mono HB1.out.size))
      have S2 := HSk.out w2 HB2.out
      refine hK.out _ _ (by exact S2) (fun _ => ?_)
      try (have HP2 := hid_into (HP1.out.below Ba))
      clear hK KK Ba
      refine wpAnyH_ready (rs := [14]) (by kernel_rfl) (by simp) ?_
      try simp only [List.getElem_toArray, List.getElem_cons_zero, List.getElem_cons_succ, Act.put, List.setIfInBounds_toArray, List.set_cons_zero, List.set_cons_succ]
      refine AllReadyH.cons rfl (fun KK hK => ?_) AllReadyH.nil
      go_simp
      refine (CY.out _ _ (B1.trans (HB2.out.mono B1.size)) HP2.out).mono ?_
      rintro e w3 ⟨rfl, Bx⟩
      have HB3 := hid_into (HB2.out.trans (Bx.mono HB2.out.size))
      have S3 := HSk.out w3 HB3.out
      dsimp only
      refine hK.out _ _ (by exact S3) (fun _ => ?_)
      have hn3 := hn2.below Bx hn2.lt
      clear hn2
      clear hK KK Bx
      refine wpAnyH_take (i := 15) (v := .tuple #[.agg cs.toArray, .int .i64 0]) rfl (by kernel_rfl) (by kernel_rfl) (by kernel_rfl) (fun _ _ _ h => h) (Or.inl ⟨by kernel_rfl, by intro V _; go_simp⟩) S3 ?_
      refine wpAnyH_take (i := 16) (v := .agg cs.toArray) rfl (by kernel_rfl) (by kernel_rfl) (by kernel_rfl) (fun _ _ _ h => h) (Or.inl ⟨by kernel_rfl, by intro V _; go_simp⟩) S3 ?_
      refine wpAnyH_take (i := 17) (v := .int .i64 0) rfl (by kernel_rfl) (by kernel_rfl) (by kernel_rfl) (fun _ _ _ h => h) (Or.inl ⟨by kernel_rfl, by intro V _; go_simp⟩) S3 ?_
      refine wpAnyH_ready (rs := [19]) (by kernel_rfl) (by simp) ?_
      refine AllReadyH.cons rfl (fun KK hK => ?_) AllReadyH.nil
      refine step_store_rw rfl 48 (.tmp 3) (.tmp 21) rfl (w1.heap.size) zeroS cs 48 (by kernel_rfl) (by kernel_rfl) hn3 ZS HL HO ?_
      intro W5 NC O5
      have HBe := hid_into (HB3.out.trans (O5.below HNB.out))
      have Se := HSk.out W5 HBe.out
      refine hK.out _ _ (by exact Se) (fun _ => ?_)
      clear hK KK
      refine wpAnyH_take (i := 20) (v := .int .i64 0) rfl (by kernel_rfl) (by kernel_rfl) (by kernel_rfl) (fun _ _ _ h => h) (Or.inl ⟨by kernel_rfl, by intro V _; go_simp⟩) Se ?_
      simp only [List.getElem_toArray, List.getElem_cons_zero, List.getElem_cons_succ, Act.put, List.setIfInBounds_toArray, List.set_cons_zero, List.set_cons_succ]
      refine wpAnyH_done (by kernel_rfl) ?_ _
      have hr5 := hr1.below HBe.out hr1.lt
      go_wp2_with (first
        | (refine wpList_load_rw rfl 48 (.tmp 3) rfl _ cs 48 _ rfl ?_ Tryz.underlying48 rfl HN ?_; exact NC)
        | (refine wpList_store_rw rfl 48 (.tmp 2) (.tmp 23) rfl w.heap.size zeroS cs 48 rfl rfl ?_ ZS HL HO.out ?_; exact hr5; intro W6 hr6 O6))
      exact ret_row rfl rfl rfl hr6 Tryz.underlying48 rfl HN ⟨rfl, (B1.trans (HBe.out.mono B1.size)).trans (O6.below (Nat.le_refl _))⟩
  · refine step_alloc_row rfl 48 rfl zeroS HZ.out ?_
    intro w1 hn1 Ba _
    have NB : W1.heap.size ≤ W1.drew.heap.size := HB0.out.size
    have HNB := hid_into NB
    clear NB
    have HB1 := hid_into (HB0.out.trans (Ba.mono HB0.out.size))
    have S1 := HSk.out w1 HB1.out
    refine hK.out _ _ (by exact S1) (fun _ => ?_)
    try (have HP1 := hid_into (HP0.out.below Ba))
    clear hK KK Ba
    refine wpAnyH_ready (rs := [13]) (by kernel_rfl) (by simp) ?_
    try simp only [List.getElem_toArray, List.getElem_cons_zero, List.getElem_cons_succ, Act.put, List.setIfInBounds_toArray, List.set_cons_zero, List.set_cons_succ]
    refine AllReadyH.cons rfl (fun KK hK => ?_) AllReadyH.nil
    go_simp
    refine (CU.out _ (B1.trans (HB1.out.mono B1.size))).mono ?_
    rintro e w2 ⟨v, rfl, hp, Bx⟩
    have HB2 := hid_into (HB1.out.trans (Bx.mono HB1.out.size))
    have S2 := HSk.out w2 HB2.out
    dsimp only
    refine hK.out _ _ (by exact S2) (fun _ => ?_)
    have HP2 := hid_into hp
    clear hp
    have hn2 := hn1.below Bx hn1.lt
    clear hn1
    clear hK KK Bx
    refine wpAnyH_ready (rs := [14]) (by kernel_rfl) (by simp) ?_
    try simp only [List.getElem_toArray, List.getElem_cons_zero, List.getElem_cons_succ, Act.put, List.setIfInBounds_toArray, List.set_cons_zero, List.set_cons_succ]
    refine AllReadyH.cons rfl (fun KK hK => ?_) AllReadyH.nil
    go_simp
    refine (CY.out _ _ (B1.trans (HB2.out.mono B1.size)) HP2.out).mono ?_
    rintro e w3 ⟨rfl, Bx⟩
    have HB3 := hid_into (HB2.out.trans (Bx.mono HB2.out.size))
    have S3 := HSk.out w3 HB3.out
    dsimp only
    refine hK.out _ _ (by exact S3) (fun _ => ?_)
    have hn3 := hn2.below Bx hn2.lt
    clear hn2
    clear hK KK Bx
    refine wpAnyH_take (i := 15) (v := .tuple #[.agg cs.toArray, .int .i64 0]) rfl (by kernel_rfl) (by kernel_rfl) (by kernel_rfl) (fun _ _ _ h => h) (Or.inl ⟨by kernel_rfl, by intro V _; go_simp⟩) S3 ?_
    refine wpAnyH_take (i := 16) (v := .agg cs.toArray) rfl (by kernel_rfl) (by kernel_rfl) (by kernel_rfl) (fun _ _ _ h => h) (Or.inl ⟨by kernel_rfl, by intro V _; go_simp⟩) S3 ?_
    refine wpAnyH_take (i := 17) (v := .int .i64 0) rfl (by kernel_rfl) (by kernel_rfl) (by kernel_rfl) (fun _ _ _ h => h) (Or.inl ⟨by kernel_rfl, by intro V _; go_simp⟩) S3 ?_
    refine wpAnyH_ready (rs := [19]) (by kernel_rfl) (by simp) ?_
    refine AllReadyH.cons rfl (fun KK hK => ?_) AllReadyH.nil
    refine step_store_rw rfl 48 (.tmp 3) (.tmp 21) rfl (W1.drew.heap.size) zeroS cs 48 (by kernel_rfl) (by kernel_rfl) hn3 ZS HL HO ?_
    intro W5 NC O5
    have HBe := hid_into (HB3.out.trans (O5.below HNB.out))
    have Se := HSk.out W5 HBe.out
    refine hK.out _ _ (by exact Se) (fun _ => ?_)
    clear hK KK
    refine wpAnyH_take (i := 20) (v := .int .i64 0) rfl (by kernel_rfl) (by kernel_rfl) (by kernel_rfl) (fun _ _ _ h => h) (Or.inl ⟨by kernel_rfl, by intro V _; go_simp⟩) Se ?_
    simp only [List.getElem_toArray, List.getElem_cons_zero, List.getElem_cons_succ, Act.put, List.setIfInBounds_toArray, List.set_cons_zero, List.set_cons_succ]
    refine wpAnyH_done (by kernel_rfl) ?_ _
    have hr5 := hr1.below HBe.out hr1.lt
    go_wp2_with (first
      | (refine wpList_load_rw rfl 48 (.tmp 3) rfl _ cs 48 _ rfl ?_ Tryz.underlying48 rfl HN ?_; exact NC)
      | (refine wpList_store_rw rfl 48 (.tmp 2) (.tmp 23) rfl w.heap.size zeroS cs 48 rfl rfl ?_ ZS HL HO.out ?_; exact hr5; intro W6 hr6 O6))
    exact ret_row rfl rfl rfl hr6 Tryz.underlying48 rfl HN ⟨rfl, (B1.trans (HBe.out.mono B1.size)).trans (O6.below (Nat.le_refl _))⟩
set_option maxRecDepth 20000 in
set_option maxHeartbeats 4000000 in
theorem rSure_any (h : Rx w lo hi Y G s) : Calls Tryz.prog 21 #[.pointer (some ⟨Y.sb, 0, none⟩)] w fun e w' => e = .returned (.agg (stV (s.sure G)).toArray) ∧ Below w.heap.size w w' := by
  obtain ⟨ao, cp, hcv, hm⟩ := h.l.len
  have hPl := h.ok.fit.P_le
  have HC : Hid (∀ W, Below w.heap.size w W → (W.cell? ⟨Y.sb, 0, none⟩ = some (.slice ao G.l.length cp) ∧ W.cell? ⟨Y.sb, 1, none⟩ = some (.int .i64 G.cap) ∧ W.cell? ⟨Y.sb, 2, none⟩ = some (.int .i64 G.fuel)) ∧ W.cell? ⟨Y.sb, 3, none⟩ = some (.int .u32 G.seed) ∧ W.cell? ⟨Y.sb, 5, none⟩ = some (.pointer (some ⟨Y.qb, 0, none⟩)) ∧ W.cell? ⟨Y.sb, 6, none⟩ = some (.int .i64 (s.P : Int))) := fun W hW => by
    have H := (h.below hW).cl
    exact ⟨⟨by rw [H.c0, hcv], H.c1, H.c2⟩, H.c3, H.c5, H.c6⟩
  have CU : Hid (∀ W, Below w.heap.size w W → Calls Tryz.prog 45 #[.pointer (some ⟨Y.sb, 0, none⟩), .int .i64 ((s.B : Nat) : Int)] W fun e w' => ∃ v, e = .returned v ∧ Ps w' v (s.usL (s.B)) ∧ Below W.heap.size W w') := fun W hW => rused_any (h.below hW) _ (by have := Sa.B_le s; omega)
  have CY : Hid (∀ W v, Below w.heap.size w W → Ps W v (s.usL (s.B)) → Calls Tryz.prog 25 #[.agg #[.slice ao G.l.length cp, .int .i64 G.cap, .int .i64 G.fuel], .int .u32 G.seed, v] W fun e w' => e = .returned (.tuple #[.agg (stV (s.sure G)).toArray, .int .i64 0]) ∧ Below W.heap.size W w') := fun W v hW hp => by
    have hl := (h.below hW).l
    rw [hcv] at hl
    have g := rPlay_any _ G.l G.cap G.fuel G.seed v _ W hl hp (h.ok.fit.usL _) h.g.s (by rw [Sa.usL_len]; have := Sa.B_le s; have := (chkG_cap h.g.c).2.2.1; omega)
    rw [show playE G.l G.cap G.fuel G.seed (s.usL (s.B)) = (s.sure G, 0) from if_pos h.g.c] at g
    exact g
  have CB : Hid (∀ W, Below w.heap.size w W → Calls Tryz.prog 48 #[.pointer (some ⟨Y.qb, 0, none⟩)] W fun e w' => e = .returned (.int .i64 ((s.B : Nat) : Int)) ∧ Below W.heap.size W w') := fun W hW => by
    have g := In.rBoth_any (h.below hW).q
    have e : min (In.kn s.r0) (In.kn s.r1) = s.B := by unfold Sa.B Sa.r0 Sa.r1; split; rfl; exact Nat.min_comm _ _
    rw [e] at g
    exact g.mono (by rintro e w' ⟨rfl, rfl⟩; exact ⟨rfl, Below.refl _ _⟩)
  have hmn : (if ((s.B : Nat) : Int) < (s.P : Int) then ((s.B : Nat) : Int) else (s.P : Int)) = ((s.B : Nat) : Int) := by have := Sa.B_le s; split <;> omega
  have HZ : Hid ((Tryz.prog.info? 48).bind (·.zero) = some (.agg zeroS.toArray)) := Tryz.zero48
  have ZS := zeroS_size
  have hwf : (s.sure G).Wf := (h.ok.fit.gs h.g _).wf
  have HN := st_size hwf
  have HL := st_len hwf
  have HO := st_one hwf
  generalize stV (s.sure G) = cs at *
  generalize (s.P : Int) = p at *
  generalize ((s.B : Nat) : Int) = m at *
  clear h hwf hcv hm hPl
  go_enter Tryz.func21, Tryz.ntmps21
  go_upto_region 1 with (go_big_may; first
    | (refine wpList_alloc_row rfl 48 rfl zeroS HZ.out ?_; intro W1 hr1 B1 _))
  have HSk : Hid (∀ V, Below W1.heap.size W1 V → (V.cell? ⟨Y.sb, 0, none⟩ = some (.slice ao G.l.length cp) ∧ V.cell? ⟨Y.sb, 1, none⟩ = some (.int .i64 G.cap) ∧ V.cell? ⟨Y.sb, 2, none⟩ = some (.int .i64 G.fuel)) ∧ V.cell? ⟨Y.sb, 3, none⟩ = some (.int .u32 G.seed) ∧ V.cell? ⟨Y.sb, 5, none⟩ = some (.pointer (some ⟨Y.qb, 0, none⟩)) ∧ V.cell? ⟨Y.sb, 6, none⟩ = some (.int .i64 p)) := fun V hV => HC.out _ (B1.trans (hV.mono B1.size))
  have S0 := HSk.out W1.drew (Below.refl _ _).drew
  have HB0 : Hid (Below W1.heap.size W1 W1.drew) := (Below.refl _ _).drew
  try dsimp only at S0
  refine wp_region_held (S := fun V => (V.cell? ⟨Y.sb, 0, none⟩ = some (.slice ao G.l.length cp) ∧ V.cell? ⟨Y.sb, 1, none⟩ = some (.int .i64 G.cap) ∧ V.cell? ⟨Y.sb, 2, none⟩ = some (.int .i64 G.fuel)) ∧ V.cell? ⟨Y.sb, 3, none⟩ = some (.int .u32 G.seed) ∧ V.cell? ⟨Y.sb, 5, none⟩ = some (.pointer (some ⟨Y.qb, 0, none⟩)) ∧ V.cell? ⟨Y.sb, 6, none⟩ = some (.int .i64 p)) (by kernel_rfl) ?_
  change wpAnyH _ _ _ _ _ _ _ _ (World.drew _)
  refine wpAnyH_take (i := 0) (v := .pointer (some ⟨Y.sb, 0, none⟩)) rfl (by kernel_rfl) (by kernel_rfl) (by kernel_rfl) (fun _ _ _ h => h) (Or.inl ⟨by kernel_rfl, by intro V _; go_simp⟩) S0 ?_
  refine wpAnyH_take (i := 1) (v := .pointer (some ⟨Y.sb, 0, none⟩)) rfl (by kernel_rfl) (by kernel_rfl) (by kernel_rfl) (fun _ _ _ h => h) (Or.inl ⟨by kernel_rfl, by intro V _; go_simp⟩) S0 ?_
  refine wpAnyH_take (i := 2) (v := .pointer (some ⟨Y.sb, 0, none⟩)) rfl (by kernel_rfl) (by kernel_rfl) (by kernel_rfl) (fun _ _ _ h => h) (Or.inl ⟨by kernel_rfl, by intro V _; go_simp⟩) S0 ?_
  refine wpAnyH_take (i := 3) (v := .agg #[.slice ao G.l.length cp, .int .i64 G.cap, .int .i64 G.fuel]) rfl (by kernel_rfl) (by kernel_rfl) (by kernel_rfl) (fun _ _ _ h => h) (Or.inl ⟨by kernel_rfl, by intro V hV; obtain ⟨⟨y0, y1, y2⟩, y3, y5, y6⟩ := hV; go_simp⟩) S0 ?_
  refine wpAnyH_take (i := 4) (v := .pointer (some ⟨Y.sb, 0, none⟩)) rfl (by kernel_rfl) (by kernel_rfl) (by kernel_rfl) (fun _ _ _ h => h) (Or.inl ⟨by kernel_rfl, by intro V _; go_simp⟩) S0 ?_
  refine wpAnyH_take (i := 5) (v := .pointer (some ⟨Y.sb, 0, none⟩)) rfl (by kernel_rfl) (by kernel_rfl) (by kernel_rfl) (fun _ _ _ h => h) (Or.inl ⟨by kernel_rfl, by intro V _; go_simp⟩) S0 ?_
  refine wpAnyH_take (i := 6) (v := .pointer (some ⟨Y.sb, 3, none⟩)) rfl (by kernel_rfl) (by kernel_rfl) (by kernel_rfl) (fun _ _ _ h => h) (Or.inl ⟨by kernel_rfl, by intro V _; go_simp⟩) S0 ?_
  refine wpAnyH_take (i := 7) (v := .int .u32 G.seed) rfl (by kernel_rfl) (by kernel_rfl) (by kernel_rfl) (fun _ _ _ h => h) (Or.inl ⟨by kernel_rfl, by intro V hV; obtain ⟨⟨y0, y1, y2⟩, y3, y5, y6⟩ := hV; go_simp⟩) S0 ?_
  refine wpAnyH_take (i := 8) (v := .pointer (some ⟨Y.sb, 0, none⟩)) rfl (by kernel_rfl) (by kernel_rfl) (by kernel_rfl) (fun _ _ _ h => h) (Or.inl ⟨by kernel_rfl, by intro V _; go_simp⟩) S0 ?_
  refine wpAnyH_take (i := 9) (v := .pointer (some ⟨Y.sb, 0, none⟩)) rfl (by kernel_rfl) (by kernel_rfl) (by kernel_rfl) (fun _ _ _ h => h) (Or.inl ⟨by kernel_rfl, by intro V _; go_simp⟩) S0 ?_
  refine wpAnyH_take (i := 10) (v := .pointer (some ⟨Y.sb, 0, none⟩)) rfl (by kernel_rfl) (by kernel_rfl) (by kernel_rfl) (fun _ _ _ h => h) (Or.inl ⟨by kernel_rfl, by intro V _; go_simp⟩) S0 ?_
  refine wpAnyH_take (i := 11) (v := .pointer (some ⟨Y.sb, 6, none⟩)) rfl (by kernel_rfl) (by kernel_rfl) (by kernel_rfl) (fun _ _ _ h => h) (Or.inl ⟨by kernel_rfl, by intro V _; go_simp⟩) S0 ?_
  refine wpAnyH_take (i := 12) (v := .int .i64 p) rfl (by kernel_rfl) (by kernel_rfl) (by kernel_rfl) (fun _ _ _ h => h) (Or.inl ⟨by kernel_rfl, by intro V hV; obtain ⟨⟨y0, y1, y2⟩, y3, y5, y6⟩ := hV; go_simp⟩) S0 ?_
  refine wpAnyH_take (i := 13) (v := .pointer (some ⟨Y.sb, 0, none⟩)) rfl (by kernel_rfl) (by kernel_rfl) (by kernel_rfl) (fun _ _ _ h => h) (Or.inl ⟨by kernel_rfl, by intro V _; go_simp⟩) S0 ?_
  refine wpAnyH_take (i := 14) (v := .pointer (some ⟨Y.sb, 0, none⟩)) rfl (by kernel_rfl) (by kernel_rfl) (by kernel_rfl) (fun _ _ _ h => h) (Or.inl ⟨by kernel_rfl, by intro V _; go_simp⟩) S0 ?_
  refine wpAnyH_take (i := 15) (v := .pointer (some ⟨Y.sb, 5, none⟩)) rfl (by kernel_rfl) (by kernel_rfl) (by kernel_rfl) (fun _ _ _ h => h) (Or.inl ⟨by kernel_rfl, by intro V _; go_simp⟩) S0 ?_
  refine wpAnyH_take (i := 16) (v := .pointer (some ⟨Y.qb, 0, none⟩)) rfl (by kernel_rfl) (by kernel_rfl) (by kernel_rfl) (fun _ _ _ h => h) (Or.inl ⟨by kernel_rfl, by intro V hV; obtain ⟨⟨y0, y1, y2⟩, y3, y5, y6⟩ := hV; go_simp⟩) S0 ?_
  refine wpAnyH_ready (rs := [17, 24]) (by kernel_rfl) (by simp) ?_
  refine AllReadyH.cons rfl (fun KK hK => ?_) (AllReadyH.cons rfl (fun KK hK => ?_) AllReadyH.nil)
  · go_simp
    refine (CB.out _ (B1.trans (HB0.out.mono B1.size))).mono ?_
    rintro e w1 ⟨rfl, Bx⟩
    have HB1 := hid_into (HB0.out.trans (Bx.mono HB0.out.size))
    have S1 := HSk.out w1 HB1.out
    dsimp only
    refine hK.out _ _ (by exact S1) (fun _ => ?_)
    clear hK KK Bx
    refine wpAnyH_take (i := 18) (v := .int .i64 m) rfl (by kernel_rfl) (by kernel_rfl) (by kernel_rfl) (fun _ _ _ h => h) (Or.inl ⟨by kernel_rfl, by intro V _; go_simp⟩) S1 ?_
    refine wpAnyH_ready (rs := [19, 24]) (by kernel_rfl) (by simp) ?_
    try simp only [List.getElem_toArray, List.getElem_cons_zero, List.getElem_cons_succ, Act.put, List.setIfInBounds_toArray, List.set_cons_zero, List.set_cons_succ]
    refine AllReadyH.cons rfl (fun KK hK => ?_) (AllReadyH.cons rfl (fun KK hK => ?_) AllReadyH.nil)
    · go_simp
      refine (CU.out _ (B1.trans (HB1.out.mono B1.size))).mono ?_
      rintro e w2 ⟨v, rfl, hp, Bx⟩
      have HB2 := hid_into (HB1.out.trans (Bx.mono HB1.out.size))
      have S2 := HSk.out w2 HB2.out
      dsimp only
      refine hK.out _ _ (by exact S2) (fun _ => ?_)
      have HP2 := hid_into hp
      clear hp
      clear hK KK Bx
      refine wpAnyH_ready (rs := [20, 24]) (by kernel_rfl) (by simp) ?_
      try simp only [List.getElem_toArray, List.getElem_cons_zero, List.getElem_cons_succ, Act.put, List.setIfInBounds_toArray, List.set_cons_zero, List.set_cons_succ]
      refine AllReadyH.cons rfl (fun KK hK => ?_) (AllReadyH.cons rfl (fun KK hK => ?_) AllReadyH.nil)
      · go_simp
        refine (CY.out _ _ (B1.trans (HB2.out.mono B1.size)) HP2.out).mono ?_
        rintro e w3 ⟨rfl, Bx⟩
        have HB3 := hid_into (HB2.out.trans (Bx.mono HB2.out.size))
        have S3 := HSk.out w3 HB3.out
        dsimp only
        refine hK.out _ _ (by exact S3) (fun _ => ?_)
        clear hK KK Bx
        refine wpAnyH_take (i := 21) (v := .tuple #[.agg cs.toArray, .int .i64 0]) rfl (by kernel_rfl) (by kernel_rfl) (by kernel_rfl) (fun _ _ _ h => h) (Or.inl ⟨by kernel_rfl, by intro V _; go_simp⟩) S3 ?_
        refine wpAnyH_take (i := 22) (v := .agg cs.toArray) rfl (by kernel_rfl) (by kernel_rfl) (by kernel_rfl) (fun _ _ _ h => h) (Or.inl ⟨by kernel_rfl, by intro V _; go_simp⟩) S3 ?_
        refine wpAnyH_take (i := 23) (v := .int .i64 0) rfl (by kernel_rfl) (by kernel_rfl) (by kernel_rfl) (fun _ _ _ h => h) (Or.inl ⟨by kernel_rfl, by intro V _; go_simp⟩) S3 ?_
        refine wpAnyH_ready (rs := [24]) (by kernel_rfl) (by simp) ?_
        try simp only [List.getElem_toArray, List.getElem_cons_zero, List.getElem_cons_succ, Act.put, List.setIfInBounds_toArray, List.set_cons_zero, List.set_cons_succ]
        refine AllReadyH.cons rfl (fun KK hK => ?_) AllReadyH.nil
        refine step_alloc_row rfl 48 rfl zeroS HZ.out ?_
        intro w4 hn4 Ba _
        have NB : W1.heap.size ≤ w3.heap.size := HB3.out.size
        have HNB := hid_into NB
        clear NB
        have HB4 := hid_into (HB3.out.trans (Ba.mono HB3.out.size))
        have S4 := HSk.out w4 HB4.out
        refine hK.out _ _ (by exact S4) (fun _ => ?_)
        try (have HP4 := hid_into (HP3.out.below Ba))
        clear hK KK Ba
        refine wpAnyH_ready (rs := [25]) (by kernel_rfl) (by simp) ?_
        refine AllReadyH.cons rfl (fun KK hK => ?_) AllReadyH.nil
        refine step_store_rw rfl 48 (.tmp 3) (.tmp 27) rfl (w3.heap.size) zeroS cs 48 (by kernel_rfl) (by kernel_rfl) hn4 ZS HL HO ?_
        intro W5 NC O5
        have HBe := hid_into (HB4.out.trans (O5.below HNB.out))
        have Se := HSk.out W5 HBe.out
        refine hK.out _ _ (by exact Se) (fun _ => ?_)
        clear hK KK
        refine wpAnyH_take (i := 26) (v := .int .i64 0) rfl (by kernel_rfl) (by kernel_rfl) (by kernel_rfl) (fun _ _ _ h => h) (Or.inl ⟨by kernel_rfl, by intro V _; go_simp⟩) Se ?_
        simp only [List.getElem_toArray, List.getElem_cons_zero, List.getElem_cons_succ, Act.put, List.setIfInBounds_toArray, List.set_cons_zero, List.set_cons_succ]
        refine wpAnyH_done (by kernel_rfl) ?_ _
        have hr5 := hr1.below HBe.out hr1.lt
        go_wp2_with (first
          | (refine wpList_load_rw rfl 48 (.tmp 3) rfl _ cs 48 _ rfl ?_ Tryz.underlying48 rfl HN ?_; exact NC)
          | (refine wpList_store_rw rfl 48 (.tmp 2) (.tmp 29) rfl w.heap.size zeroS cs 48 rfl rfl ?_ ZS HL HO.out ?_; exact hr5; intro W6 hr6 O6))
        exact ret_row rfl rfl rfl hr6 Tryz.underlying48 rfl HN ⟨rfl, (B1.trans (HBe.out.mono B1.size)).trans (O6.below (Nat.le_refl _))⟩
      · refine step_alloc_row rfl 48 rfl zeroS HZ.out ?_
        intro w3 hn3 Ba _
        have NB : W1.heap.size ≤ w2.heap.size := HB2.out.size
        have HNB := hid_into NB
        clear NB
        have HB3 := hid_into (HB2.out.trans (Ba.mono HB2.out.size))
        have S3 := HSk.out w3 HB3.out
        refine hK.out _ _ (by exact S3) (fun _ => ?_)
        try (have HP3 := hid_into (HP2.out.below Ba))
        clear hK KK Ba
        refine wpAnyH_ready (rs := [20]) (by kernel_rfl) (by simp) ?_
        try simp only [List.getElem_toArray, List.getElem_cons_zero, List.getElem_cons_succ, Act.put, List.setIfInBounds_toArray, List.set_cons_zero, List.set_cons_succ]
        refine AllReadyH.cons rfl (fun KK hK => ?_) AllReadyH.nil
        go_simp
        refine (CY.out _ _ (B1.trans (HB3.out.mono B1.size)) HP3.out).mono ?_
        rintro e w4 ⟨rfl, Bx⟩
        have HB4 := hid_into (HB3.out.trans (Bx.mono HB3.out.size))
        have S4 := HSk.out w4 HB4.out
        dsimp only
        refine hK.out _ _ (by exact S4) (fun _ => ?_)
        have hn4 := hn3.below Bx hn3.lt
        clear hn3
        clear hK KK Bx
        refine wpAnyH_take (i := 21) (v := .tuple #[.agg cs.toArray, .int .i64 0]) rfl (by kernel_rfl) (by kernel_rfl) (by kernel_rfl) (fun _ _ _ h => h) (Or.inl ⟨by kernel_rfl, by intro V _; go_simp⟩) S4 ?_
        refine wpAnyH_take (i := 22) (v := .agg cs.toArray) rfl (by kernel_rfl) (by kernel_rfl) (by kernel_rfl) (fun _ _ _ h => h) (Or.inl ⟨by kernel_rfl, by intro V _; go_simp⟩) S4 ?_
        refine wpAnyH_take (i := 23) (v := .int .i64 0) rfl (by kernel_rfl) (by kernel_rfl) (by kernel_rfl) (fun _ _ _ h => h) (Or.inl ⟨by kernel_rfl, by intro V _; go_simp⟩) S4 ?_
        refine wpAnyH_ready (rs := [25]) (by kernel_rfl) (by simp) ?_
        refine AllReadyH.cons rfl (fun KK hK => ?_) AllReadyH.nil
        refine step_store_rw rfl 48 (.tmp 3) (.tmp 27) rfl (w2.heap.size) zeroS cs 48 (by kernel_rfl) (by kernel_rfl) hn4 ZS HL HO ?_
        intro W5 NC O5
        have HBe := hid_into (HB4.out.trans (O5.below HNB.out))
        have Se := HSk.out W5 HBe.out
        refine hK.out _ _ (by exact Se) (fun _ => ?_)
        clear hK KK
        refine wpAnyH_take (i := 26) (v := .int .i64 0) rfl (by kernel_rfl) (by kernel_rfl) (by kernel_rfl) (fun _ _ _ h => h) (Or.inl ⟨by kernel_rfl, by intro V _; go_simp⟩) Se ?_
        simp only [List.getElem_toArray, List.getElem_cons_zero, List.getElem_cons_succ, Act.put, List.setIfInBounds_toArray, List.set_cons_zero, List.set_cons_succ]
        refine wpAnyH_done (by kernel_rfl) ?_ _
        have hr5 := hr1.below HBe.out hr1.lt
        go_wp2_with (first
          | (refine wpList_load_rw rfl 48 (.tmp 3) rfl _ cs 48 _ rfl ?_ Tryz.underlying48 rfl HN ?_; exact NC)
          | (refine wpList_store_rw rfl 48 (.tmp 2) (.tmp 29) rfl w.heap.size zeroS cs 48 rfl rfl ?_ ZS HL HO.out ?_; exact hr5; intro W6 hr6 O6))
        exact ret_row rfl rfl rfl hr6 Tryz.underlying48 rfl HN ⟨rfl, (B1.trans (HBe.out.mono B1.size)).trans (O6.below (Nat.le_refl _))⟩
    · refine step_alloc_row rfl 48 rfl zeroS HZ.out ?_
      intro w2 hn2 Ba _
      have NB : W1.heap.size ≤ w1.heap.size := HB1.out.size
      have HNB := hid_into NB
      clear NB
      have HB2 := hid_into (HB1.out.trans (Ba.mono HB1.out.size))
      have S2 := HSk.out w2 HB2.out
      refine hK.out _ _ (by exact S2) (fun _ => ?_)
      try (have HP2 := hid_into (HP1.out.below Ba))
      clear hK KK Ba
      refine wpAnyH_ready (rs := [19]) (by kernel_rfl) (by simp) ?_
      try simp only [List.getElem_toArray, List.getElem_cons_zero, List.getElem_cons_succ, Act.put, List.setIfInBounds_toArray, List.set_cons_zero, List.set_cons_succ]
      refine AllReadyH.cons rfl (fun KK hK => ?_) AllReadyH.nil
      go_simp
      refine (CU.out _ (B1.trans (HB2.out.mono B1.size))).mono ?_
      rintro e w3 ⟨v, rfl, hp, Bx⟩
      have HB3 := hid_into (HB2.out.trans (Bx.mono HB2.out.size))
      have S3 := HSk.out w3 HB3.out
      dsimp only
      refine hK.out _ _ (by exact S3) (fun _ => ?_)
      have HP3 := hid_into hp
      clear hp
      have hn3 := hn2.below Bx hn2.lt
      clear hn2
      clear hK KK Bx
      refine wpAnyH_ready (rs := [20]) (by kernel_rfl) (by simp) ?_
      try simp only [List.getElem_toArray, List.getElem_cons_zero, List.getElem_cons_succ, Act.put, List.setIfInBounds_toArray, List.set_cons_zero, List.set_cons_succ]
      refine AllReadyH.cons rfl (fun KK hK => ?_) AllReadyH.nil
      go_simp
      refine (CY.out _ _ (B1.trans (HB3.out.mono B1.size)) HP3.out).mono ?_
      rintro e w4 ⟨rfl, Bx⟩
      have HB4 := hid_into (HB3.out.trans (Bx.mono HB3.out.size))
      have S4 := HSk.out w4 HB4.out
      dsimp only
      refine hK.out _ _ (by exact S4) (fun _ => ?_)
      have hn4 := hn3.below Bx hn3.lt
      clear hn3
      clear hK KK Bx
      refine wpAnyH_take (i := 21) (v := .tuple #[.agg cs.toArray, .int .i64 0]) rfl (by kernel_rfl) (by kernel_rfl) (by kernel_rfl) (fun _ _ _ h => h) (Or.inl ⟨by kernel_rfl, by intro V _; go_simp⟩) S4 ?_
      refine wpAnyH_take (i := 22) (v := .agg cs.toArray) rfl (by kernel_rfl) (by kernel_rfl) (by kernel_rfl) (fun _ _ _ h => h) (Or.inl ⟨by kernel_rfl, by intro V _; go_simp⟩) S4 ?_
      refine wpAnyH_take (i := 23) (v := .int .i64 0) rfl (by kernel_rfl) (by kernel_rfl) (by kernel_rfl) (fun _ _ _ h => h) (Or.inl ⟨by kernel_rfl, by intro V _; go_simp⟩) S4 ?_
      refine wpAnyH_ready (rs := [25]) (by kernel_rfl) (by simp) ?_
      refine AllReadyH.cons rfl (fun KK hK => ?_) AllReadyH.nil
      refine step_store_rw rfl 48 (.tmp 3) (.tmp 27) rfl (w1.heap.size) zeroS cs 48 (by kernel_rfl) (by kernel_rfl) hn4 ZS HL HO ?_
      intro W5 NC O5
      have HBe := hid_into (HB4.out.trans (O5.below HNB.out))
      have Se := HSk.out W5 HBe.out
      refine hK.out _ _ (by exact Se) (fun _ => ?_)
      clear hK KK
      refine wpAnyH_take (i := 26) (v := .int .i64 0) rfl (by kernel_rfl) (by kernel_rfl) (by kernel_rfl) (fun _ _ _ h => h) (Or.inl ⟨by kernel_rfl, by intro V _; go_simp⟩) Se ?_
      simp only [List.getElem_toArray, List.getElem_cons_zero, List.getElem_cons_succ, Act.put, List.setIfInBounds_toArray, List.set_cons_zero, List.set_cons_succ]
      refine wpAnyH_done (by kernel_rfl) ?_ _
      have hr5 := hr1.below HBe.out hr1.lt
      go_wp2_with (first
        | (refine wpList_load_rw rfl 48 (.tmp 3) rfl _ cs 48 _ rfl ?_ Tryz.underlying48 rfl HN ?_; exact NC)
        | (refine wpList_store_rw rfl 48 (.tmp 2) (.tmp 29) rfl w.heap.size zeroS cs 48 rfl rfl ?_ ZS HL HO.out ?_; exact hr5; intro W6 hr6 O6))
      exact ret_row rfl rfl rfl hr6 Tryz.underlying48 rfl HN ⟨rfl, (B1.trans (HBe.out.mono B1.size)).trans (O6.below (Nat.le_refl _))⟩
  · refine step_alloc_row rfl 48 rfl zeroS HZ.out ?_
    intro w1 hn1 Ba _
    have NB : W1.heap.size ≤ W1.drew.heap.size := HB0.out.size
    have HNB := hid_into NB
    clear NB
    have HB1 := hid_into (HB0.out.trans (Ba.mono HB0.out.size))
    have S1 := HSk.out w1 HB1.out
    refine hK.out _ _ (by exact S1) (fun _ => ?_)
    try (have HP1 := hid_into (HP0.out.below Ba))
    clear hK KK Ba
    refine wpAnyH_ready (rs := [17]) (by kernel_rfl) (by simp) ?_
    try simp only [List.getElem_toArray, List.getElem_cons_zero, List.getElem_cons_succ, Act.put, List.setIfInBounds_toArray, List.set_cons_zero, List.set_cons_succ]
    refine AllReadyH.cons rfl (fun KK hK => ?_) AllReadyH.nil
    go_simp
    refine (CB.out _ (B1.trans (HB1.out.mono B1.size))).mono ?_
    rintro e w2 ⟨rfl, Bx⟩
    have HB2 := hid_into (HB1.out.trans (Bx.mono HB1.out.size))
    have S2 := HSk.out w2 HB2.out
    dsimp only
    refine hK.out _ _ (by exact S2) (fun _ => ?_)
    have hn2 := hn1.below Bx hn1.lt
    clear hn1
    clear hK KK Bx
    refine wpAnyH_take (i := 18) (v := .int .i64 m) rfl (by kernel_rfl) (by kernel_rfl) (by kernel_rfl) (fun _ _ _ h => h) (Or.inl ⟨by kernel_rfl, by intro V _; go_simp⟩) S2 ?_
    refine wpAnyH_ready (rs := [19]) (by kernel_rfl) (by simp) ?_
    try simp only [List.getElem_toArray, List.getElem_cons_zero, List.getElem_cons_succ, Act.put, List.setIfInBounds_toArray, List.set_cons_zero, List.set_cons_succ]
    refine AllReadyH.cons rfl (fun KK hK => ?_) AllReadyH.nil
    go_simp
    refine (CU.out _ (B1.trans (HB2.out.mono B1.size))).mono ?_
    rintro e w3 ⟨v, rfl, hp, Bx⟩
    have HB3 := hid_into (HB2.out.trans (Bx.mono HB2.out.size))
    have S3 := HSk.out w3 HB3.out
    dsimp only
    refine hK.out _ _ (by exact S3) (fun _ => ?_)
    have HP3 := hid_into hp
    clear hp
    have hn3 := hn2.below Bx hn2.lt
    clear hn2
    clear hK KK Bx
    refine wpAnyH_ready (rs := [20]) (by kernel_rfl) (by simp) ?_
    try simp only [List.getElem_toArray, List.getElem_cons_zero, List.getElem_cons_succ, Act.put, List.setIfInBounds_toArray, List.set_cons_zero, List.set_cons_succ]
    refine AllReadyH.cons rfl (fun KK hK => ?_) AllReadyH.nil
    go_simp
    refine (CY.out _ _ (B1.trans (HB3.out.mono B1.size)) HP3.out).mono ?_
    rintro e w4 ⟨rfl, Bx⟩
    have HB4 := hid_into (HB3.out.trans (Bx.mono HB3.out.size))
    have S4 := HSk.out w4 HB4.out
    dsimp only
    refine hK.out _ _ (by exact S4) (fun _ => ?_)
    have hn4 := hn3.below Bx hn3.lt
    clear hn3
    clear hK KK Bx
    refine wpAnyH_take (i := 21) (v := .tuple #[.agg cs.toArray, .int .i64 0]) rfl (by kernel_rfl) (by kernel_rfl) (by kernel_rfl) (fun _ _ _ h => h) (Or.inl ⟨by kernel_rfl, by intro V _; go_simp⟩) S4 ?_
    refine wpAnyH_take (i := 22) (v := .agg cs.toArray) rfl (by kernel_rfl) (by kernel_rfl) (by kernel_rfl) (fun _ _ _ h => h) (Or.inl ⟨by kernel_rfl, by intro V _; go_simp⟩) S4 ?_
    refine wpAnyH_take (i := 23) (v := .int .i64 0) rfl (by kernel_rfl) (by kernel_rfl) (by kernel_rfl) (fun _ _ _ h => h) (Or.inl ⟨by kernel_rfl, by intro V _; go_simp⟩) S4 ?_
    refine wpAnyH_ready (rs := [25]) (by kernel_rfl) (by simp) ?_
    refine AllReadyH.cons rfl (fun KK hK => ?_) AllReadyH.nil
    refine step_store_rw rfl 48 (.tmp 3) (.tmp 27) rfl (W1.drew.heap.size) zeroS cs 48 (by kernel_rfl) (by kernel_rfl) hn4 ZS HL HO ?_
    intro W5 NC O5
    have HBe := hid_into (HB4.out.trans (O5.below HNB.out))
    have Se := HSk.out W5 HBe.out
    refine hK.out _ _ (by exact Se) (fun _ => ?_)
    clear hK KK
    refine wpAnyH_take (i := 26) (v := .int .i64 0) rfl (by kernel_rfl) (by kernel_rfl) (by kernel_rfl) (fun _ _ _ h => h) (Or.inl ⟨by kernel_rfl, by intro V _; go_simp⟩) Se ?_
    simp only [List.getElem_toArray, List.getElem_cons_zero, List.getElem_cons_succ, Act.put, List.setIfInBounds_toArray, List.set_cons_zero, List.set_cons_succ]
    refine wpAnyH_done (by kernel_rfl) ?_ _
    have hr5 := hr1.below HBe.out hr1.lt
    go_wp2_with (first
      | (refine wpList_load_rw rfl 48 (.tmp 3) rfl _ cs 48 _ rfl ?_ Tryz.underlying48 rfl HN ?_; exact NC)
      | (refine wpList_store_rw rfl 48 (.tmp 2) (.tmp 29) rfl w.heap.size zeroS cs 48 rfl rfl ?_ ZS HL HO.out ?_; exact hr5; intro W6 hr6 O6))
    exact ret_row rfl rfl rfl hr6 Tryz.underlying48 rfl HN ⟨rfl, (B1.trans (HBe.out.mono B1.size)).trans (O6.below (Nat.le_refl _))⟩
end
end Go.Proofs.YtbfldcieibdapaaGreat
end

section
/-
  The document's New, Local, Needs, by contracts.
-/
namespace Go.Proofs.YtbfldcieibdapaaGreat
open Go.RowKit
section
variable {w w' : World} {lo hi : Nat} {Y : Yx} {G : Gm} {s t : Sa}
theorem Rx.nowGs (h : Rx w lo hi Y G s) : Gs G.cap (s.now G) := h.ok.fit.gs h.g _
theorem Rx.sureGs (h : Rx w lo hi Y G s) : Gs G.cap (s.sure G) := h.ok.fit.gs h.g _
set_option maxHeartbeats 1000000 in
theorem rNeeds_any (h : Rx w lo hi Y G s) : Calls Tryz.prog 23 #[.pointer (some ⟨Y.sb, 0, none⟩)] w fun e w' => e = .returned (.int .i64 (In.kn s.h : Int)) ∧ Sm w w' := by
  have c4 := h.cl.c4
  have c5 := h.cl.c5
  have hm := h.ok.fit.me
  have CK : Hid (∀ W, Sm w W → Calls Tryz.prog 50 #[.pointer (some ⟨Y.qb, 0, none⟩), .int .i64 (1 - s.me)] W fun e w' => e = .returned (.int .i64 (In.kn s.h : Int)) ∧ w' = W) := fun W hW => by
    have := In.rknown_anyR (h.sm hW).q (1 - s.me)
    rw [(sel_me hm).2] at this
    exact this
  have CKd := hid_into (CK.out w.drew ⟨rfl, rfl, rfl, rfl⟩)
  have hw : IntKind.i64.wrap (1 - s.me) = 1 - s.me := by simp [IntKind.wrap, IntKind.bits, IntKind.signed]; omega
  obtain ⟨o, ho⟩ : ∃ o, o = 1 - s.me := ⟨_, rfl⟩
  rw [← ho] at CKd hw
  have hw' : IntKind.i64.wrap (1 - s.me) = o := by rw [← ho]; exact hw
  generalize s.me = me at *
  generalize (In.kn s.h : Int) = p at *
  clear h hm CK hw ho
  go_enter Tryz.func23, Tryz.ntmps23
  go_wp2_with fail
  go_region_held3 (fun V => V.cell? ⟨Y.sb, 4, none⟩ = some (.int .i64 me) ∧ V.cell? ⟨Y.sb, 5, none⟩ = some (.pointer (some ⟨Y.qb, 0, none⟩))) (exact ⟨c4, c5⟩) (first
    | (go_at_call 50; refine CKd.out.mono ?_; rintro e w1 ⟨rfl, rfl⟩))
  go_wp2_with fail
  go_ret
  exact ⟨rfl, ⟨rfl, rfl, rfl, rfl⟩⟩
/-- The document's session, its Queue a step ahead of its cells. -/
structure Ry (w : World) (lo hi : Nat) (Y : Yx) (G : Gm) (s t : Sa) : Prop where
  c : Cw w Y.sb (Y.cells G s) 52
  q : In.Rq w Y.qlo Y.qhi Y.qb Y.a0 Y.a1 Y.b0 Y.b1 t.r0 t.r1
  l : Ls w Y.cv G.l
  z : hi ≤ w.heap.size
theorem Rx.ry (h : Rx w lo hi Y G s) (hq : In.Rq w' Y.qlo Y.qhi Y.qb Y.a0 Y.a1 Y.b0 Y.b1 t.r0 t.r1) (ho : In.Og (fun k => Y.qlo ≤ k ∧ k < Y.qhi) w w') : Ry w' lo hi Y G s t ∧ Grows (In2 lo hi) w w' :=
  ⟨⟨ho.cw h.c (by have := h.x.sq; omega), hq, h.l.keepN (fun hne k hk => ho.block k (by have := h.nc hne k hk; have := h.x.q; omega)), by rw [ho.size]; exact h.z⟩, ⟨ho.os, ho.tape, ho.output, by rw [ho.size]; exact Nat.le_refl _, fun k _ hk => ho.block k (fun e => hk ⟨by have := h.x.q; omega, by have := h.x.q; omega⟩)⟩⟩
theorem rputM (h : Rx w lo hi Y G s) (hP : (s.P : Int) < G.cap) (x : Int) : Calls Tryz.prog 39 #[.pointer (some ⟨Y.qb, 0, none⟩), .int .i64 s.me, .int .i64 (s.P : Int), .int .u16 x] w fun e w' => e = .returned (.int .i64 0) ∧ Ry w' lo hi Y G s (s.put x) ∧ Grows (In2 lo hi) w w' := by
  have g := In.rput_anyR h.q s.me (s.P : Int) x
  rw [(sel_me h.ok.fit.me).1, put_free h.ok.fit hP x] at g
  refine g.mono ?_
  rintro e w' ⟨rfl, hp⟩
  obtain ⟨e0, e1⟩ := put_rows h.ok.fit.me (put_free h.ok.fit hP x)
  have hq := hp.q
  rw [e0, e1] at hq
  exact ⟨rfl, h.ry hq hp.og⟩
set_option maxRecDepth 20000 in
set_option maxHeartbeats 2000000 in
theorem rLocal_any (h : Rx w lo hi Y G s) (hst : 0 ≤ s.st ∧ s.st < 4611686018427300000) {x : Int} (hx : 0 ≤ x ∧ x < 65536) : Calls Tryz.prog 14 #[.pointer (some ⟨Y.sb, 0, none⟩), .int .u16 x] w fun e w' => e = .returned (.tuple #[.int .i64 (locA s G).1, .int .i64 (locA s G).2]) ∧ Rx w' lo hi Y G (locS s G x) ∧ Grows (In2 lo hi) w w' := by
  have CN := hid_into (rNow_any h)
  have CS : Hid (∀ W, Below w.heap.size w W → W.cell? ⟨Y.sb, 6, none⟩ = some (.int .i64 (s.P : Int)) ∧ Calls Tryz.prog 21 #[.pointer (some ⟨Y.sb, 0, none⟩)] W fun e w' => e = .returned (.agg (stV (s.sure G)).toArray) ∧ Below W.heap.size W w') := fun W hW => ⟨(h.below hW).cl.c6, rSure_any (h.below hW)⟩
  have hg := h.sureGs
  have hn := h.nowGs
  have b0 := hg.f0
  have b1 := hg.f1
  have b2 := (chkG_cap h.g.c).2.2.1
  have b3 := h.ok.fit.P_le
  have b7 : (0 : Int) ≤ (s.P : Int) := Int.natCast_nonneg _
  have F0 := (fieldS hg.wf).1
  have F3 := (fieldS hn.wf).2.1
  have Hh := hid_into h
  by_cases ho : (s.now G).over = true
  · have eA : locA s G = (0, 12) := if_pos ho
    have eS : locS s G x = s := by unfold locS; rw [eA]; rfl
    rw [eA, eS]
    rw [ho] at F3
    generalize stV (s.now G) = ns at *
    clear h hg hn F0 eA eS CS
    go_enter Tryz.func14, Tryz.ntmps14
    go_wp2_with (go_at_call 19; refine CN.out.mono ?_; rintro e w2 ⟨rfl, B2⟩)
    go_ret2
    exact ⟨rfl, Hh.out.below B2, gb B2⟩
  · have ho' : (s.now G).over = false := by simpa using ho
    rw [ho'] at F3
    by_cases hw : (s.sure G).frame + 8 ≤ (s.P : Int)
    · have eA : locA s G = (0, 13) := by unfold locA; rw [if_neg ho, if_pos hw]
      have eS : locS s G x = s := by unfold locS; rw [eA]; rfl
      rw [eA, eS]
      generalize stV (s.now G) = ns at *
      generalize stV (s.sure G) = cs at *
      generalize (s.sure G).frame = q at *
      generalize (s.P : Int) = p at *
      have b4 : q ≤ 600 := by omega
      have hq8 : IntKind.i64.wrap (q + 8) = q + 8 := by simp [IntKind.wrap, IntKind.bits, IntKind.signed]; omega
      clear h hg hn eA eS
      go_enter Tryz.func14, Tryz.ntmps14
      go_wp2_with (go_at_call 19; refine CN.out.mono ?_; rintro e w2 ⟨rfl, B2⟩; have HB := hid_into B2; have HBd := hid_into B2.drew; have sC := (CS.out _ HBd.out).1)
      go_region_held3 (fun V => V.cell? ⟨Y.sb, 6, none⟩ = some (.int .i64 p)) (first | exact sD | exact sC)
        (first | (go_at_call 21; refine (CS.out _ HBd.out).2.mono ?_; rintro e w4 ⟨rfl, B4⟩; have H4 := hid_into (HBd.out.trans (B4.mono HBd.out.size)); have sD := (CS.out _ H4.out).1; clear B4))
      go_wp2_with fail
      go_ret2
      exact ⟨rfl, Hh.out.below H4.out, gb H4.out⟩
    · have eA : locA s G = ((s.P : Int), 0) := by unfold locA; rw [if_neg ho, if_neg hw]
      have hgo : (locA s G).2 = 0 := by rw [eA]
      have eS : locS s G x = (s.put x).work 1 0 := by unfold locS; rw [if_pos hgo]
      have hP := (Sa.P_cap h.g h.ok.fit ho').2
      have ePP := Sa.put_P h.ok.fit hP x
      have hok := h.ok.loc h.g hx
      rw [eS] at hok
      have CM : Hid (∀ W, Below w.heap.size w W → (W.cell? ⟨Y.sb, 4, none⟩ = some (.int .i64 s.me) ∧ W.cell? ⟨Y.sb, 5, none⟩ = some (.pointer (some ⟨Y.qb, 0, none⟩)) ∧ W.cell? ⟨Y.sb, 6, none⟩ = some (.int .i64 (s.P : Int))) ∧ Calls Tryz.prog 39 #[.pointer (some ⟨Y.qb, 0, none⟩), .int .i64 s.me, .int .i64 (s.P : Int), .int .u16 x] W fun e w' => e = .returned (.int .i64 0) ∧ Ry w' lo hi Y G s (s.put x) ∧ Grows (In2 lo hi) W w') := fun W hW => ⟨⟨(h.below hW).cl.c4, (h.below hW).cl.c5, (h.below hW).cl.c6⟩, rputM (h.below hW) hP x⟩
      have CF : Hid (∀ W, Ry W lo hi Y G s (s.put x) → ((W.cell? ⟨Y.sb, 4, none⟩ = some (.int .i64 s.me) ∧ W.cell? ⟨Y.sb, 5, none⟩ = some (.pointer (some ⟨Y.qb, 0, none⟩)) ∧ W.cell? ⟨Y.sb, 6, none⟩ = some (.int .i64 (s.P : Int))) ∧ W.frozen? ⟨Y.sb, 6, none⟩ = false ∧ (W.setCell ⟨Y.sb, 6, none⟩ (.int .i64 ((s.P : Int) + 1))).cell? ⟨Y.sb, 7, none⟩ = some (.int .i64 s.st) ∧ (W.setCell ⟨Y.sb, 6, none⟩ (.int .i64 ((s.P : Int) + 1))).frozen? ⟨Y.sb, 7, none⟩ = false ∧ ((W.setCell ⟨Y.sb, 6, none⟩ (.int .i64 ((s.P : Int) + 1))).setCell ⟨Y.sb, 7, none⟩ (.int .i64 (s.st + 1))).cell? ⟨Y.sb, 6, none⟩ = some (.int .i64 ((s.P : Int) + 1)) ∧ Rx ((W.setCell ⟨Y.sb, 6, none⟩ (.int .i64 ((s.P : Int) + 1))).setCell ⟨Y.sb, 7, none⟩ (.int .i64 (s.st + 1))) lo hi Y G ((s.put x).work 1 0) ∧ Grows (In2 lo hi) W ((W.setCell ⟨Y.sb, 6, none⟩ (.int .i64 ((s.P : Int) + 1))).setCell ⟨Y.sb, 7, none⟩ (.int .i64 (s.st + 1))))) := fun W hW => by
        have k1 := hW.c.set 6 (.int .i64 ((s.P : Int) + 1))
        have k2 := k1.set 7 (.int .i64 (s.st + 1))
        have o1 := Only.set Y.sb 6 W (.int .i64 ((s.P : Int) + 1))
        have o2 := o1.trans (Only.set Y.sb 7 _ (.int .i64 (s.st + 1)))
        have hc : ∀ i, W.cell? ⟨Y.sb, i, none⟩ = (Y.cells G s)[i]? := fun i => hW.c.cell i
        refine ⟨⟨(hc 4).trans rfl, (hc 5).trans rfl, (hc 6).trans rfl⟩, hW.c.frozen 6, (k1.cell 7).trans rfl, k1.frozen 7, (k2.cell 6).trans rfl, ⟨?_, hW.q.keep (fun k h1 h2 => o2.block k (by have := h.x.sq; omega)), hW.l.keepN (fun hne k hk => o2.block k (by have := h.nc hne k hk; have := h.x.s; omega)), h.x, by rw [o2.size]; exact hW.z, hok, h.g, h.nc⟩, ⟨o2.os, o2.tape, o2.output, by rw [o2.size]; exact Nat.le_refl _, fun k _ hk => o2.block k (fun e => hk (e ▸ h.x.s))⟩⟩
        have e : Y.cells G ((s.put x).work 1 0) = ((Y.cells G s).set 6 (.int .i64 ((s.P : Int) + 1))).set 7 (.int .i64 (s.st + 1)) := by
          unfold Yx.cells
          rw [show ((s.put x).work 1 0).P = s.P + 1 from ePP, show ((s.put x).work 1 0).st = s.st + 1 from rfl, show ((s.put x).work 1 0).wr = s.wr from Int.add_zero _, show ((s.put x).work 1 0).me = s.me from rfl]
          simp
        rw [e]
        exact k2
      obtain ⟨hs1, hs2⟩ := hst
      rw [eA, eS]
      generalize (s.put x).work 1 0 = rs at *
      generalize stV (s.now G) = ns at *
      generalize stV (s.sure G) = cs at *
      generalize (s.sure G).frame = q at *
      generalize (s.P : Int) = p at *
      have b4 : q ≤ 600 := by omega
      have b5 : p ≤ 600 := by omega
      have b6 : ¬ q + 8 ≤ p := hw
      have hq8 : IntKind.i64.wrap (q + 8) = q + 8 := by simp [IntKind.wrap, IntKind.bits, IntKind.signed]; omega
      generalize s.me = me at *
      generalize s.st = st at *
      clear h hg hn eA eS hgo hP ePP hok
      go_enter Tryz.func14, Tryz.ntmps14
      go_wp2_with (go_at_call 19; refine CN.out.mono ?_; rintro e w2 ⟨rfl, B2⟩; have HB := hid_into B2; have HBd := hid_into B2.drew; have sC := (CS.out _ HBd.out).1)
      go_region_held3 (fun V => V.cell? ⟨Y.sb, 6, none⟩ = some (.int .i64 p)) (first | exact sD | exact sC)
        (first | (go_at_call 21; refine (CS.out _ HBd.out).2.mono ?_; rintro e w4 ⟨rfl, B4⟩; have H4 := hid_into (HBd.out.trans (B4.mono HBd.out.size)); have sD := (CS.out _ H4.out).1; have H5 := hid_into H4.out.drew; clear B4))
      go_wp2_with fail
      have sE := (CM.out _ H5.out).1
      go_region_held3 (fun V => V.cell? ⟨Y.sb, 4, none⟩ = some (.int .i64 me) ∧ V.cell? ⟨Y.sb, 5, none⟩ = some (.pointer (some ⟨Y.qb, 0, none⟩)) ∧ V.cell? ⟨Y.sb, 6, none⟩ = some (.int .i64 p)) (first | exact sF | exact sE)
        (first | (go_at_call 39; refine (CM.out _ H5.out).2.mono ?_; rintro e w7 ⟨rfl, h7, g7⟩; obtain ⟨sF, z6, c7, z7, d6, r8, g8⟩ := CF.out _ h7; have G7 := hid_into g7; have R8 := hid_into r8; have G8 := hid_into g8; have c6 := sF.2.2; clear h7 g7 r8 g8))
      go_wp2_with fail
      go_ret2
      exact ⟨by simp, R8.out, gtrans (gtrans (gb H5.out) G7.out) G8.out⟩
end
end Go.Proofs.YtbfldcieibdapaaGreat
end
