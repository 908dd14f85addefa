/-
  The document's Net: Give, by contract.
-/
import Derived.Test.YtnfmhcljncdkgaaNetDocS
import Derived.Test.YtnfmhcljncdkgaaHeldL
namespace Go.Proofs.Ytnfmhcljncdkgaa
open Go.RowKit
theorem info25 : (Try.prog.info? 25).map (fun i => (i.zero, i.size, i.bytes)) = some (some (.agg #[.int .i64 0, .int .i64 0, .slice none 0 0]), 3, 40) := by kernel_rfl
theorem slice_lo3 (g n cap m : Nat) (lo : Int) (hlo : lo = (m : Int)) (h1 : m ≤ n) (h2 : n ≤ cap) : ∃ off, (off = m * 3 ∨ m = n) ∧ ∀ W : World, (Instr.slice 31 (.slice (some ⟨g, 0, none⟩) n cap) (some (.int .i64 lo)) none none).run Try.prog W = .ok (.slice (some ⟨g, off, none⟩) (n - m) (cap - m)) W := by
  subst hlo
  obtain ⟨i0, hi, hz0, hz1, hz2⟩ := info_parts info25
  have hsz : ∀ W : World, (sizeOf 25).run Try.prog W = .ok 3 W := fun W => by simp [sizeOf, typeInfo, hi, hz1]
  by_cases hcm : cap = m
  · refine ⟨0, Or.inr (by omega), fun W => ?_⟩
    simp [Instr.slice, run_underlying Try.underlying31, Instr.sliceBounds, Instr.sliceBound, asIntOf, hsz, hcm]
    intro h
    omega
  · refine ⟨m * 3, Or.inl rfl, fun W => ?_⟩
    simp [Instr.slice, run_underlying Try.underlying31, Instr.sliceBounds, Instr.sliceBound, asIntOf, hsz, hcm, Addr.add_lit]
    intro h
    omega
theorem yields_slice_lo {o : Oper} {a : Act} {P : Program} {u : World} {r : Value} (t e : TypeId) (hu : P.underlying t = some (.slice e)) (x lo : Operand) (ho : o.op = .slice t x (some lo) none none) (hr : (Instr.slice t (a.eval x) (some (a.eval lo)) none none).run P u = .ok r u) : (execOp a.eval o).run P u = .ok (.value r) u := by
  unfold execOp
  simp only [ho, Option.map_some, Option.map_none, Sem.run_bind, Instr.sliceAt, run_underlying hu, hr, Result.andThen_ok, Sem.run_pure]
theorem Ro_base {w : World} {base base' : Nat} {v : Value} {E : List De} (h : Rd w base v E) (hb : base' ≤ base) : Rd w base' v E := by
  refine ⟨h.1, ?_⟩
  rcases h.2 with h2 | ⟨g, cap, cur, h1, h2, h3⟩
  · exact Or.inl h2
  · exact Or.inr ⟨g, cap, cur, h1, by omega, h3⟩
/-- A new row in the old one's place. -/
theorem Dp.swap {w w' : World} {B rb : Nat} {u u' : Value} {E E' : List De} (h : Dp w B rb u E) (hB : B ≤ w.heap.size) (hb : Below w.heap.size w w') (hr : Rd w' w.heap.size u' E') (hs : ∀ e ∈ E', e ∈ E) (hl : E'.length ≤ 1024) : Dx w (w'.setCell ⟨rb, 0, none⟩ u') B rb u u' E E' := by
  have ho : ∀ k, u'.ownBlock = some k → w.heap.size ≤ k := fun k hk => (hr.lt k hk).1
  obtain ⟨h1, h2⟩ := h.store (Gr.of_below hb (fun k => u.ownBlock = some k) fun k h1 h2 => by omega) (Ro_base hr hB) (fun k hk => Or.inr (ho k hk)) hl (fun e he => Or.inl (hs e he))
  exact ⟨h1, h2, fun k hk => Or.inr (ho k hk), fun e he => Or.inl (hs e he)⟩
/-- Where messages of the document's row stand. -/
theorem Rd.part {w : World} {base g n cap : Nat} {A M C : List De} (h : Rd w base (.slice (some ⟨g, 0, none⟩) n cap) (A ++ M ++ C)) : ∀ j x, (M.flatMap deC)[j]? = some x → w.cell? ⟨g, A.length * 3 + j, none⟩ = some x := by
  intro j x hx
  have hne : A ++ M ++ C ≠ [] := fun e => by
    have : M = [] := (List.append_eq_nil_iff.1 (List.append_eq_nil_iff.1 e).1).2
    subst this
    simp at hx
  obtain ⟨g', cap', hv, _, _, _, _, hc⟩ := Ax.Ro.spot h hne
  simp only [Value.slice.injEq, Option.some.injEq, Addr.mk.injEq, and_true] at hv
  obtain ⟨rfl, _⟩ := hv
  refine hc _ x ?_
  have hl : (A.flatMap deC).length = A.length * 3 := Ax.fm_len (en := deC) (c := 3) (fun _ => rfl) A
  rw [List.flatMap_append, List.flatMap_append, List.append_assoc, List.getElem?_append_right (by omega), hl, Nat.add_sub_cancel_left, List.getElem?_append_left (List.getElem?_eq_some_iff.1 hx).1]
  exact hx
/-- Both appends of Give. -/
theorem rg_apps {w : World} {B rb g n cap : Nat} {A C : List De} {e0 : De} (h : Dp w B rb (.slice (some ⟨g, 0, none⟩) n cap) (A ++ e0 :: C)) (hn : A.length + C.length + 1 = n) (hl : n ≤ 1024) (off : Nat) (hoff : off = (A.length + 1) * 3 ∨ A.length + 1 = n) :
    ∃ a3 c3 W3 a4 c4 W4, Hid (∀ ty, (Builtin.append_ #[31, 31] ty #[.slice (some ⟨w.heap.size, 0, none⟩) 0 0, .slice (some ⟨g, 0, none⟩) A.length cap]).run Try.prog (w.alloc (.cells #[] 25)).drew = .ok (.slice a3 A.length c3) W3) ∧
      Hid (∀ ty, (Builtin.append_ #[31, 31] ty #[.slice a3 A.length c3, .slice (some ⟨g, off, none⟩) (n - (A.length + 1)) (cap - (A.length + 1))]).run Try.prog W3 = .ok (.slice a4 (A.length + C.length) c4) W4) ∧
      W3.cell? ⟨rb, 0, none⟩ = some (.slice (some ⟨g, 0, none⟩) n cap) ∧ W4.cell? ⟨rb, 0, none⟩ = some (.slice (some ⟨g, 0, none⟩) n cap) ∧ W4.frozen? ⟨rb, 0, none⟩ = false ∧ Below w.heap.size w W4 ∧ Rd W4 w.heap.size (.slice a4 (A.length + C.length) c4) (A ++ C) := by
  have hbX : Below w.heap.size w (w.alloc (.cells #[] 25)).drew := ((Below.refl _ _).alloc (Nat.le_refl _) _).drew
  have hXs : (w.alloc (.cells #[] 25)).drew.heap.size = w.heap.size + 1 := World.size_alloc _ _
  have hv0 : Rd (w.alloc (.cells #[] 25)).drew w.heap.size (.slice (some ⟨w.heap.size, 0, none⟩) 0 0) ([] : List De) := by
    refine ⟨by simp, Or.inr ⟨w.heap.size, 0, #[], rfl, Nat.le_refl _, heap_alloc_new w _, Nat.le_refl _, by simp [maxLen], rfl, rfl⟩⟩
  have hrX := (h.below hbX).r
  rw [show A ++ e0 :: C = [] ++ A ++ (e0 :: C) by simp] at hrX
  obtain ⟨v3, W3, hr3, r3, g3, _⟩ := Ax.Ro.app KD hv0 ⟨g, 0, none⟩ cap A (fun j x hx => by have := Rd.part hrX j x hx; rw [Addr.add_lit]; exact this) (by simp; omega) (by rw [hXs]; omega)
  rw [List.nil_append] at r3
  have hb3 : Below w.heap.size w W3 := Ax.grown_below g3 hbX hbX.size fun k hk => by obtain rfl : w.heap.size = k := Option.some.inj hk; exact Nat.le_refl _
  have h3 := h.below hb3
  have hr3' := h3.r
  rw [show A ++ e0 :: C = (A ++ [e0]) ++ C ++ [] by simp] at hr3'
  obtain ⟨v4, W4, hr4, r4, g4, _⟩ := Ax.Ro.app KD r3 ⟨g, off, none⟩ (cap - (A.length + 1)) C (fun j x hx => by
    rw [Addr.add_lit]
    rcases hoff with rfl | ho
    · have := Rd.part hr3' j x hx
      rw [List.length_append] at this
      exact this
    · have : C = [] := List.eq_nil_of_length_eq_zero (by omega)
      subst this
      simp at hx) (by omega) hb3.size
  have hb4 : Below w.heap.size w W4 := Ax.grown_below g4 hb3 hb3.size fun k hk => (r3.lt k hk).1
  have h4 := h.below hb4
  obtain ⟨a3, c3, e3, _⟩ := Ax.Ro.form r3
  obtain ⟨a4, c4, e4, _⟩ := Ax.Ro.form r4
  rw [List.length_append] at e4
  subst e3 e4
  refine ⟨a3, c3, W3, a4, c4, W4, hr3, fun ty => ?_, h3.slot, h4.slot, h4.q.frozen 0, hb4, r4⟩
  rw [show n - (A.length + 1) = C.length by omega]
  exact hr4 ty
set_option maxHeartbeats 4000000 in
set_option maxRecDepth 20000 in
theorem rgive_some {w : World} {B rb : Nat} {u : Value} {A C : List De} {e0 : De} (h : Dp w B rb u (A ++ e0 :: C)) (pick : Int) (hp : pkN pick (A ++ e0 :: C).length = A.length) :
    Calls Try.prog 16 #[.pointer (some ⟨rb, 0, none⟩), .int .i64 pick] w fun e w' => e = .returned (.tuple #[.agg #[.int .i64 e0.m.fr, .int .i64 e0.m.to, .slice e0.ao e0.n e0.c], .bool true]) ∧ ∃ u', Dx w w' B rb u u' (A ++ e0 :: C) (A ++ C) ∧ Bs w' e0.v e0.m.d ∧ ∀ k, e0.v.ownBlock = some k → B ≤ k ∧ k < w.heap.size ∧ k ≠ rb ∧ u'.ownBlock ≠ some k := by
  have hle := h.le
  have hlA : (A ++ e0 :: C).length = A.length + C.length + 1 := by simp; omega
  rw [hlA] at hle hp
  have HA : Hid (∀ W, Below w.heap.size w W → Dp W B rb u (A ++ e0 :: C)) := fun W hb => h.below hb
  obtain ⟨g, cap, hv, _, _, hcap, hcm, _⟩ := Ax.Ro.spot h.r (by simp)
  rw [hlA] at hv hcap
  have hrem : max 0 pick % ((A.length + C.length + 1 : Nat) : Int) = (A.length : Int) := by
    have h1 : ((pkN pick (A.length + C.length + 1) : Nat) : Int) = (A.length : Int) := by rw [hp]
    rw [← h1]
    unfold pkN
    rw [Int.natCast_emod, show (((max 0 pick).toNat : Nat) : Int) = max 0 pick by omega]
  subst hv
  have q1 : (A.length : Int) < ((A.length + C.length + 1 : Nat) : Int) := by omega
  have q2 : ¬ ((A.length + C.length + 1 : Nat) : Int) = 0 := by omega
  have CE : Hid (∀ W, Below w.heap.size w W → W.cell? ⟨g, A.length * 3, none⟩ = some (.int .i64 e0.m.fr) ∧ W.cell? ⟨g, A.length * 3 + 1, none⟩ = some (.int .i64 e0.m.to) ∧ W.cell? ⟨g, A.length * 3 + 2, none⟩ = some (.slice e0.ao e0.n e0.c)) := fun W hb => by
    have hr := (HA.out W hb).r
    rw [show A ++ e0 :: C = A ++ [e0] ++ C by simp] at hr
    have hc := Rd.part hr
    exact ⟨hc 0 _ rfl, hc 1 _ rfl, hc 2 _ rfl⟩
  clear h hlA hp
  unfold maxLen at hcm
  generalize hb0 : A.length + C.length + 1 = n at *
  obtain ⟨k, hk⟩ : ∃ k, k = A.length := ⟨_, rfl⟩
  rw [← hk] at q1 hrem CE
  have HK := hid_into hk
  have HB0 := hid_into hb0
  clear hk hb0
  go_enter Try.func16, Try.ntmps16
  go_wp2_with (first
    | (have := c1; refine wpList_alloc_row rfl 25 rfl [.int .i64 0, .int .i64 0, .slice none 0 0] zero25 ?_; intro w2 c2 hb2 hs2; have hb20 := hb1.trans (hb2.mono hb1.size); have c12 := Below.cw_of hb2 c1)
    | (refine wpList_alloc_row rfl 25 rfl [.int .i64 0, .int .i64 0, .slice none 0 0] zero25 ?_; intro w1 c1 hb1 hs1; have k1 := (HA.out w1 hb1).slot; obtain ⟨m0, m1, m2⟩ := CE.out w1 hb1)
    | (have := c2; refine wpList_store_rw rfl 25 (.tmp 7) (.tmp 29) rfl w1.heap.size _ [.int .i64 e0.m.fr, .int .i64 e0.m.to, .slice e0.ao e0.n e0.c] _ (by rfl) (by rfl) c2 size25 rfl (msC_one _ _ _ _ _) ?_; intro w3 c3 ho3; have hb3 : Below w.heap.size w w3 := ho3.belowTo hb20 hb1.size; have c13 := ho3.cw c12 (by have := hs1.out; omega); have k3 := (HA.out w3 hb3).slot; clear c2 c12)
    | (rw [hrem])
    | fail)
  have h3 := HA.out w3 hb3
  obtain ⟨off, hoff, hrun⟩ := slice_lo3 g n cap (k + 1) (IntKind.i64.wrap ((k : Int) + 1)) (by rw [IntKind.wrap_i64]; omega) (by have := HB0.out; have := HK.out; omega) hcap
  have hap := rg_apps h3 HB0.out (by omega) off (by rw [← HK.out]; exact hoff)
  rw [← HK.out] at hap
  obtain ⟨a4, c4, W4, a5, c5, W5, HR1, HR2, kc4, kc5, fz5, hb5, hR5⟩ := hap
  have hkn : k + C.length + 1 = n := by have := HB0.out; have := HK.out; omega
  have f1 : (0 : Int) ≤ (k : Int) := by omega
  have f2 : (k : Int) ≤ (cap : Int) := by omega
  have f3 : k ≤ cap := by omega
  have hca := (h3.below ((Below.refl _ _).alloc (Nat.le_refl _) (.cells #[] 25))).slot
  have hS : w3.drew.cell? ⟨rb, 0, none⟩ = some (.slice (some ⟨g, 0, none⟩) n cap) := k3
  refine wp_region_L 19 (fun w' => w'.cell? ⟨rb, 0, none⟩ = some (.slice (some ⟨g, 0, none⟩) n cap)) (by kernel_rfl) ?_
  refine' wpL_take 0 30 rfl rfl (by kernel_rfl) (by kernel_rfl) (by kernel_rfl) (by kernel_rfl) (fun _ _ _ h => h) (by rfl) hS ?y30 ?r30
  case y30 => (intro u hSu; (try dsimp only at hSu); go_simp; try with_reducible rfl)
  simp only [Act.put, List.setIfInBounds_toArray, List.set_cons_zero, List.set_cons_succ]
  refine' wpL_take 2 32 rfl rfl (by kernel_rfl) (by kernel_rfl) (by kernel_rfl) (by kernel_rfl) (fun _ _ _ h => h) (by rfl) hS ?y32 ?r32
  case y32 => (intro u hSu; (try dsimp only at hSu); go_simp; try with_reducible rfl)
  simp only [Act.put, List.setIfInBounds_toArray, List.set_cons_zero, List.set_cons_succ]
  refine' wpL_take 3 33 rfl rfl (by kernel_rfl) (by kernel_rfl) (by kernel_rfl) (by kernel_rfl) (fun _ _ _ h => h) (by rfl) hS ?y33 ?r33
  case y33 => (intro u hSu; (try dsimp only at hSu); go_simp; try with_reducible rfl)
  simp only [Act.put, List.setIfInBounds_toArray, List.set_cons_zero, List.set_cons_succ]
  refine' wpL_take 4 34 rfl rfl (by kernel_rfl) (by kernel_rfl) (by kernel_rfl) (by kernel_rfl) (fun _ _ _ h => h) (by rfl) hS ?y34 ?r34
  case y34 => (intro u hSu; (try dsimp only at hSu); go_simp; try with_reducible rfl)
  simp only [Act.put, List.setIfInBounds_toArray, List.set_cons_zero, List.set_cons_succ]
  refine' wpL_take 5 35 rfl rfl (by kernel_rfl) (by kernel_rfl) (by kernel_rfl) (by kernel_rfl) (fun _ _ _ h => h) (by rfl) hS ?y35 ?r35
  case y35 => (intro u hSu; (try dsimp only at hSu); go_simp; try with_reducible rfl)
  simp only [Act.put, List.setIfInBounds_toArray, List.set_cons_zero, List.set_cons_succ]
  refine' wpL_take 6 36 rfl rfl (by kernel_rfl) (by kernel_rfl) (by kernel_rfl) (by kernel_rfl) (fun _ _ _ h => h) (by rfl) hS ?y36 ?r36
  case y36 => (intro u hSu; (try dsimp only at hSu); go_simp; try with_reducible rfl)
  simp only [Act.put, List.setIfInBounds_toArray, List.set_cons_zero, List.set_cons_succ]
  refine' wpL_take 7 37 rfl rfl (by kernel_rfl) (by kernel_rfl) (by kernel_rfl) (by kernel_rfl) (fun _ _ _ h => h) (by rfl) hS ?y37 ?r37
  case y37 => (intro u hSu; (try dsimp only at hSu); go_simp; try with_reducible rfl)
  simp only [Act.put, List.setIfInBounds_toArray, List.set_cons_zero, List.set_cons_succ]
  refine' wpL_take 9 39 rfl rfl (by kernel_rfl) (by kernel_rfl) (by kernel_rfl) (by kernel_rfl) (fun _ _ _ h => h) (by rfl) hS ?y39 ?r39
  case y39 => (intro u hSu; (try dsimp only at hSu); go_simp; try with_reducible rfl)
  simp only [Act.put, List.setIfInBounds_toArray, List.set_cons_zero, List.set_cons_succ]
  refine' wpL_take 10 40 rfl rfl (by kernel_rfl) (by kernel_rfl) (by kernel_rfl) (by kernel_rfl) (fun _ _ _ h => h) (by rfl) hS ?y40 ?r40
  case y40 => (intro u hSu; (try dsimp only at hSu); go_simp; try with_reducible rfl)
  simp only [Act.put, List.setIfInBounds_toArray, List.set_cons_zero, List.set_cons_succ]
  refine' wpL_take 11 41 rfl rfl (by kernel_rfl) (by kernel_rfl) (by kernel_rfl) (by kernel_rfl) (fun _ _ _ h => h) (by rfl) hS ?y41 ?r41
  case y41 => (intro u hSu; (try dsimp only at hSu); go_simp; try with_reducible rfl)
  simp only [Act.put, List.setIfInBounds_toArray, List.set_cons_zero, List.set_cons_succ]
  refine' wpL_take 12 42 rfl rfl (by kernel_rfl) (by kernel_rfl) (by kernel_rfl) (by kernel_rfl) (fun _ _ _ h => h) (by rfl) hS ?y42 ?r42
  case y42 => (intro u hSu; (try dsimp only at hSu); go_simp; try with_reducible rfl)
  simp only [Act.put, List.setIfInBounds_toArray, List.set_cons_zero, List.set_cons_succ]
  refine' wpL_take 13 43 rfl rfl (by kernel_rfl) (by kernel_rfl) (by kernel_rfl) (by kernel_rfl) (fun _ _ _ h => h) (by rfl) hS ?y43 ?r43
  case y43 => (intro u hSu; (try dsimp only at hSu); go_simp; try with_reducible rfl)
  simp only [Act.put, List.setIfInBounds_toArray, List.set_cons_zero, List.set_cons_succ]
  refine' wpL_take 14 44 rfl rfl (by kernel_rfl) (by kernel_rfl) (by kernel_rfl) (by kernel_rfl) (fun _ _ _ h => h) (by rfl) hS ?y44 ?r44
  case y44 => (intro u hSu; (try dsimp only at hSu); go_simp; try with_reducible rfl)
  simp only [Act.put, List.setIfInBounds_toArray, List.set_cons_zero, List.set_cons_succ]
  refine' wpL_take 15 45 rfl rfl (by kernel_rfl) (by kernel_rfl) (by kernel_rfl) (by kernel_rfl) (fun _ _ _ h => h) (by rfl) hS ?y45 ?r45
  case y45 => (intro u hSu; exact yields_slice_lo 31 25 Try.underlying31 (.tmp 42) (.tmp 44) rfl (hrun u))
  simp only [Act.put, List.setIfInBounds_toArray, List.set_cons_zero, List.set_cons_succ]
  refine wpL_one (i := 1) (by kernel_rfl) rfl (fun K hK => ?_)
  rw [if_pos (by rfl)]
  go_simp
  refine hK.out _ _ (fun _ => hca) ?_
  clear hK K
  refine wpL_one (i := 8) (by kernel_rfl) rfl (fun K hK => ?_)
  refine step_append_eq rfl 31 (.tmp 31) (.tmp 37) rfl _ _ _ (by rfl) (by rfl) HR1.out ?_
  refine hK.out _ _ (fun _ => kc4) ?_
  simp only [Act.put, List.setIfInBounds_toArray]
  clear hK K
  refine wpL_one (i := 16) (by kernel_rfl) rfl (fun K hK => ?_)
  refine step_append_eq rfl 31 (.tmp 38) (.tmp 45) rfl _ _ _ (by rfl) (by rfl) HR2.out ?_
  refine hK.out _ _ (fun _ => kc5) ?_
  simp only [Act.put]
  clear hK K
  refine wpL_one (i := 17) (by kernel_rfl) rfl (fun K hK => ?_)
  rw [if_pos (by rfl)]
  go_simp
  refine hK.out _ _ (fun _ => kc5) ?_
  clear hK K
  refine wpL_one (i := 18) (by kernel_rfl) rfl (fun K hK => ?_)
  rw [if_pos (by rfl)]
  go_simp
  refine hK.out _ _ (fun _ => kc5) ?_
  clear hK K
  refine wpL_one (i := 19) (by kernel_rfl) rfl (fun K hK => ?_)
  rw [if_pos (by rfl)]
  go_simp
  refine hK.out _ _ (fun e => absurd rfl e) ?_
  clear hK K
  refine wpL_done (by kernel_rfl) ?_ _
  have h0 := HA.out w (Below.refl _ _)
  have z1 := hs1.out
  have z3 := hb3.size
  have z31 := (ho3.belowTo hb2 (Nat.le_refl _)).size
  have hrb := h0.q.lt
  have HX : Hid (Dx w (W5.setCell ⟨rb, 0, none⟩ (.slice a5 (k + C.length) c5)) B rb (.slice (some ⟨g, 0, none⟩) n cap) (.slice a5 (k + C.length) c5) (A ++ e0 :: C) (A ++ C)) :=
    (h3.swap (by have := h3.lo rb (Or.inl (Or.inl rfl)); have := h3.hi rb (Or.inl (Or.inl rfl)); omega) hb5 hR5 (fun e he => by rcases List.mem_append.1 he with h | h; exact List.mem_append_left _ h; exact List.mem_append_right _ (List.mem_cons_of_mem _ h)) (by rw [List.length_append, ← HK.out]; omega)).pre hb3
  have HU : Hid (∀ q, (Value.slice a5 (k + C.length) c5).ownBlock = some q → w3.heap.size ≤ q) := fun q hq => (hR5.lt q hq).1
  have c35 := (c3.below hb5 c3.lt).keep (w' := W5.setCell ⟨rb, 0, none⟩ (.slice a5 (k + C.length) c5)) (Below.heap_setCell _ _ _ _ (by show w1.heap.size ≠ rb; omega))
  have c15 := (c13.below hb5 c13.lt).keep (w' := W5.setCell ⟨rb, 0, none⟩ (.slice a5 (k + C.length) c5)) (Below.heap_setCell _ _ _ _ (by show w.heap.size ≠ rb; omega))
  have HZ := hid_into (And.intro z1 (And.intro z3 (And.intro z31 hrb)))
  have H0 := hid_into h0
  clear h0 z1 z3 z31 hrb h3 hR5 hb5 c3 c13 hca hS hrun HR1 HR2 hkn
  go_wp2_with (first
    | (have := c35; refine wpList_load_rw rfl 25 (.tmp 7) rfl w1.heap.size _ _ _ (by rfl) c35 Try.underlying25 rfl size25 ?_; clear c35)
    | (have := c15; refine wpList_store_rw rfl 25 (.tmp 4) (.tmp 49) rfl w.heap.size _ [.int .i64 e0.m.fr, .int .i64 e0.m.to, .slice e0.ao e0.n e0.c] _ (by rfl) (by rfl) c15 size25 rfl (msC_one _ _ _ _ _) ?_; intro w6 c6 ho6)
    | fail)
  have h0 := H0.out
  obtain ⟨z1, z3, z31, hrb⟩ := HZ.out
  have he0 := h0.d e0 (by simp)
  have hno : ¬ Df rb (.slice a5 (k + C.length) c5) (A ++ C) w.heap.size := fun hN => by
    rcases hN with (hN | hN) | ⟨e, he, hN⟩
    · omega
    · have := HU.out _ hN; omega
    · have he2 : e ∈ A ++ e0 :: C := by rcases List.mem_append.1 he with h | h; exact List.mem_append_left _ h; exact List.mem_append_right _ (List.mem_cons_of_mem _ h)
      have := ((h0.d e he2).2 _ hN).2.1
      omega
  have hxf := HX.out.aside ho6 (Nat.le_refl _) hno
  refine ret_row2 rfl (by rfl) rfl c6 Try.underlying25 rfl size25 ⟨rfl, _, hxf, hxf.g.bs he0.1 fun q hq hN => ?_, fun q hq => ?_⟩
  · obtain ⟨a1, a2, a3, a4⟩ := he0.2 q hq
    rcases hN with rfl | hN
    · exact a3 rfl
    · exact a4 hN
  · obtain ⟨a1, a2, a3, a4⟩ := he0.2 q hq
    exact ⟨a1, a2, a3, fun e => by have := HU.out _ e; omega⟩
end Go.Proofs.Ytnfmhcljncdkgaa
