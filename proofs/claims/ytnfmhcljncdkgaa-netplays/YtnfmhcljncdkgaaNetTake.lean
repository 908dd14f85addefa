/-
  The program's Net: take, New, Send, by contracts.
-/
import Derived.Test.YtnfmhcljncdkgaaNetLay
import Derived.Lib.ConvBytes
namespace Go.Proofs.Ytnfmhcljncdkgaa
open Go.RowKit
/-- Where a message of a row stands. -/
theorem Rm.at {w : World} {base : Nat} {v : Value} {A C : List Mg} {m : Mg} (h : Rm w base v (A ++ m :: C)) : ∃ g cap, v = .slice (some ⟨g, 0, none⟩) (A.length + C.length + 1) cap ∧ g < w.heap.size ∧ w.rangeAt g (A.length * 3) (ltC m) ∧ A.length + C.length + 1 ≤ cap ∧ cap ≤ maxLen := by
  obtain ⟨g, cap, rest, rfl, hb, hc, hcl, hlen, hcm⟩ := h.spot (by simp)
  have hlA : (A ++ m :: C).length = A.length + C.length + 1 := by simp; omega
  rw [hlA] at hlen
  refine ⟨g, cap, by rw [hlA], hc.lt, fun j u hu => ?_, hlen, hcm⟩
  rw [hc.cell]
  have e : flL (A ++ m :: C) ++ rest = flL A ++ (ltC m ++ (flL C ++ rest)) := by rw [flL_app, flL_cons]; simp only [List.append_assoc]
  have hl := flL_len A
  have hj := (List.getElem?_eq_some_iff.1 hu).1
  rw [e, List.getElem?_append_right (by omega), hl, Nat.add_sub_cancel_left, List.getElem?_append_left hj]
  exact hu
theorem size59 : (Try.prog.info? 59).map (·.size) = some 3 := by kernel_rfl
theorem zero59' : (Try.prog.info? 59).bind (·.zero) = some (.agg [.int .i64 0, .int .i64 0, .string ⟨#[]⟩].toArray) := by kernel_rfl
theorem ltC_one (m : Mg) : ∀ u ∈ [Value.int .i64 m.fr, .int .i64 m.to, .string (strOfNums m.d)], u.oneCell' = true := fun u hu => KL.one m u hu
theorem Rm.at3 {w : World} {base g n cap : Nat} {A C : List Mg} {m : Mg} (h : Rm w base (.slice (some ⟨g, 0, none⟩) n cap) (A ++ m :: C)) : w.cell? ⟨g, A.length * 3, none⟩ = some (.int .i64 m.fr) ∧ w.cell? ⟨g, A.length * 3 + 1, none⟩ = some (.int .i64 m.to) ∧ w.cell? ⟨g, A.length * 3 + 2, none⟩ = some (.string (strOfNums m.d)) := by
  obtain ⟨g', cap', hv, _, hr, _⟩ := h.at
  simp only [Value.slice.injEq, Option.some.injEq, Addr.mk.injEq, and_true] at hv
  obtain ⟨rfl, _⟩ := hv
  exact ⟨hr 0 _ rfl, hr 1 _ rfl, hr 2 _ rfl⟩
theorem Nx.aside {w w1 w' : World} {B nb b : Nat} {v v' : Value} {L : List Mg} (h : Nx w w1 B nb v v' L) (ho : Only b w1 w') (hb : w.heap.size ≤ b) (hn : ¬ Nf nb v' b) : Nx w w' B nb v v' L :=
  ⟨h.n.keep fun k hk => ho.block k fun e => hn (e ▸ hk), ⟨ho.os.trans h.g.os, ho.tape.trans h.g.tape, ho.output.trans h.g.output, by rw [ho.size]; exact h.g.size, fun k hk hf => (ho.block k (by omega)).trans (h.g.block k hk hf)⟩, h.o⟩
theorem Below.cw_of {w w' : World} {g : Nat} {cs : List Value} {t : TypeId} (h : Below w.heap.size w w') (hc : Cw w g cs t) : Cw w' g cs t := hc.below h hc.lt
theorem Only.belowTo {g B : Nat} {w0 w w' : World} (h : Only g w w') (hb : Below B w0 w) (hg : B ≤ g) : Below B w0 w' := hb.trans (h.below hg)
set_option maxRecDepth 20000 in
set_option maxHeartbeats 2000000 in
theorem take_any {w : World} {B nb : Nat} {v : Value} {A C : List Mg} {m : Mg} (h : Np w B nb v (A ++ m :: C)) : Calls Try.prog 31 #[.pointer (some ⟨nb, 0, none⟩), .int .i64 (A.length : Int)] w fun e w' => e = .returned (.agg #[.int .i64 m.fr, .int .i64 m.to, .string (strOfNums m.d)]) ∧ ∃ v', Nx w w' B nb v v' (A ++ C) := by
  have hle := h.le
  have hlA : (A ++ m :: C).length = A.length + C.length + 1 := by simp; omega
  rw [hlA] at hle
  have nbl := h.q.lt
  obtain ⟨g, cap, hv, hgl, _, hcap, hcm⟩ := h.r.at
  have HA : Hid (∀ W, Below w.heap.size w W → Np W B nb v (A ++ m :: C)) := fun W hb => h.keep fun k hk => hb.block k (h.hi k hk)
  have HS : Hid (∀ {w1 w2 : World} {v' : Value}, Below w.heap.size w w1 → Gr (fun k => v.ownBlock = some k) w1 w2 → Rm w2 B v' (A ++ C) → v'.ownBlock = v.ownBlock → Nx w (w2.setCell ⟨nb, 0, none⟩ v') B nb v v' (A ++ C) ∧ Cw w2 nb [v] 56 ∧ (∀ b, w.heap.size ≤ b → ¬ Nf nb v' b) ∧ (∀ b cs t, w.heap.size ≤ b → Cw w1 b cs t → Cw w2 b cs t)) := fun {w1 w2 v'} hb hg hr ho =>
    have n1 := h.keep (w' := w1) fun k hk => hb.block k (h.hi k hk)
    have hN : ∀ b, w.heap.size ≤ b → ¬ Nf nb v b := fun b hb hk => by have := h.hi b hk; omega
    ⟨(n1.store hg hr (fun k hk => Or.inl (ho ▸ hk)) (by rw [List.length_append]; omega)).pre (Gr.of_below hb _ (fun k hk h2 => by omega)), hg.cw n1.q n1.ne, fun b hb hk => hN b hb (hk.imp id (fun h => ho ▸ h)), fun b cs t hb hc => hg.cw hc fun e => hN b hb (Or.inr e)⟩
  have HN : Hid (A.length + C.length ≤ 1024) := by show _ ≤ _; omega
  have q1 : (A.length : Int) < ((A.length + C.length + 1 : Nat) : Int) := by omega
  subst hv
  clear h hle hlA
  unfold maxLen at hcm
  generalize hb0 : A.length + C.length + 1 = n at *
  go_enter Try.func31, Try.ntmps31
  go_wp2_with (first
    | (have := c1; refine wpList_alloc_row rfl 59 rfl [.int .i64 0, .int .i64 0, .string ⟨#[]⟩] zero59' ?_; intro W2 c2 hb2 hs2; have hb20 : Below w.heap.size w W2 := hb1.trans (hb2.mono hb1.size); have c12 := Below.cw_of hb2 c1)
    | (refine wpList_alloc_row rfl 59 rfl [.int .i64 0, .int .i64 0, .string ⟨#[]⟩] zero59' ?_; intro W1 c1 hb1 hs1; have k1 := (HA.out W1 hb1).slot; obtain ⟨m0, m1, m2⟩ := (HA.out W1 hb1).r.at3)
    | (have := c2; refine wpList_store_rw rfl 59 (.tmp 5) (.tmp 12) rfl W1.heap.size _ [.int .i64 m.fr, .int .i64 m.to, .string (strOfNums m.d)] _ (by rfl) (by rfl) c2 size59 rfl (ltC_one m) ?_; intro W3 c3 ho3; have hb3 : Below w.heap.size w W3 := ho3.belowTo hb20 hb1.size; have c13 := ho3.cw c12 (by have := hs1.out; omega); have k3 := (HA.out W3 hb3).slot; have n3 := HA.out W3 hb3; clear c2 c12)
    | (go_at_call 36; refine (delete_any n3.r HN.out).mono ?_; rintro e W4 ⟨v', rfl, hr4, ho4, hg4, hs4⟩; obtain ⟨HX, c4, hN4, hk4⟩ := HS.out hb3 hg4 hr4 ho4; have c34 := hk4 _ _ _ (by exact hb1.size) c3; have c14 := hk4 _ _ _ (Nat.le_refl _) c13; have k4 := c4.cell 0; have f4 := c4.frozen 0; simp only [List.getElem?_cons_zero] at k4; obtain ⟨ao', cap', hv'⟩ := Rm.form hr4; rw [List.length_append] at hv'; subst hv'; have hz1 := hb1.size; have c35 := c34.keep (w' := W4.setCell ⟨nb, 0, none⟩ (.slice ao' (A.length + C.length) cap')) (Below.heap_setCell _ _ _ _ (by show W1.heap.size ≠ nb; omega)); have c15 := c14.keep (w' := W4.setCell ⟨nb, 0, none⟩ (.slice ao' (A.length + C.length) cap')) (Below.heap_setCell _ _ _ _ (by show w.heap.size ≠ nb; omega)))
    | (have := c35; refine wpList_load_rw rfl 59 (.tmp 5) rfl W1.heap.size _ _ _ (by rfl) c35 Try.underlying59 rfl size59 ?_)
    | (have := c15; refine wpList_store_rw rfl 59 (.tmp 4) (.tmp 24) rfl w.heap.size _ [.int .i64 m.fr, .int .i64 m.to, .string (strOfNums m.d)] _ (by rfl) (by rfl) c15 size59 rfl (ltC_one m) ?_; intro W5 c5 ho5)
    | fail)

  refine ret_row rfl (by rfl) rfl c5 Try.underlying59 rfl size59 ⟨rfl, _, HX.aside ho5 (Nat.le_refl _) (hN4 _ (Nat.le_refl _))⟩
end Go.Proofs.Ytnfmhcljncdkgaa
