/-
  The fold: a game gone through frame by frame, each state shown to a function that is handed in.
-/
import Derived.Test.YtgnbcalfojifnaaStRows
import Derived.Deep.DeepCutAuto
namespace Go.Proofs.Ytgnbcalfojifnaa
open Go.RowKit
/-- The function that is shown each state: what it keeps is J, in block lb and in the block 'own'. -/
structure Show (lb : Option Nat) (g : Nat) (caps : Array Value) (J : World → Option Nat → List Sp → Prop) (K : Nat) : Prop where
  enters : ∀ args w, (callFunc g args).run Try.prog w = .ok (.enter g args) w
  lt : ∀ {W own xs}, J W own xs → ∀ k, lb = some k ∨ own = some k → k < W.heap.size
  keep : ∀ {W W' own xs}, J W own xs → (∀ k, lb = some k ∨ own = some k → W'.heap[k]? = W.heap[k]?) → J W' own xs
  call : ∀ {W own xs s}, J W own xs → s.Wf → xs.length < K → Calls Try.prog g (#[.agg (stV s).toArray] ++ caps) W fun e W' => e = .returned (.tuple #[]) ∧ ∃ own', J W' own' (xs ++ [s]) ∧ Grows (fun k => lb = some k ∨ own = some k) W W' ∧ (own' = own ∨ ∃ k, own' = some k ∧ W.heap.size ≤ k)
theorem Show.below {lb : Option Nat} {g : Nat} {caps : Array Value} {J : World → Option Nat → List Sp → Prop} {K : Nat} (h : Show lb g caps J K) {W W' : World} {own : Option Nat} {xs : List Sp} (hJ : J W own xs) (hb : Below W.heap.size W W') : J W' own xs := h.keep hJ fun k hk => hb.block k (h.lt hJ k hk)
/-- The variables of the fold: the game, the answer, the state. -/
structure Fl (w W : World) (lb own : Option Nat) (b : Nat) (cv : Value) (cap fuel : Int) (os cs : List Value) : Prop where
  g : Cw W w.heap.size [cv, .int .i64 cap, .int .i64 fuel] 24
  r : Cw W (w.heap.size + 1) os 30
  s : Cw W b cs 30
  hb : w.heap.size + 2 ≤ b
  gr : Grows (fun k => lb = some k) w W
  hlb : ∀ k, lb = some k → k < w.heap.size
  own : ∀ k, own = some k → w.heap.size + 2 ≤ k ∧ k ≠ b
section
variable {w W W' : World} {lb own : Option Nat} {b : Nat} {cv : Value} {cap fuel : Int} {os cs : List Value}
theorem Fl.next (h : Fl w W lb own b cv cap fuel os cs) (hb : Below W.heap.size W W') : Fl w W' lb own b cv cap fuel os cs :=
  ⟨h.g.below hb h.g.lt, h.r.below hb h.r.lt, h.s.below hb h.s.lt, h.hb, h.gr.trans (Grows.of_below hb (fun k => lb = some k) (fun k h1 h2 => absurd h1 (by omega))) (fun k hk => Or.inl hk), h.hlb, h.own⟩
theorem Fl.set (h : Fl w W lb own b cv cap fuel os cs) {ds : List Value} (hO : Only b W W') (hc : Cw W' b ds 30) : Fl w W' lb own b cv cap fuel os ds :=
  ⟨hO.cw h.g (by have := h.hb; omega), hO.cw h.r (by have := h.hb; omega), hc, h.hb, h.gr.trans (F' := fun k => k = b) ⟨hO.os, hO.tape, hO.output, by rw [hO.size]; exact Nat.le_refl _, fun k _ hk => hO.block k hk⟩ (fun k hk => Or.inr (by have := h.hb; omega)), h.hlb, h.own⟩
theorem Fl.onlyNew (h : Fl w W lb own b cv cap fuel os cs) {n : Nat} (hO : Only n W W') (h1 : w.heap.size + 1 < n) (h2 : b < n) : Fl w W' lb own b cv cap fuel os cs :=
  ⟨hO.cw h.g (by omega), hO.cw h.r (by omega), hO.cw h.s (by omega), h.hb, h.gr.trans (F' := fun k => k = n) ⟨hO.os, hO.tape, hO.output, by rw [hO.size]; exact Nat.le_refl _, fun k _ hk => hO.block k hk⟩ (fun k hk => Or.inr (by omega)), h.hlb, h.own⟩
theorem Fl.show (h : Fl w W lb own b cv cap fuel os cs) {own' : Option Nat} (hG : Grows (fun k => lb = some k ∨ own = some k) W W') (ho : own' = own ∨ ∃ k, own' = some k ∧ W.heap.size ≤ k) : Fl w W' lb own' b cv cap fuel os cs := by
  have hn : ∀ k, w.heap.size ≤ k → k < w.heap.size + 2 ∨ k = b → ¬ (lb = some k ∨ own = some k) := by
    intro k h1 h2 h3
    rcases h3 with h3 | h3
    · have := h.hlb k h3; omega
    · have := h.own k h3; omega
  have h1 := h.g.lt
  have h2 := h.r.lt
  have h3 := h.s.lt
  have h4 := h.hb
  refine ⟨h.g.keep (hG.block _ h1 (hn _ (Nat.le_refl _) (by omega))), h.r.keep (hG.block _ h2 (hn _ (by omega) (by omega))), h.s.keep (hG.block _ h3 (hn _ (by omega) (Or.inr rfl))), h4, h.gr.trans hG fun k hk => ?_, h.hlb, fun k hk => ?_⟩
  · rcases hk with hk | hk
    · exact Or.inl hk
    · exact Or.inr (by have := h.own k hk; omega)
  · rcases ho with rfl | ⟨j, rfl, hj⟩
    · exact h.own k hk
    · cases hk; omega
end
theorem Try.size43 : (Try.prog.info? 43).map (·.size) = some 2 := by kernel_rfl
/-- The game and the answer, ahead of the state. -/
structure Fh (w W : World) (cv : Value) (cap fuel : Int) (os : List Value) : Prop where
  g : Cw W w.heap.size [cv, .int .i64 cap, .int .i64 fuel] 24
  r : Cw W (w.heap.size + 1) os 30
  below : Below w.heap.size w W
theorem Fh.make {w W2 : World} {cv : Value} {cap fuel : Int} {os : List Value} (hr2 : Cw W2 (w.alloc (.cells #[cv, .int .i64 cap, .int .i64 fuel] 24)).heap.size os 30) (B2 : Below (w.alloc (.cells #[cv, .int .i64 cap, .int .i64 fuel] 24)).heap.size (w.alloc (.cells #[cv, .int .i64 cap, .int .i64 fuel] 24)) W2) : Fh w W2 cv cap fuel os := by
  rw [World.size_alloc] at hr2
  have g1 : Cw W2 w.heap.size [cv, .int .i64 cap, .int .i64 fuel] 24 := (Cw.new w [cv, .int .i64 cap, .int .i64 fuel] 24).below B2 (by rw [World.size_alloc]; omega)
  have b0 : Below w.heap.size w (w.alloc (.cells #[cv, .int .i64 cap, .int .i64 fuel] 24)) := (Below.refl _ _).alloc (Nat.le_refl _) _
  exact ⟨g1, hr2, b0.trans (B2.mono b0.size)⟩
theorem Fh.next {w W W' : World} {cv : Value} {cap fuel : Int} {os : List Value} (h : Fh w W cv cap fuel os) (hb : Below W.heap.size W W') : Fh w W' cv cap fuel os := ⟨h.g.below hb h.g.lt, h.r.below hb h.r.lt, h.below.trans (hb.mono h.below.size)⟩
theorem Fh.fl {w W W1 W2 : World} {lb : Option Nat} {cv : Value} {cap fuel : Int} {os cs : List Value} (h : Fh w W cv cap fuel os) (B1 : Below W.heap.size W W1) (hO : Only W.heap.size W1 W2) (hs : Cw W2 W.heap.size cs 30) (hlb : ∀ k, lb = some k → k < w.heap.size) : Fl w W2 lb none W.heap.size cv cap fuel os cs := by
  have h1 := h.next B1
  have hlt := h.r.lt
  have b2 := h1.below.trans (hO.below h.below.size)
  exact ⟨hO.cw h1.g (by omega), hO.cw h1.r (by omega), hs, by omega, Grows.of_below b2 _ (fun k h1 h2 => absurd h1 (by omega)), hlb, fun k hk => (by cases hk)⟩
set_option maxRecDepth 20000 in
set_option maxHeartbeats 4000000 in
theorem fold_bad {g : Nat} {caps : Array Value} (cv : Value) (l : List Ii) (cap fuel seed : Int) (iv : Value) (w : World) (hl : Ls w cv l) (hc : chkG l cap fuel ≠ 0) :
    Calls Try.prog 21 #[gameV cv cap fuel, .int .u32 seed, iv, .func (.func 22) #[] #[], .func (.func g) #[] caps] w fun e w' => e = .returned (.tuple #[.agg zeroS.toArray, .int .i64 (chkG l cap fuel)]) ∧ Below w.heap.size w w' := by
  obtain ⟨os, hos⟩ : ∃ os, os = zeroS := ⟨_, rfl⟩
  rw [← hos]
  have HZ : Hid ((Try.prog.info? 30).bind (·.zero) = some (.agg os.toArray)) := by rw [hos]; exact Try.zero30
  have HSo : Hid ((Try.prog.info? 30).map (·.size) = some os.length) := by rw [hos]; exact Try.size30
  have HOo : Hid (∀ v ∈ os, v.oneCell' = true) := by rw [hos]; exact hid_into (by decide)
  have HBz : Hid (Try.prog.built 30 [] = some os.toArray) := by rw [hos]; exact built28z
  obtain ⟨ao, cp, rfl, hm⟩ := hl.len
  have CC : Hid (∀ W, Below w.heap.size w W → Calls Try.prog 30 #[.agg #[.slice ao l.length cp, .int .i64 cap, .int .i64 fuel]] W fun e w' => e = .returned (.int .i64 (chkG l cap fuel)) ∧ Below W.heap.size W w') := fun W hW => Check_any _ l cap fuel W (hl.below hW)
  generalize chkG l cap fuel = E at hc CC ⊢
  have hE' : (E != 0) = true := by simp [hc]
  clear hos hl hm
  unfold gameV
  go_enter Try.func21, Try.ntmps21
  go_wp2_with (first
    | (refine wpList_alloc_row rfl 30 rfl os HZ.out ?_; intro W2 hr2 B2 HS2; have H := hid_into (Fh.make hr2 B2); have k0 := H.out.g.cell 0; have k1 := H.out.g.cell 1; have k2 := H.out.g.cell 2; simp only [List.getElem?_cons_zero, List.getElem?_cons_succ] at k0 k1 k2; clear hr2 B2 HS2)
    | (go_at_call 30; refine (CC.out _ H.out.below).mono ?_; rintro e w3 ⟨rfl, B3⟩; have H3 := hid_into (H.out.next B3); clear B3)
    | (refine wpList_build_row rfl 30 #[] rfl os [] rfl HBz.out ?_)
    | (refine wpList_store_rw rfl 30 (.tmp 10) (.tmp 22) rfl (w.heap.size + 1) os os 30 rfl rfl ?_ HSo (hid_into rfl) HOo.out ?_; exact H3.out.r; intro W4 hr4 O4))
  exact ret_row2 rfl rfl rfl hr4 Try.underlying30 rfl HSo ⟨rfl, H3.out.below.trans (O4.below (by omega))⟩
set_option maxRecDepth 20000 in
set_option maxHeartbeats 4000000 in
theorem fold_any {lb : Option Nat} {g : Nat} {caps : Array Value} {J : World → Option Nat → List Sp → Prop} {K : Nat} (hS : Show lb g caps J K) (cv : Value) (l : List Ii) (cap fuel seed : Int) (iv : Value) (ps : List (Int × Int)) (w : World)
    (hl : ∀ W, Grows (fun k => lb = some k) w W → Ls W cv l) (hp : ∀ W, Grows (fun k => lb = some k) w W → Ps W iv ps) (hin : InP ps) (hseed : 0 ≤ seed ∧ seed < 4294967296) (hc : chkG l cap fuel = 0) (hJ : J w none []) (hK : ps.length + 1 ≤ K) :
    Calls Try.prog 21 #[gameV cv cap fuel, .int .u32 seed, iv, .func (.func 22) #[] #[], .func (.func g) #[] caps] w fun e w' => e = .returned (.tuple #[.agg (stV (endG l cap fuel (startS seed) ps)).toArray, .int .i64 0]) ∧ (∃ own, J w' own (startS seed :: goS l cap fuel (startS seed) ps) ∧ ∀ k, own = some k → w.heap.size ≤ k) ∧ Grows (fun k => lb = some k) w w' := by
  obtain ⟨os, hos⟩ : ∃ os, os = zeroS := ⟨_, rfl⟩
  have HZ : Hid ((Try.prog.info? 30).bind (·.zero) = some (.agg os.toArray)) := by rw [hos]; exact Try.zero30
  have HSo : Hid ((Try.prog.info? 30).map (·.size) = some os.length) := by rw [hos]; exact Try.size30
  have hG0 := Grows.refl (fun k => lb = some k) w
  obtain ⟨ao, cp, rfl, hm⟩ := (hl w hG0).len
  obtain ⟨ai, ci, rfl, hmi⟩ := (hp w hG0).len
  have hcap := chkG_cap hc
  have CC : Hid (∀ W, Below w.heap.size w W → Calls Try.prog 30 #[.agg #[.slice ao l.length cp, .int .i64 cap, .int .i64 fuel]] W fun e w' => e = .returned (.int .i64 0) ∧ Below W.heap.size W w') := fun W hW => by have h := Check_any _ l cap fuel W ((hl w hG0).below hW); rw [hc] at h; exact h
  have CS : ∀ W, Calls Try.prog 31 #[.int .u32 seed] W fun e w' => e = .returned (.agg (stV (startS seed)).toArray) ∧ Below W.heap.size W w' := fun W => Start_any seed W
  have CT : Hid (∀ W s p, Grows (fun k => lb = some k) w W → Gs cap s → s.over = false → p ∈ ps → Calls Try.prog 22 #[.agg #[.slice ao l.length cp, .int .i64 cap, .int .i64 fuel], .agg (stV s).toArray, .agg #[.int .u16 p.1, .int .u16 p.2]] W fun e w' => e = .returned (.tuple #[.agg (stV (stepS l cap fuel s p.1 p.2)).toArray, .int .i64 0]) ∧ Below W.heap.size W w' ∧ Gs cap (stepS l cap fuel s p.1 p.2)) := fun W s p hW hs ho hpp => by
    have h := Step_any _ l cap fuel s p.1 p.2 W (hl W hW) hs.wf (hin p hpp).1 (hin p hpp).2
    have hE := hs.stepE hc ho
    rw [show stepF l cap fuel s p.1 p.2 = (stepS l cap fuel s p.1 p.2, 0) from if_pos hE] at h
    exact h.mono fun e w' he => ⟨he.1, he.2, stepS_facts hs.wf (hin p hpp).1 (hin p hpp).2 hE⟩
  have CH : Hid (∀ W own xs s, J W own xs → Gs cap s → xs.length < K → Calls Try.prog g (#[.agg (stV s).toArray] ++ caps) W fun e W' => e = .returned (.tuple #[]) ∧ ∃ own', J W' own' (xs ++ [s]) ∧ Grows (fun k => lb = some k ∨ own = some k) W W' ∧ (own' = own ∨ ∃ k, own' = some k ∧ W.heap.size ≤ k)) := fun W own xs s h1 h2 h3 => hS.call h1 h2.wf h3
  have HG0 := hid_into (startS_gs seed cap hseed hcap.2.1)
  have HLen : Hid (∀ s, Gs cap s → (stV s).length = os.length) := fun s h => by rw [hos, (stV_c h.wf).len]; rfl
  have HOne : Hid (∀ s, Gs cap s → ∀ v ∈ stV s, v.oneCell' = true) := fun s h => (stV_c h.wf).one
  have HSt : Hid (∀ s, Gs cap s → StC (stV s) s) := fun s h => stV_c h.wf
  have HP : Hid (∀ W, Grows (fun k => lb = some k) w W → Ps W (.slice ai ps.length ci) ps) := hp
  have HJ := hid_into hJ
  have HSh := hid_into hS
  have hent := hS.enters
  have HLb : Hid (∀ k, lb = some k → k < w.heap.size) := fun k hk => hS.lt hJ k (Or.inl hk)
  have HE : Hid (endG l cap fuel (startS seed) (ps.drop 0) = endG l cap fuel (startS seed) ps) := rfl
  have HX : Hid ([startS seed] ++ goS l cap fuel (startS seed) (ps.drop 0) = startS seed :: goS l cap fuel (startS seed) ps) := rfl
  generalize endG l cap fuel (startS seed) ps = E at HE ⊢
  generalize startS seed :: goS l cap fuel (startS seed) ps = X at HX ⊢
  generalize startS seed = s0 at CS HG0 HE HX
  have HN0 : Hid ((Try.prog.info? 30).map (·.size) = some (stV s0).length) := by rw [HLen.out _ HG0.out]; exact HSo
  have HL0 : Hid (os.length = (stV s0).length) := (HLen.out _ HG0.out).symm
  have HO0 := hid_into (HOne.out _ HG0.out)
  clear hos hl hp hm hin hc hJ hS hG0 hcap
  unfold gameV
  go_enter Try.func21, Try.ntmps21
  have tok1 : True := trivial
  go_wp2_with (first
    | (have _t := tok1; refine wpList_alloc_row rfl 30 rfl os HZ.out ?_; intro W2 hr2 B2 HS2; clear tok1; have H := hid_into (Fh.make hr2 B2); have k0 := H.out.g.cell 0; have k1 := H.out.g.cell 1; have k2 := H.out.g.cell 2; simp only [List.getElem?_cons_zero, List.getElem?_cons_succ] at k0 k1 k2; clear hr2 B2 HS2)
    | (go_at_call 30; refine (CC.out _ H.out.below).mono ?_; rintro e w3 ⟨rfl, B3⟩; have H3 := hid_into (H.out.next B3); clear B3 H k0 k1 k2)
    | (go_at_call 31; refine (CS _).mono ?_; rintro e w4 ⟨rfl, B4⟩; have H4 := hid_into (H3.out.next B4); clear B4 H3)
    | (refine wpList_alloc_row rfl 30 rfl os HZ.out ?_; intro W5 hs5 B5 HS5)
    | (refine wpList_store_rw rfl 30 (.tmp 13) (.tmp 25) rfl w4.heap.size os (stV s0) 30 rfl rfl ?_ HSo HL0 HO0.out ?_; exact hs5; intro W6 hs6 O6; have F := hid_into (H4.out.fl B5 O6 hs6 HLb.out); have J6 := hid_into (HSh.out.keep HJ.out fun k hk => by rcases hk with hk | hk; exact (O6.block k (by have := HLb.out k hk; have := H4.out.below.size; omega)).trans ((B5.block k (by have := HLb.out k hk; have := H4.out.below.size; omega)).trans (H4.out.below.block k (HLb.out k hk))); cases hk); clear B5 O6 hs6 HS5 hs5 H4)
    | (refine wpList_load_rw rfl 30 (.tmp 13) rfl w4.heap.size (stV s0) 30 _ rfl ?_ Try.underlying30 rfl HN0 ?_; exact F.out.s))
  refine (CH.out _ _ _ _ J6.out HG0.out (by simp only [List.length_nil]; omega)).mono ?_
  rintro e w7 ⟨rfl, own7, hJ7, hG7, ho7⟩
  have F7 := hid_into (F.out.show hG7 ho7)
  have J7 : Hid (J w7 own7 [s0]) := hJ7
  clear F J6 hJ7 hG7 ho7 CC CS HN0 HL0 HO0 _t
  go_wp2_with fail
  go_loopw [31] (fun i wr => ∃ (k : Nat) (s : Sp) (own : Option Nat) (xs : List Sp), k ≤ ps.length ∧ i = .int .i64 (k : Int) ∧ Hid (Gs cap s) ∧ Hid (endG l cap fuel s (ps.drop k) = E) ∧ Hid (xs ++ goS l cap fuel s (ps.drop k) = X) ∧ Hid (xs.length = k + 1) ∧ Hid (J wr own xs) ∧ Hid (Fl w wr lb own w4.heap.size (.slice ao l.length cp) cap fuel os (stV s))) (fun i _ => ps.length - (intOf i).toNat)
  case atStart => exact ⟨0, s0, own7, [s0], Nat.zero_le _, rfl, HG0.out, HE.out, HX.out, rfl, J7.out, F7.out⟩
  case round =>
    clear HE HX HG0 F7 J7
    obtain ⟨k, s, own, xs, hk, rfl, HG, HE, HX, HXl, HJr, HF⟩ := hrel
    by_cases hlt : k < ps.length
    · obtain ⟨p, hpk⟩ : ∃ p, ps[k]? = some p := ⟨_, List.getElem?_eq_getElem hlt⟩
      obtain ⟨ga, off, hao, x0, x1⟩ := (HP.out wr HF.out.gr).at (Below.refl wr.heap.size wr) (Nat.le_refl _) _ _ hpk
      subst hao
      have c18 := (HF.out.s.cell 18).trans (HSt.out s HG.out).over
      have hb1 := HF.out.s.lt
      have hb2 := HF.out.g.lt
      have k0 := HF.out.g.cell 0
      have k1 := HF.out.g.cell 1
      have k2 := HF.out.g.cell 2
      simp only [List.getElem?_cons_zero, List.getElem?_cons_succ] at k0 k1 k2
      have HNs : Hid ((Try.prog.info? 30).map (·.size) = some (stV s).length) := by rw [HLen.out _ HG.out]; exact HSo
      have B8 : Hid (Below wr.heap.size wr (wr.alloc (.cells #[.int .u16 p.1, .int .u16 p.2] 43))) := (Below.refl _ _).alloc (Nat.le_refl _) _
      have F8 := hid_into (HF.out.next B8.out)
      cases hov : s.over with
      | true =>
        rw [hov] at c18
        have HE2 := hid_into (HE.out.symm.trans (endG_over (ps.drop k) hov))
        have HX2 := hid_into (HX.out.symm.trans (by rw [goS_over (ps.drop k) hov, List.append_nil]))
        have hlr : Hid (w.heap.size + 1 < wr.heap.size) := HF.out.r.lt
        have HLs : Hid (os.length = (stV s).length) := (HLen.out _ HG.out).symm
        have HOs := hid_into (HOne.out _ HG.out)
        go_wp2_with (first
          | (refine wpList_load_rw rfl 30 (.tmp 13) rfl w4.heap.size (stV s) 30 _ rfl ?_ Try.underlying30 rfl HNs ?_; exact F8.out.s)
          | (refine wpList_store_rw rfl 30 (.tmp 10) (.tmp 54) rfl (w.heap.size + 1) os (stV s) 30 rfl rfl ?_ HSo HLs HOs.out ?_; exact F8.out.r; intro W9 hr9 O9))
        rw [HE2.out, HX2.out]
        refine ret_row2 rfl rfl rfl hr9 Try.underlying30 rfl HNs ⟨rfl, ⟨own, ?_, fun j hj => by have := HF.out.own j hj; omega⟩, F8.out.gr.trans (F' := fun j => j = w.heap.size + 1) ⟨O9.os, O9.tape, O9.output, by rw [O9.size]; exact Nat.le_refl _, fun j _ hj => O9.block j hj⟩ (fun j hj => Or.inr (by omega))⟩
        refine HSh.out.keep HJr.out fun j hj => ?_
        have h1 := HSh.out.lt HJr.out j hj
        have h2 : j ≠ w.heap.size + 1 := by
          rcases hj with hj | hj
          · have := HLb.out j hj; omega
          · have := HF.out.own j hj; omega
        exact (O9.block j h2).trans (B8.out.block j h1)
      | false =>
        rw [hov] at c18
        have hpm : p ∈ ps := List.mem_of_getElem? hpk
        have hk64 : (k : Int) + 1 ≤ 9223372036854775807 := by have h9 := hmi; unfold maxLen at h9; omega
        have HT := hid_into (hid_into (CT.out _ s p F8.out.gr HG.out hov hpm)).out
        have HE2 := hid_into ((endG_step hpk hov).symm.trans HE.out)
        have HX2 := hid_into ((congrArg (xs ++ ·) (goS_step (l := l) (cap := cap) (fuel := fuel) hpk hov)).symm.trans HX.out)
        generalize stepS l cap fuel s p.1 p.2 = t at HT HE2 HX2
        go_wp2_with (first
          | (refine wpList_load_rw rfl 30 (.tmp 13) rfl w4.heap.size (stV s) 30 _ rfl ?_ Try.underlying30 rfl HNs ?_; exact F8.out.s))
        refine HT.out.mono ?_
        rintro e w9 ⟨rfl, B9, hGt⟩
        have F9 := hid_into (F8.out.next B9)
        have J9 := hid_into (HSh.out.below (HSh.out.below HJr.out B8.out) B9)
        have HGt := hid_into hGt
        have HNt : Hid ((Try.prog.info? 30).map (·.size) = some (stV t).length) := by rw [HLen.out _ hGt]; exact HSo
        have HLt : Hid (os.length = (stV t).length) := (HLen.out _ hGt).symm
        have HLst : Hid ((stV s).length = (stV t).length) := (HLen.out _ HG.out).trans (HLen.out _ hGt).symm
        have HOt := hid_into (HOne.out _ hGt)
        clear B9 hGt HT HJr HF F8 B8 k0 k1 k2 x0 x1 c18 hb1 hb2
        go_wp2_with (first
          | (refine wpList_alloc_row rfl 30 rfl os HZ.out ?_; intro W10 hn10 B10 HS10; have F10 := hid_into (F9.out.next B10); have J10 := hid_into (HSh.out.below J9.out B10); have hlt10 : Hid (w4.heap.size < w9.heap.size ∧ w.heap.size + 1 < w9.heap.size) := ⟨F9.out.s.lt, F9.out.r.lt⟩; have hown10 : Hid (∀ j, lb = some j ∨ own = some j → j < w9.heap.size) := fun j hj => HSh.out.lt J9.out j hj; clear F9 J9 B10 HS10)
          | (refine wpList_store_rw rfl 30 (.tmp 16) (.tmp 43) rfl w9.heap.size os (stV t) 30 rfl rfl ?_ HSo HLt HOt.out ?_; exact hn10; intro W11 hn11 O11; have F11 := hid_into (F10.out.onlyNew O11 hlt10.out.2 hlt10.out.1); have J11 := hid_into (HSh.out.keep J10.out fun j hj => O11.block j (by have := hown10.out j hj; omega)); clear F10 J10 O11 hn10)
          | (refine wpList_load_rw rfl 30 (.tmp 16) rfl w9.heap.size (stV t) 30 _ rfl ?_ Try.underlying30 rfl HNt ?_; exact hn11)
          | (refine wpList_store_rw rfl 30 (.tmp 13) (.tmp 49) rfl w4.heap.size (stV s) (stV t) 30 rfl rfl ?_ HNs HLst HOt.out ?_; exact F11.out.s; intro W12 hs12 O12; have F12 := hid_into (F11.out.set O12 hs12); have J12 := hid_into (HSh.out.keep J11.out fun j hj => O12.block j (by rcases hj with hj | hj; have := HLb.out j hj; have := F11.out.hb; omega; exact (F11.out.own j hj).2)); clear F11 J11 O12 hs12 hn11)
          | (refine wpList_load_rw rfl 30 (.tmp 13) rfl w4.heap.size (stV t) 30 _ rfl ?_ Try.underlying30 rfl HNt ?_; exact F12.out.s))
        refine (CH.out _ _ _ _ J12.out HGt.out (by rw [HXl.out]; omega)).mono ?_
        rintro e w13 ⟨rfl, own13, hJ13, hG13, ho13⟩
        have F13 := hid_into (F12.out.show hG13 ho13)
        have J13 := hid_into hJ13
        clear F12 J12 hJ13 hG13 ho13 HX HE
        go_wp2_with fail
        go_roundw
        case rel =>
          refine ⟨k + 1, t, own13, xs ++ [t], by omega, by go_num, HGt.out, HE2.out, ?_, ?_, J13.out, F13.out⟩
          · show (xs ++ [t]) ++ _ = _
            rw [List.append_assoc]; exact HX2.out
          · show (xs ++ [t]).length = _
            rw [List.length_append, HXl.out]; rfl
        case measure => simp [intOf]; omega
    · have HE2 := hid_into (HE.out.symm.trans (endG_end (by omega)))
      have HX2 := hid_into (HX.out.symm.trans (by rw [goS_end (by omega), List.append_nil]))
      have HLs : Hid (os.length = (stV s).length) := (HLen.out _ HG.out).symm
      have HOs := hid_into (HOne.out _ HG.out)
      have HNs : Hid ((Try.prog.info? 30).map (·.size) = some (stV s).length) := by rw [HLen.out _ HG.out]; exact HSo
      go_wp2_with (first
          | (refine wpList_load_rw rfl 30 (.tmp 13) rfl w4.heap.size (stV s) 30 _ rfl ?_ Try.underlying30 rfl HNs ?_; exact HF.out.s)
          | (refine wpList_store_rw rfl 30 (.tmp 10) (.tmp 54) rfl (w.heap.size + 1) os (stV s) 30 rfl rfl ?_ HSo HLs HOs.out ?_; exact HF.out.r; intro W9 hr9 O9))
      rw [HE2.out, HX2.out]
      refine ret_row2 rfl rfl rfl hr9 Try.underlying30 rfl HNs ⟨rfl, ⟨own, ?_, fun j hj => by have := HF.out.own j hj; omega⟩, HF.out.gr.trans (F' := fun j => j = w.heap.size + 1) ⟨O9.os, O9.tape, O9.output, by rw [O9.size]; exact Nat.le_refl _, fun j _ hj => O9.block j hj⟩ (fun j hj => Or.inr (by omega))⟩
      refine HSh.out.keep HJr.out fun j hj => ?_
      have h2 : j ≠ w.heap.size + 1 := by
        rcases hj with hj | hj
        · have := HLb.out j hj; omega
        · have := HF.out.own j hj; omega
      exact O9.block j h2
end Go.Proofs.Ytgnbcalfojifnaa
