/-
  Play and States, by contracts.
-/
import Derived.Test.YtgnbcalfojifnaaFold
namespace Go.Proofs.Ytgnbcalfojifnaa
open Go.RowKit
/-- What is shown to nobody. -/
theorem shown_none {s : Sp} (W : World) : Calls Try.prog 23 #[.agg (stV s).toArray] W fun e W' => e = .returned (.tuple #[]) ∧ Below W.heap.size W W' := by
  generalize stV s = cs
  go_enter Try.func23, Try.ntmps23
  go_wp2_with (refine wpList_box_row rfl 30 (.tmp 0) rfl cs rfl ?_; intro W1 hc1 B1 HS1)
  go_end0
  exact ⟨rfl, B1⟩
theorem show_none (K : Nat) : Show none 23 #[] (fun _ own _ => own = none) K where
  enters := enters_of Try.func23 (by kernel_rfl) rfl
  lt := fun {W own xs} h k hk => by
    rcases hk with hk | hk
    · cases hk
    · rw [h] at hk; cases hk
  keep := fun {W W' own xs} h _ => h
  call := fun {W own xs s} h _ _ => (shown_none W).mono fun e W' he => ⟨he.1, none, rfl, Grows.of_below he.2 _ (fun k h1 h2 => absurd h1 (by omega)), Or.inl h.symm⟩
/-- Where States keeps what it is shown. -/
def Kept (lb base : Nat) (W : World) (own : Option Nat) (xs : List Sp) : Prop := ∃ v, Cw W lb [v] 36 ∧ So W base v xs ∧ v.ownBlock = own ∧ lb < base
set_option maxRecDepth 20000 in
set_option maxHeartbeats 1000000 in
theorem shown_list {lb base : Nat} {W : World} {own : Option Nat} {xs : List Sp} {s : Sp} (h : Kept lb base W own xs) (hs : s.Wf) (hK : xs.length < 100000) (hb : base ≤ W.heap.size) : Calls Try.prog 24 #[.agg (stV s).toArray, .pointer (some ⟨lb, 0, none⟩)] W fun e W' => e = .returned (.tuple #[]) ∧ ∃ own', Kept lb base W' own' (xs ++ [s]) ∧ Grows (fun k => some lb = some k ∨ own = some k) W W' ∧ (own' = own ∨ ∃ k, own' = some k ∧ W.heap.size ≤ k) := by
  obtain ⟨v, hc, ho, hv, hlb⟩ := h
  have HR := hid_into (fun W => run_one_st W hs)
  have HN : Hid ((Try.prog.info? 30).map (·.size) = some (stV s).length) := by rw [(stV_c hs).len]; exact Try.size30
  obtain ⟨ao, cap, rfl⟩ := ho.form
  have c0 := hc.cell 0
  have hlt := hc.lt
  simp only [List.getElem?_cons_zero] at c0
  have HC := hid_into hc
  have HO := hid_into ho
  have HS := hid_into hs
  have HV := hid_into hv
  obtain ⟨cs, hcs⟩ : ∃ cs, cs = stV s := ⟨_, rfl⟩
  rw [← hcs] at HR HN ⊢
  have HCs := hid_into hcs
  clear hc ho hs hv hcs
  go_enter Try.func24, Try.ntmps24
  go_wp2_with (first
    | (refine wpList_box_row rfl 30 (.tmp 0) rfl cs rfl ?_; intro W1 hc1 B1 HS1; have d0 := (B1.cell (p := ⟨lb, 0, none⟩) hlt).trans c0)
    | (refine wpList_load_rw rfl 30 (.tmp 2) rfl W.heap.size cs 30 _ rfl ?_ Try.underlying30 rfl HN ?_; exact hc1)
    | (refine wpList_one_st rfl (.tmp 4) rfl cs HR rfl ?_; intro W2 hc2 B2 HS2; have H2 := hid_into (HO.out.below (B1.trans (B2.mono B1.size))); have hC2 : Hid (Cw W2 W1.heap.size (stV s) 30) := by rw [← HCs.out]; exact hc2)
    | (at_builtin; refine wpList_append_st _ rfl (.tmp 3) (.tmp 5) rfl base (.slice ao xs.length cap) xs rfl ?_ W1.heap.size 1 s ?_ rfl ?_ ?_ ?_ ?_; exact H2.out; exact HS.out; exact hC2.out; omega; (have := B1.size; have := B2.size; omega); intro ao3 cap3 W3 hO3 hG3 hown3; have HC3 := hid_into (((HC.out.below B1 hlt).below B2 (by have := B1.size; omega)).keep (hG3.block lb (by have := B1.size; have := B2.size; omega) fun e => by have := HO.out.lt lb e.symm; omega)); have e0 := HC3.out.cell 0; have e1 := HC3.out.frozen 0; simp only [List.getElem?_cons_zero] at e0))
  go_end0
  have hW2 : W.heap.size ≤ W2.heap.size := Nat.le_trans B1.size B2.size
  have hO4 : Only lb W3 (W3.setCell ⟨lb, 0, none⟩ (.slice ao3 (xs.length + 1) cap3)) := Only.set _ _ _ _
  refine ⟨rfl, (Value.slice ao3 (xs.length + 1) cap3).ownBlock, ⟨_, HC3.out.set 0 _, ?_, rfl, hlb⟩, ?_, ?_⟩
  · refine hO3.only hO4 fun e => ?_
    have := hO3.lt lb e
    omega
  · have g2 : Grows (fun k => some lb = some k ∨ own = some k) W W2 := Grows.of_below (B1.trans (B2.mono B1.size)) _ (fun k h1 h2 => absurd h1 (by omega))
    have g3 : Grows (fun k => some lb = some k ∨ own = some k) W2 W3 := Grows.grownBy hG3 fun k hk => Or.inr (by rw [← HV.out]; exact hk)
    have g4 : Grows (fun k => some lb = some k ∨ own = some k) W3 (W3.setCell ⟨lb, 0, none⟩ (.slice ao3 (xs.length + 1) cap3)) := Grows.setCell _ _ _ (Or.inl rfl)
    exact (g2.trans g3 fun k hk => Or.inl hk).trans g4 fun k hk => Or.inl hk
  · rcases hown3 with e | e
    · exact Or.inl (by rw [e, HV.out])
    · exact Or.inr ⟨_, e, hW2⟩
theorem show_list (lb : Nat) : Show (some lb) 24 #[.pointer (some ⟨lb, 0, none⟩)] (Kept lb (lb + 1)) 100000 where
  enters := enters_of Try.func24 (by kernel_rfl) rfl
  lt := fun {W own xs} h k hk => by
    obtain ⟨v, hc, ho, hv, _⟩ := h
    rcases hk with hk | hk
    · cases hk; exact hc.lt
    · exact (ho.lt k (hv.trans hk)).2
  keep := fun {W W' own xs} h hk => by
    obtain ⟨v, hc, ho, hv, hl⟩ := h
    exact ⟨v, hc.keep (hk lb (Or.inl rfl)), ho.keep (fun k h1 _ => hk k (Or.inr (hv.symm.trans h1))), hv, hl⟩
  call := fun {W own xs s} h hs hK => shown_list h hs hK (by obtain ⟨v, hc, _⟩ := h; exact hc.lt)
/-- Play. -/
def playE (l : List Ii) (cap fuel seed : Int) (ps : List (Int × Int)) : Sp × Int := if chkG l cap fuel = 0 then (endG l cap fuel (startS seed) ps, 0) else (noS, chkG l cap fuel)
theorem Grows.belowNone {w W : World} (h : Grows (fun k => none = some k) w W) : Below w.heap.size w W := Grows.below h (Nat.le_refl _) (fun k hk => (by cases hk))
theorem playE_wf {l : List Ii} {cap fuel seed : Int} {ps : List (Int × Int)} (hin : InP ps) (hseed : 0 ≤ seed ∧ seed < 4294967296) : (playE l cap fuel seed ps).1.Wf := by
  unfold playE
  split
  · rename_i h
    exact (endG_gs h ps _ hin (startS_gs seed cap hseed (chkG_cap h).2.1)).wf
  · exact noS_wf
set_option maxRecDepth 20000 in
set_option maxHeartbeats 1000000 in
theorem Play_any (cv : Value) (l : List Ii) (cap fuel seed : Int) (iv : Value) (ps : List (Int × Int)) (w : World) (hl : Ls w cv l) (hp : Ps w iv ps) (hin : InP ps) (hseed : 0 ≤ seed ∧ seed < 4294967296) :
    Calls Try.prog 10 #[gameV cv cap fuel, .int .u32 seed, iv] w fun e w' => e = .returned (.tuple #[.agg (stV (playE l cap fuel seed ps).1).toArray, .int .i64 (playE l cap fuel seed ps).2]) ∧ Below w.heap.size w w' := by
  obtain ⟨os, hos⟩ : ∃ os, os = zeroS := ⟨_, rfl⟩
  have HZ : Hid ((Try.prog.info? 30).bind (·.zero) = some (.agg os.toArray)) := by rw [hos]; exact Try.zero30
  have HSo : Hid ((Try.prog.info? 30).map (·.size) = some os.length) := by rw [hos]; exact Try.size30
  obtain ⟨ao, cp, rfl, hm⟩ := hl.len
  have hwf := playE_wf (l := l) (cap := cap) (fuel := fuel) hin hseed
  have CF : Hid (∀ W, Below w.heap.size w W → Calls Try.prog 21 #[.agg #[.slice ao l.length cp, .int .i64 cap, .int .i64 fuel], .int .u32 seed, iv, .func (.func 22) #[] #[], .func (.func 23) #[] #[]] W fun e w' => e = .returned (.tuple #[.agg (stV (playE l cap fuel seed ps).1).toArray, .int .i64 (playE l cap fuel seed ps).2]) ∧ Below W.heap.size W w') := fun W hW => by
    by_cases hc : chkG l cap fuel = 0
    · have h := fold_any (show_none (ps.length + 1)) _ l cap fuel seed iv ps W (fun V hV => (hl.below hW).below hV.belowNone) (fun V hV => (hp.below hW).below hV.belowNone) hin hseed hc rfl (Nat.le_refl _)
      rw [show playE l cap fuel seed ps = (endG l cap fuel (startS seed) ps, 0) from if_pos hc]
      exact h.mono fun e w' he => ⟨he.1, he.2.2.belowNone⟩
    · have h := fold_bad (g := 23) (caps := #[]) _ l cap fuel seed iv W (hl.below hW) hc
      rw [show playE l cap fuel seed ps = (noS, chkG l cap fuel) from if_neg hc]
      exact h
  have HN : Hid ((Try.prog.info? 30).map (·.size) = some (stV (playE l cap fuel seed ps).1).length) := by rw [(stV_c hwf).len]; exact Try.size30
  have HL : Hid (os.length = (stV (playE l cap fuel seed ps).1).length) := by rw [hos, (stV_c hwf).len]; exact hid_into rfl
  have HO := hid_into (stV_c hwf).one
  generalize stV (playE l cap fuel seed ps).1 = es at CF HN HL HO ⊢
  generalize (playE l cap fuel seed ps).2 = er at CF ⊢
  clear hos hl hp hm hin hseed hwf
  unfold gameV
  go_enter Try.func10, Try.ntmps10
  go_wp2_with (first
    | (refine wpList_alloc_row rfl 30 rfl os HZ.out ?_; intro W2 hr2 B2 HS2; have H := hid_into (Fh.make hr2 B2); have k0 := H.out.g.cell 0; have k1 := H.out.g.cell 1; have k2 := H.out.g.cell 2; simp only [List.getElem?_cons_zero, List.getElem?_cons_succ] at k0 k1 k2; clear hr2 B2 HS2)
    | (go_at_call 21; refine (CF.out _ H.out.below).mono ?_; rintro e w3 ⟨rfl, B3⟩; have H3 := hid_into (H.out.next B3); clear B3 H k0 k1 k2)
    | (refine wpList_store_rw rfl 30 (.tmp 6) (.tmp 12) rfl (w.heap.size + 1) os es 30 rfl rfl ?_ HSo HL HO.out ?_; exact H3.out.r; intro W4 hr4 O4))
  exact ret_row2 rfl rfl rfl hr4 Try.underlying30 rfl HN ⟨rfl, H3.out.below.trans (O4.below (by omega))⟩
/-- What States answers: a row of its own. -/
def StsP (w : World) (l : List Ii) (cap fuel seed : Int) (ps : List (Int × Int)) (e : Ending) (w' : World) : Prop :=
  ∃ v, e = .returned (.tuple #[v, .int .i64 (chkG l cap fuel)]) ∧ So w' w.heap.size v (if chkG l cap fuel = 0 then startS seed :: goS l cap fuel (startS seed) ps else []) ∧ Below w.heap.size w w'
set_option maxRecDepth 20000 in
set_option maxHeartbeats 1000000 in
theorem States_any (cv : Value) (l : List Ii) (cap fuel seed : Int) (iv : Value) (ps : List (Int × Int)) (w : World) (hl : Ls w cv l) (hp : Ps w iv ps) (hin : InP ps) (hseed : 0 ≤ seed ∧ seed < 4294967296) (hK : ps.length < 100000) :
    Calls Try.prog 12 #[gameV cv cap fuel, .int .u32 seed, iv] w fun e w' => StsP w l cap fuel seed ps e w' := by
  obtain ⟨os, hos⟩ : ∃ os, os = zeroS := ⟨_, rfl⟩
  have HZ : Hid ((Try.prog.info? 30).bind (·.zero) = some (.agg os.toArray)) := by rw [hos]; exact Try.zero30
  have HSo : Hid ((Try.prog.info? 30).map (·.size) = some os.length) := by rw [hos]; exact Try.size30
  obtain ⟨ao, cp, rfl, hm⟩ := hl.len
  have C2 : Cw ((w.alloc (.cells #[.slice ao l.length cp, .int .i64 cap, .int .i64 fuel] 24)).alloc (.cells #[.slice none 0 0] 36)) (w.heap.size + 1) [.slice none 0 0] 36 := by
    have h := Cw.new (w.alloc (.cells #[.slice ao l.length cp, .int .i64 cap, .int .i64 fuel] 24)) [.slice none 0 0] 36
    rw [World.size_alloc] at h
    exact h
  have B2 : Below w.heap.size w ((w.alloc (.cells #[.slice ao l.length cp, .int .i64 cap, .int .i64 fuel] 24)).alloc (.cells #[.slice none 0 0] 36)) := ((Below.refl w.heap.size w).alloc (Nat.le_refl _) _).alloc (by rw [World.size_alloc]; omega) _
  by_cases hc : chkG l cap fuel = 0
  · have CF := fold_any (show_list (w.heap.size + 1)) (.slice ao l.length cp) l cap fuel seed iv ps ((w.alloc (.cells #[.slice ao l.length cp, .int .i64 cap, .int .i64 fuel] 24)).alloc (.cells #[.slice none 0 0] 36)) (fun V hV => hl.below (B2.trans (Grows.below hV B2.size (fun k hk => by cases hk; omega)))) (fun V hV => hp.below (B2.trans (Grows.below hV B2.size (fun k hk => by cases hk; omega)))) hin hseed hc ⟨.slice none 0 0, C2, So.nil _ _, rfl, by omega⟩ (by omega)
    have hwf : (endG l cap fuel (startS seed) ps).Wf := (endG_gs hc ps _ hin (startS_gs seed cap hseed (chkG_cap hc).2.1)).wf
    unfold StsP
    rw [hc, if_pos rfl]
    have HL : Hid (os.length = (stV (endG l cap fuel (startS seed) ps)).length) := by rw [hos, (stV_c hwf).len]; exact hid_into rfl
    have HO := hid_into (stV_c hwf).one
    generalize stV (endG l cap fuel (startS seed) ps) = es at CF HL HO
    generalize startS seed :: goS l cap fuel (startS seed) ps = X at CF ⊢
    have HCF := hid_into CF
    have HB2 := hid_into B2
    clear hos hl hp hm hin hseed hwf hc CF C2 B2
    unfold gameV at HCF ⊢
    go_enter Try.func12, Try.ntmps12
    go_wp2_with (first
      | (go_at_call 21; refine HCF.out.mono ?_; rintro e w3 ⟨rfl, ⟨own, ⟨v, hc3, ho3, hv3, _⟩, _⟩, hG3⟩; clear HCF; have HB3 : Hid (Below w.heap.size w w3) := HB2.out.trans (Grows.below hG3 HB2.out.size (fun k hk => by cases hk; omega)); obtain ⟨ao3, cp3, rfl⟩ := ho3.form; have HC3 := hid_into hc3; have HO3 := hid_into ho3; clear hc3 ho3 hG3 hv3)
      | (refine wpList_alloc_row rfl 30 rfl os HZ.out ?_; intro W4 hn4 B4 HS4; have hlt4 : Hid (w.heap.size + 1 < w3.heap.size) := HC3.out.lt; have hown4 : Hid ((Value.slice ao3 X.length cp3).ownBlock ≠ some w3.heap.size) := fun e => by have := HO3.out.lt _ e; omega)
      | (refine wpList_store_rw rfl 30 (.tmp 9) (.tmp 17) rfl w3.heap.size os es 30 rfl rfl ?_ HSo HL HO.out ?_; exact hn4; intro W5 hn5 O5; have HC5 := hid_into (O5.cw (HC3.out.below B4 hlt4.out) (by have := hlt4.out; omega)); have HO5 := hid_into ((HO3.out.below B4).only O5 hown4.out); have HB5 : Hid (Below w.heap.size w W5) := (HB3.out.trans (B4.mono HB3.out.size)).trans (O5.below HB3.out.size); have c5 := HC5.out.cell 0; simp only [List.getElem?_cons_zero] at c5; clear HC3 HO3 HB3 B4 O5 hn5 hn4 HS4 HC5))
    go_ret2
    exact ⟨_, rfl, HO5.out.mono (by omega), HB5.out⟩
  · have CF := fold_bad (g := 24) (caps := #[.pointer (some ⟨w.heap.size + 1, 0, none⟩)]) (.slice ao l.length cp) l cap fuel seed iv ((w.alloc (.cells #[.slice ao l.length cp, .int .i64 cap, .int .i64 fuel] 24)).alloc (.cells #[.slice none 0 0] 36)) (hl.below B2) hc
    unfold StsP
    rw [if_neg hc]
    have hE' : (chkG l cap fuel != 0) = true := by simp [hc]
    have HOo : Hid (∀ v ∈ os, v.oneCell' = true) := by rw [hos]; exact hid_into (by decide)
    rw [← hos] at CF
    generalize chkG l cap fuel = E at CF hE' ⊢
    have HCF := hid_into CF
    have HB2 := hid_into B2
    clear hos hl hp hm hin hseed hc CF C2 B2
    unfold gameV at HCF ⊢
    go_enter Try.func12, Try.ntmps12
    go_wp2_with (first
      | (go_at_call 21; refine HCF.out.mono ?_; rintro e w3 ⟨rfl, B3⟩; clear HCF; have HB3 : Hid (Below w.heap.size w w3) := HB2.out.trans (B3.mono HB2.out.size); clear B3)
      | (refine wpList_alloc_row rfl 30 rfl os HZ.out ?_; intro W4 hn4 B4 HS4)
      | (refine wpList_store_rw rfl 30 (.tmp 9) (.tmp 17) rfl w3.heap.size os os 30 rfl rfl ?_ HSo (hid_into rfl) HOo.out ?_; exact hn4; intro W5 hn5 O5; have HB5 : Hid (Below w.heap.size w W5) := (HB3.out.trans (B4.mono HB3.out.size)).trans (O5.below HB3.out.size); clear HB3 B4 O5 hn5 hn4 HS4))
    go_ret2
    exact ⟨_, rfl, So.nil _ _, HB5.out⟩
end Go.Proofs.Ytgnbcalfojifnaa
