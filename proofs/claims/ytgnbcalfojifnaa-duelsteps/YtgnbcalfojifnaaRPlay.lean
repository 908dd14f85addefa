/-
  The document's Play.
-/
import Derived.Test.YtgnbcalfojifnaaRStates
namespace Go.Proofs.Ytgnbcalfojifnaa
open Go.RowKit
set_option maxRecDepth 20000 in
set_option maxHeartbeats 4000000 in
theorem rPlay_any (cv : Value) (l : List Ii) (cap fuel seed : Int) (iv : Value) (ps : List (Int × Int)) (w : World) (hl : Ls w cv l) (hp : Ps w iv ps) (hin : InP ps) (hseed : 0 ≤ seed ∧ seed < 4294967296) (hK : ps.length < 100000) :
    Calls Try.prog 11 #[gameV cv cap fuel, .int .u32 seed, iv] w fun e w' => e = .returned (.tuple #[.agg (stV (playE l cap fuel seed ps).1).toArray, .int .i64 (playE l cap fuel seed ps).2]) ∧ Below w.heap.size w w' := by
  obtain ⟨os, hos⟩ : ∃ os, os = zeroS := ⟨_, rfl⟩
  have HZ : Hid ((Try.prog.info? 30).bind (·.zero) = some (.agg os.toArray)) := by rw [hos]; exact Try.zero30
  have HSo : Hid ((Try.prog.info? 30).map (·.size) = some os.length) := by rw [hos]; exact Try.size30
  have HBz : Hid (Try.prog.built 30 [] = some os.toArray) := by rw [hos]; exact built28z
  have HOo : Hid (∀ v ∈ os, v.oneCell' = true) := by rw [hos]; exact hid_into (by decide)
  obtain ⟨ao, cp, rfl, hm⟩ := hl.len
  have C13 : Hid (∀ W, Below w.heap.size w W → Calls Try.prog 13 #[.agg #[.slice ao l.length cp, .int .i64 cap, .int .i64 fuel], .int .u32 seed, iv] W fun e w' => StsP W l cap fuel seed ps e w') := fun W hW => rStates_any _ l cap fuel seed iv ps W (hl.below hW) (hp.below hW) hin hseed hK
  unfold gameV
  by_cases hc : chkG l cap fuel = 0
  · have hgl := goS_last l cap fuel ps (startS seed)
    have hgn := goS_len l cap fuel ps (startS seed)
    have hwf : (endG l cap fuel (startS seed) ps).Wf := (endG_gs hc ps _ hin (startS_gs seed cap hseed (chkG_cap hc).2.1)).wf
    rw [show playE l cap fuel seed ps = (endG l cap fuel (startS seed) ps, 0) from if_pos hc]
    have C13' : Hid (∀ W, Below w.heap.size w W → Calls Try.prog 13 #[.agg #[.slice ao l.length cp, .int .i64 cap, .int .i64 fuel], .int .u32 seed, iv] W fun e w' => ∃ v, e = .returned (.tuple #[v, .int .i64 0]) ∧ So w' W.heap.size v (startS seed :: goS l cap fuel (startS seed) ps) ∧ Below W.heap.size W w') := fun W hW => by
      have h := C13.out W hW
      unfold StsP at h
      rw [hc, if_pos rfl] at h
      exact h
    clear C13
    obtain ⟨m, hm1⟩ : ∃ m, (startS seed :: goS l cap fuel (startS seed) ps).length = m + 1 := ⟨_, rfl⟩
    have hm2 : m < 100000 := by rw [List.length_cons] at hm1; omega
    have HXm : Hid ((startS seed :: goS l cap fuel (startS seed) ps)[m]? = some (endG l cap fuel (startS seed) ps)) := by
      rw [← hgl, List.getLast_eq_getElem, List.getElem?_eq_getElem (by omega)]
      refine hid_into ?_
      congr 1
      congr 1
      omega
    have HN := st_size hwf
    have HLn : Hid (os.length = (stV (endG l cap fuel (startS seed) ps)).length) := by rw [hos, (stV_c hwf).len]; exact hid_into rfl
    have HOn := st_one hwf
    generalize startS seed :: goS l cap fuel (startS seed) ps = X at C13' hm1 HXm
    generalize endG l cap fuel (startS seed) ps = E at HXm HN HLn HOn
    have Hm1 := hid_into hm1
    obtain ⟨es, hes⟩ : ∃ es, es = stV E := ⟨_, rfl⟩
    rw [← hes] at HN HLn HOn ⊢
    have HES := hid_into hes
    have hm3 : (m : Int) < 100000 := by omega
    clear hes hm1 hwf hgl hgn hc hos hl hp hin hm hseed hK
    go_enter Try.func11, Try.ntmps11
    go_wp2_with (first
      | (refine wpList_alloc_row rfl 30 rfl os HZ.out ?_; intro W2 hr2 B2 HS2; have H := hid_into (Fh.make hr2 B2); have k0 := H.out.g.cell 0; have k1 := H.out.g.cell 1; have k2 := H.out.g.cell 2; simp only [List.getElem?_cons_zero, List.getElem?_cons_succ] at k0 k1 k2; clear hr2 B2 HS2)
      | (go_at_call 13; refine (C13'.out _ H.out.below).mono ?_; rintro e w3 ⟨v, rfl, hO, B3⟩; have H3 := hid_into (H.out.next B3); obtain ⟨av, cx, rfl⟩ := hO.form; obtain ⟨g, hav, _, _, hrg⟩ := hO.at m E HXm.out; subst hav; have HRg := hid_into hrg; have hXl := Hm1.out; rw [hXl]; clear hXl hrg hO B3 H k0 k1 k2 C13')
      | (refine wpList_load_mid rfl 30 (.tmp 25) rfl g (m * 20) rfl es _ ?_ Try.underlying30 rfl HN.out ?_; (rw [HES.out]; exact HRg.out))
      | (refine wpList_store_rw rfl 30 (.tmp 6) (.tmp 26) rfl (w.heap.size + 1) os es 30 rfl rfl ?_ HSo HLn HOn.out ?_; exact H3.out.r; intro W4 hr4 O4))
    exact ret_row2 rfl rfl rfl hr4 Try.underlying30 rfl HN ⟨rfl, H3.out.below.trans (O4.below (by omega))⟩
  · rw [show playE l cap fuel seed ps = (noS, chkG l cap fuel) from if_neg hc]
    show Calls Try.prog 11 _ w fun e w' => e = .returned (.tuple #[.agg zeroS.toArray, .int .i64 (chkG l cap fuel)]) ∧ Below w.heap.size w w'
    rw [← hos]
    have C13' : Hid (∀ W, Below w.heap.size w W → Calls Try.prog 13 #[.agg #[.slice ao l.length cp, .int .i64 cap, .int .i64 fuel], .int .u32 seed, iv] W fun e w' => ∃ v, e = .returned (.tuple #[v, .int .i64 (chkG l cap fuel)]) ∧ So w' W.heap.size v [] ∧ Below W.heap.size W w') := fun W hW => by
      have h := C13.out W hW
      unfold StsP at h
      rw [if_neg hc] at h
      exact h
    clear C13
    generalize chkG l cap fuel = E at hc C13' ⊢
    have hE' : (E != 0) = true := by simp [hc]
    clear hos hl hp hin hm hseed
    go_enter Try.func11, Try.ntmps11
    go_wp2_with (first
      | (refine wpList_alloc_row rfl 30 rfl os HZ.out ?_; intro W2 hr2 B2 HS2; have H := hid_into (Fh.make hr2 B2); have k0 := H.out.g.cell 0; have k1 := H.out.g.cell 1; have k2 := H.out.g.cell 2; simp only [List.getElem?_cons_zero, List.getElem?_cons_succ] at k0 k1 k2; clear hr2 B2 HS2)
      | (go_at_call 13; refine (C13'.out _ H.out.below).mono ?_; rintro e w3 ⟨v, rfl, hO, B3⟩; have H3 := hid_into (H.out.next B3); obtain ⟨av, cx, rfl⟩ := hO.form; clear hO B3 H k0 k1 k2 C13')
      | (refine wpList_build_row rfl 30 #[] rfl os [] rfl HBz.out ?_)
      | (refine wpList_store_rw rfl 30 (.tmp 6) (.tmp 19) rfl (w.heap.size + 1) os os 30 rfl rfl ?_ HSo (hid_into rfl) HOo.out ?_; exact H3.out.r; intro W4 hr4 O4))
    exact ret_row2 rfl rfl rfl hr4 Try.underlying30 rfl HSo ⟨rfl, H3.out.below.trans (O4.below (by omega))⟩
end Go.Proofs.Ytgnbcalfojifnaa
