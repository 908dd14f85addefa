/-
  Joined from: RbThru, RbLocal, RbLocal2, RbRem, RbRem2.
-/
import Derived.Test.YtbfldcieibdapabGreatM19
import Derived.Test.YtbfldcieibdapabGreatM09
section
/-
  through of a session's step, by a contract.
-/
namespace Go.Proofs.YtbfldcieibdapabGreat
open Go.RowKit
section
variable {w w' : World} {lo hi : Nat} {X : Sx} {G : Gm} {s t : Sa} {a : Nat} {L : List Sp}
theorem Sa.work_work (s : Sa) (a b c d : Int) : (s.work a b).work c d = s.work (a + c) (b + d) := by simp [Sa.work, Int.add_assoc]
theorem Sa.work_zero (s : Sa) : s.work 0 0 = s := by simp [Sa.work]
theorem Up.work {k : Nat} (h : Up s G a L k) (d e : Int) : Up (s.work d e) G a L k := ⟨h.lo, h.hi, h.eq⟩
theorem Up.unwork {k : Nat} {d e : Int} (h : Up (s.work d e) G a L k) : Up s G a L k := ⟨h.lo, h.hi, h.eq⟩
/-- Frames stepped from f on, as far as k; p is the end. -/
structure Tp (w wr : World) (lo hi : Nat) (X : Sx) (G : Gm) (s : Sa) (a f p k : Nat) : Prop where
  ex : ∃ a' L', Sn wr lo hi X G (s.work ((k : Int) - (f : Int)) 0) a' L' ∧ Up s G a' L' k ∧ (f < k → a' + L'.length = k + 1) ∧ (a' = a ∨ a' + 14 < p)
  fr : (s.at G k).frame = (k : Int)
  g : Grows (In2 lo hi) w wr
theorem enters38 : ∀ args w, (callFunc 28 args).run Tryz.prog w = .ok (.enter 28 args) w := enters_of Tryz.func28 (by kernel_rfl) rfl
set_option maxRecDepth 20000 in
set_option maxHeartbeats 4000000 in
theorem through_any (h : Sn w lo hi X G s a L) (hG : G.Ok) (hf : s.Fit G) {f p : Nat} (hfp : f < p) (hp : (p : Int) ≤ G.cap) (hu : Up s G a L f) (hov : (s.at G f).over = false) (hfr : (s.at G f).frame = (f : Int)) (hst : 0 ≤ s.st ∧ s.st < 4611686018427300000) :
    Calls Tryz.prog 27 #[.int .i64 (f : Int), .int .i64 (p : Int), .func (.func 28) #[.pointer (some ⟨X.sb, 0, none⟩)] #[]] w fun e w' => e = .returned (.tuple #[]) ∧ ∃ n, f < n ∧ n ≤ p ∧ (n = p ∨ (s.at G n).over = true) ∧ Tp w w' lo hi X G s a f p n := by
  have hcap := chkG_cap hG.c
  have CS : Hid (∀ wr k, f ≤ k → k < p → (s.at G k).over = false → Tp w wr lo hi X G s a f p k → Calls Tryz.prog 28 #[.pointer (some ⟨X.sb, 0, none⟩), .int .i64 (k : Int)] wr fun e w' => e = .returned (.bool (!(s.at G (k + 1)).over)) ∧ Tp w w' lo hi X G s a f p (k + 1)) := fun wr k h1 h2 ho hT => by
    obtain ⟨⟨a', L', H, hU, hl, hlo⟩, hF, hg⟩ := hT
    refine (step_any H hG (hf.work _ _) (k := k) (by omega) (hU.work _ _) ho hF ⟨by show 0 ≤ s.st + ((k : Int) - f); omega, by show s.st + ((k : Int) - f) < 4611686018427387904; omega⟩).mono ?_
    rintro e w' ⟨rfl, ⟨⟨a2, L2, H2, hU2, hl2, hlo2⟩, hg2⟩⟩
    refine ⟨rfl, ⟨a2, L2, ?_, hU2.unwork, fun _ => hl2, by omega⟩, ?_, gtrans hg hg2⟩
    · rw [Sa.work_work] at H2
      rw [show ((k + 1 : Nat) : Int) - (f : Int) = (k : Int) - f + 1 by omega]
      exact H2
    · rw [Sa.at_go ho, stepS_frame, hF]; omega
  have H0 : Hid (Tp w w lo hi X G s a f p f) := ⟨⟨a, L, by rw [Int.sub_self, Sa.work_zero]; exact h, hu, fun e => by omega, Or.inl rfl⟩, hfr, Grows.refl _ _⟩
  have en := enters38
  have HF := hid_into hov
  clear h hG hf hu hov hfr hst
  have HP : Hid ((p : Int) ≤ 600) := Int.le_trans hp hcap.2.2.1
  have HFP := hid_into hfp
  clear hp hfp hcap
  go_enter Tryz.func27, Tryz.ntmps27
  go_wp2_with fail
  go_loopw [6] (fun x wr => ∃ k : Nat, f ≤ k ∧ k ≤ p ∧ x = .int .i64 (k : Int) ∧ Hid (Tp w wr lo hi X G s a f p k ∧ (s.at G k).over = false)) (fun x _ => p - (intOf x).toNat)
  case atStart => exact ⟨f, Nat.le_refl _, Nat.le_of_lt HFP.out, rfl, ⟨H0.out, HF.out⟩⟩
  case round =>
    obtain ⟨k, h1, h2, rfl, H⟩ := hrel
    by_cases hk : k < p
    · have hk' : (k : Int) < (p : Int) := by omega
      have C := hid_into (CS.out wr k h1 hk H.out.2 H.out.1)
      have hc := HP.out
      cases ho : (s.at G (k + 1)).over with
      | true =>
        rw [ho] at C
        go_wp2_with fail
        refine C.out.mono ?_
        rintro e w2 ⟨rfl, hT⟩
        have HT := hid_into hT
        clear hT
        go_wp2_with fail
        refine bodyPost_ret (results_none rfl _ _ _) rfl ?_
        exact ⟨rfl, k + 1, by omega, by omega, Or.inr ho, HT.out⟩
      | false =>
        rw [ho] at C
        go_wp2_with fail
        refine C.out.mono ?_
        rintro e w2 ⟨rfl, hT⟩
        have HT := hid_into hT
        clear hT
        go_wp2_with fail
        go_roundw
        case rel => exact ⟨k + 1, by omega, by omega, by simp, ⟨HT.out, ho⟩⟩
        case measure => simp [intOf]; omega
    · have hk' : ¬ (k : Int) < (p : Int) := by omega
      go_wp2_with fail
      go_end0
      exact ⟨rfl, k, by have := HFP.out; omega, h2, Or.inl (by omega), H.out.1⟩
end
end Go.Proofs.YtbfldcieibdapabGreat
end

section
/-
  mayHear and Local of a session, by contracts.
-/
namespace Go.Proofs.YtbfldcieibdapabGreat
open Go.RowKit
section
variable {w w' : World} {lo hi : Nat} {X : Sx} {G : Gm} {s t : Sa} {a : Nat} {L : List Sp}
/-- A session, its ring as it should be. -/
structure Se (w : World) (lo hi : Nat) (X : Sx) (G : Gm) (s : Sa) : Prop where
  ex : ∃ a L, Sn w lo hi X G s a L ∧ Ring s G a L
  ok : s.Ok G
  g : G.Ok
theorem Se.below (h : Se w lo hi X G s) (hb : Below w.heap.size w w') : Se w' lo hi X G s := by obtain ⟨⟨a, L, h1, h2⟩, h3, h4⟩ := h; exact ⟨⟨a, L, h1.below hb, h2⟩, h3, h4⟩
theorem Se.sm (h : Se w lo hi X G s) (hb : Sm w w') : Se w' lo hi X G s := by obtain ⟨⟨a, L, h1, h2⟩, h3, h4⟩ := h; exact ⟨⟨a, L, h1.sm hb, h2⟩, h3, h4⟩
theorem Se.keep (h : Se w lo hi X G s) (hk : ∀ k, lo ≤ k → k < hi → w'.heap[k]? = w.heap[k]?) (hz : hi ≤ w'.heap.size) : Se w' lo hi X G s := by obtain ⟨⟨a, L, h1, h2⟩, h3, h4⟩ := h; exact ⟨⟨a, L, h1.keep hk hz, h2⟩, h3, h4⟩
theorem Se.z (h : Se w lo hi X G s) : hi ≤ w.heap.size := by obtain ⟨⟨a, L, h1, h2⟩, h3, h4⟩ := h; exact h1.z
theorem Se.x (h : Se w lo hi X G s) : X.Ok lo hi := by obtain ⟨⟨a, L, h1, h2⟩, h3, h4⟩ := h; exact h1.x
theorem Se.grows (h : Se w lo hi X G s) {F : Nat → Prop} (hb : Grows F w w') (hF : ∀ k, F k → k < lo ∨ hi ≤ k) : Se w' lo hi X G s := by obtain ⟨⟨a, L, h1, h2⟩, h3, h4⟩ := h; exact ⟨⟨a, L, h1.grows hb hF, h2⟩, h3, h4⟩
theorem Se.Now (h : Se w lo hi X G s) : Calls Tryz.prog 12 #[.pointer (some ⟨X.sb, 0, none⟩)] w fun e w' => e = .returned (.agg (stV (s.now G)).toArray) ∧ Below w.heap.size w w' := by obtain ⟨⟨a, L, h1, h2⟩, h3, h4⟩ := h; exact Now_any h1 h2
theorem Se.Sure (h : Se w lo hi X G s) : Calls Tryz.prog 13 #[.pointer (some ⟨X.sb, 0, none⟩)] w fun e w' => e = .returned (.agg (stV (s.sure G)).toArray) ∧ Below w.heap.size w w' := by obtain ⟨⟨a, L, h1, h2⟩, h3, h4⟩ := h; exact Sure_any h1 h2
theorem Se.Work (h : Se w lo hi X G s) : Calls Tryz.prog 17 #[.pointer (some ⟨X.sb, 0, none⟩)] w fun e w' => e = .returned (.tuple #[.int .i64 s.st, .int .i64 s.wr]) ∧ Sm w w' := by obtain ⟨⟨a, L, h1, h2⟩, h3, h4⟩ := h; exact work_any h1
theorem Se.Needs (h : Se w lo hi X G s) : Calls Tryz.prog 14 #[.pointer (some ⟨X.sb, 0, none⟩)] w fun e w' => e = .returned (.int .i64 (In.kn s.h : Int)) ∧ Sm w w' := by obtain ⟨⟨a, L, h1, h2⟩, h3, h4⟩ := h; exact needs_any h1 h3.fit.me
theorem Se.empty (h : Se w lo hi X G s) : Calls Tryz.prog 24 #[.pointer (some ⟨X.sb, 0, none⟩)] w fun e w' => e = .returned (.bool false) ∧ w' = w := by obtain ⟨⟨a, L, h1, h2⟩, h3, h4⟩ := h; exact sempty_any h1
theorem Se.played (h : Se w lo hi X G s) : Calls Tryz.prog 25 #[.pointer (some ⟨X.sb, 0, none⟩)] w fun e w' => e = .returned (.int .i64 (s.P : Int)) ∧ Sm w w' := by obtain ⟨⟨a, L, h1, h2⟩, h3, h4⟩ := h; exact played_any h1 h3.fit.me
theorem Se.nowGs (h : Se w lo hi X G s) : Gs G.cap (s.now G) := h.ok.fit.gs h.g _
theorem Se.sureGs (h : Se w lo hi X G s) : Gs G.cap (s.sure G) := h.ok.fit.gs h.g _
theorem mayHear_nil (w : World) (f : Int) : Calls Tryz.prog 29 #[.pointer none, .int .i64 f] w fun e w' => e = .returned (.int .i64 1) ∧ w' = w := by
  go_enter Tryz.func29, Tryz.ntmps29
  go_wp2_with (go_at_call 24; refine (sempty_nil _).mono ?_; rintro e w1 ⟨rfl, rfl⟩)
  go_ret
  exact ⟨rfl, rfl⟩
set_option maxRecDepth 20000 in
set_option maxHeartbeats 2000000 in
theorem mayHear_any (h : Se w lo hi X G s) (f : Int) (hf : -9223372036854775808 ≤ f ∧ f ≤ 9223372036854775807) : Calls Tryz.prog 29 #[.pointer (some ⟨X.sb, 0, none⟩), .int .i64 f] w fun e w' => e = .returned (.int .i64 (hearE s G f)) ∧ Below w.heap.size w w' := by
  have CE := hid_into h.empty
  have c1 : w.cell? ⟨X.sb, 1, none⟩ = some (.int .i64 G.cap) := by obtain ⟨⟨a, L, h1, h2⟩, h3, h4⟩ := h; exact h1.cl.c1
  have CS := hid_into h.Sure
  have hgs := h.sureGs
  have hcap := chkG_cap h.g.c
  have HN := st_size hgs.wf
  have HL := st_len hgs.wf
  have HO := st_one hgs.wf
  have HX := hid_into (stV_c hgs.wf).over
  have HF := hid_into (stV_c hgs.wf).frame
  have HZ : Hid ((Tryz.prog.info? 44).bind (·.zero) = some (.agg zeroS.toArray)) := Tryz.zero44
  have ZS := zeroS_size
  have b0 := hgs.f0
  have b1 := hgs.f1
  have b2 := hcap.2.2.1
  unfold hearE
  generalize stV (s.sure G) = cs at *
  generalize (s.sure G).frame = q at *
  generalize (s.sure G).over = ov at *
  generalize G.cap = cap at *
  clear h hgs hcap
  have b3 : q ≤ 600 := by omega
  by_cases h1 : f < 0
  · rw [if_pos (Or.inl h1)]
    go_enter Tryz.func29, Tryz.ntmps29
    go_wp2_with (go_at_call 24; refine CE.out.mono ?_; rintro e w1 ⟨rfl, hx⟩; replace hx := hx.symm; subst hx)
    go_ret
    exact ⟨rfl, Below.refl _ _⟩
  · by_cases h2 : cap ≤ f
    · rw [if_pos (Or.inr h2)]
      go_enter Tryz.func29, Tryz.ntmps29
      go_wp2_with (go_at_call 24; refine CE.out.mono ?_; rintro e w1 ⟨rfl, hx⟩; replace hx := hx.symm; subst hx)
      go_ret
      exact ⟨rfl, Below.refl _ _⟩
    · rw [if_neg (by omega)]
      cases ov with
      | true =>
        rw [if_pos rfl]
        go_enter Tryz.func29, Tryz.ntmps29
        go_wp2_with (first
          | (go_at_call 24; refine CE.out.mono ?_; rintro e w1 ⟨rfl, hx⟩; replace hx := hx.symm; subst hx)
          | (go_at_call 13; refine CS.out.mono ?_; rintro e w1 ⟨rfl, B1⟩)
          | (refine wpList_alloc_row rfl 44 rfl zeroS HZ.out ?_; intro W2 hc2 B2 _)
          | (refine wpList_store_rw rfl 44 (.tmp 5) (.tmp 22) rfl w1.heap.size zeroS cs 44 rfl rfl ?_ ZS HL HO.out ?_; exact hc2; intro W3 hc3 O3; have q18 := (hc3.cell 18).trans HX.out))
        go_ret
        exact ⟨rfl, (B1.trans (B2.mono B1.size)).trans (O3.below B1.size)⟩
      | false =>
        rw [if_neg (by decide)]
        by_cases h3 : q + 24 < f
        · rw [if_pos h3]
          have h3' : q + 16 + 8 < f := by omega
          go_enter Tryz.func29, Tryz.ntmps29
          go_wp2_with (first
            | (go_at_call 24; refine CE.out.mono ?_; rintro e w1 ⟨rfl, hx⟩; replace hx := hx.symm; subst hx)
            | (go_at_call 13; refine CS.out.mono ?_; rintro e w1 ⟨rfl, B1⟩)
            | (refine wpList_alloc_row rfl 44 rfl zeroS HZ.out ?_; intro W2 hc2 B2 _)
            | (refine wpList_store_rw rfl 44 (.tmp 5) (.tmp 22) rfl w1.heap.size zeroS cs 44 rfl rfl ?_ ZS HL HO.out ?_; exact hc2; intro W3 hc3 O3; have q18 := (hc3.cell 18).trans HX.out; have q0 := (hc3.cell 0).trans HF.out))
          go_ret
          exact ⟨rfl, (B1.trans (B2.mono B1.size)).trans (O3.below B1.size)⟩
        · rw [if_neg h3]
          have h3' : ¬ q + 16 + 8 < f := by omega
          go_enter Tryz.func29, Tryz.ntmps29
          go_wp2_with (first
            | (go_at_call 24; refine CE.out.mono ?_; rintro e w1 ⟨rfl, hx⟩; replace hx := hx.symm; subst hx)
            | (go_at_call 13; refine CS.out.mono ?_; rintro e w1 ⟨rfl, B1⟩)
            | (refine wpList_alloc_row rfl 44 rfl zeroS HZ.out ?_; intro W2 hc2 B2 _)
            | (refine wpList_store_rw rfl 44 (.tmp 5) (.tmp 22) rfl w1.heap.size zeroS cs 44 rfl rfl ?_ ZS HL HO.out ?_; exact hc2; intro W3 hc3 O3; have q18 := (hc3.cell 18).trans HX.out; have q0 := (hc3.cell 0).trans HF.out))
          go_ret
          exact ⟨rfl, (B1.trans (B2.mono B1.size)).trans (O3.below B1.size)⟩
theorem Local_nil (w : World) (x : Int) : Calls Tryz.prog 9 #[.pointer none, .int .u16 x] w fun e w' => e = .returned (.tuple #[.int .i64 0, .int .i64 1]) ∧ w' = w := by
  go_enter Tryz.func9, Tryz.ntmps9
  go_wp2_with (go_at_call 24; refine (sempty_nil _).mono ?_; rintro e w1 ⟨rfl, rfl⟩)
  go_ret2
  exact ⟨rfl, rfl⟩
theorem Remote_nil (w : World) (f x : Int) : Calls Tryz.prog 10 #[.pointer none, .int .i64 f, .int .u16 x] w fun e w' => e = .returned (.int .i64 1) ∧ w' = w := by
  go_enter Tryz.func10, Tryz.ntmps10
  go_wp2_with (go_at_call 29; refine (mayHear_nil _ _).mono ?_; rintro e w1 ⟨rfl, rfl⟩)
  go_ret
  exact ⟨rfl, rfl⟩
end
end Go.Proofs.YtbfldcieibdapabGreat
end

section
/-
  Local of a session, whole.
-/
namespace Go.Proofs.YtbfldcieibdapabGreat
open Go.RowKit
section
variable {w w' : World} {lo hi : Nat} {X : Sx} {G : Gm} {s t : Sa} {a : Nat} {L : List Sp}
theorem Sn.putM (h : Sn w lo hi X G s a L) (hf : s.Fit G) (hP : (s.P : Int) < G.cap) (x : Int) : Calls Tryz.prog 26 #[.pointer (some ⟨X.qb, 0, none⟩), .int .i64 s.me, .int .i64 (s.P : Int), .int .u16 x] w fun e w' => e = .returned (.int .i64 0) ∧ Sn w' lo hi X G (s.put x) a L ∧ Grows (In2 lo hi) w w' := by
  have g := In.put_any h.q s.me (s.P : Int) x
  rw [(sel_me hf.me).1, put_free hf hP x] at g
  refine g.mono ?_
  rintro e w' ⟨rfl, hp⟩
  obtain ⟨e0, e1⟩ := put_rows hf.me (put_free hf hP x)
  have hq := hp.q
  rw [e0, e1] at hq
  exact ⟨rfl, h.putQ hq hp.og rfl rfl rfl, h.gq hp.og⟩
set_option maxRecDepth 20000 in
set_option maxHeartbeats 2000000 in
theorem Se.Local (h : Se w lo hi X G s) (hst : 0 ≤ s.st ∧ s.st < 4611686018427300000) {x : Int} (hx : 0 ≤ x ∧ x < 65536) : Calls Tryz.prog 9 #[.pointer (some ⟨X.sb, 0, none⟩), .int .u16 x] w fun e w' => e = .returned (.tuple #[.int .i64 (locA s G).1, .int .i64 (locA s G).2]) ∧ Se w' lo hi X G (locS s G x) ∧ Grows (In2 lo hi) w w' := by
  have CE := hid_into h.empty
  have CN := hid_into h.Now
  have CP : Hid (∀ W, Below w.heap.size w W → Calls Tryz.prog 25 #[.pointer (some ⟨X.sb, 0, none⟩)] W fun e w' => e = .returned (.int .i64 (s.P : Int)) ∧ Sm W w') := fun W hW => (h.below hW).played
  have CS : Hid (∀ W, Below w.heap.size w W → Calls Tryz.prog 13 #[.pointer (some ⟨X.sb, 0, none⟩)] W fun e w' => e = .returned (.agg (stV (s.sure G)).toArray) ∧ Below W.heap.size W w') := fun W hW => (h.below hW).Sure
  have hg := h.sureGs
  have hn := h.nowGs
  have b0 := hg.f0
  have b1 := hg.f1
  have b2 := (chkG_cap h.g.c).2.2.1
  have b3 := h.ok.fit.P_le
  have b7 : (0 : Int) ≤ (s.P : Int) := Int.natCast_nonneg _
  have F0 := (fieldS hg.wf).1
  have F3 := (fieldS hn.wf).2.1
  have Hh := hid_into h
  by_cases ho : (s.now G).over = true
  · have eA : locA s G = (0, 12) := if_pos ho
    have eS : locS s G x = s := by unfold locS; rw [eA]; rfl
    rw [eA, eS]
    rw [ho] at F3
    generalize stV (s.now G) = ns at *
    clear h hg hn F0 eA eS CS CP
    go_enter Tryz.func9, Tryz.ntmps9
    go_wp2_with (first
      | (go_at_call 24; refine CE.out.mono ?_; rintro e w1 ⟨rfl, hx⟩; replace hx := hx.symm; subst hx)
      | (go_at_call 12; refine CN.out.mono ?_; rintro e w2 ⟨rfl, B2⟩))
    go_ret2
    exact ⟨rfl, Hh.out.below B2, gb B2⟩
  · have ho' : (s.now G).over = false := by simpa using ho
    rw [ho'] at F3
    by_cases hw : (s.sure G).frame + 8 ≤ (s.P : Int)
    · have eA : locA s G = (0, 13) := by unfold locA; rw [if_neg ho, if_pos hw]
      have eS : locS s G x = s := by unfold locS; rw [eA]; rfl
      rw [eA, eS]
      generalize stV (s.now G) = ns at *
      generalize stV (s.sure G) = cs at *
      generalize (s.sure G).frame = q at *
      generalize (s.P : Int) = p at *
      have b4 : q ≤ 600 := by omega
      clear h hg hn eA eS
      go_enter Tryz.func9, Tryz.ntmps9
      go_wp2_with (first
        | (go_at_call 24; refine CE.out.mono ?_; rintro e w1 ⟨rfl, hx⟩; replace hx := hx.symm; subst hx)
        | (go_at_call 12; refine CN.out.mono ?_; rintro e w2 ⟨rfl, B2⟩)
        | (go_at_call 25; refine (CP.out _ B2).mono ?_; rintro e w3 ⟨rfl, S3⟩; have B3 := hid_into (B2.trans (S3.below _)))
        | (go_at_call 13; refine (CS.out _ B3.out).mono ?_; rintro e w4 ⟨rfl, B4⟩))
      go_ret2
      exact ⟨rfl, (Hh.out.below B3.out).below B4, gb (B3.out.trans (B4.mono B3.out.size))⟩
    · have eA : locA s G = ((s.P : Int), 0) := by unfold locA; rw [if_neg ho, if_neg hw]
      have hgo : (locA s G).2 = 0 := by rw [eA]
      have eS : locS s G x = (s.put x).work 1 0 := by unfold locS; rw [if_pos hgo]
      have hP := (Sa.P_cap h.g h.ok.fit ho').2
      have ePP := Sa.put_P h.ok.fit hP x
      have CM : Hid (∀ W, Below w.heap.size w W → (W.cell? ⟨X.sb, 3, none⟩ = some (.int .i64 s.me) ∧ W.cell? ⟨X.sb, 4, none⟩ = some (.pointer (some ⟨X.qb, 0, none⟩))) ∧ Calls Tryz.prog 26 #[.pointer (some ⟨X.qb, 0, none⟩), .int .i64 s.me, .int .i64 (s.P : Int), .int .u16 x] W fun e w' => e = .returned (.int .i64 0) ∧ (w'.cell? ⟨X.sb, 3, none⟩ = some (.int .i64 s.me) ∧ w'.cell? ⟨X.sb, 4, none⟩ = some (.pointer (some ⟨X.qb, 0, none⟩))) ∧ (∃ a L, Sn w' lo hi X G (s.put x) a L ∧ Ring s G a L) ∧ Grows (In2 lo hi) W w') := fun W hW => by
        obtain ⟨⟨a, L, h1, h2⟩, h3, h4⟩ := h.below hW
        refine ⟨⟨h1.cl.c3, h1.cl.c4⟩, (h1.putM h3.fit hP x).mono ?_⟩
        rintro e w' ⟨rfl, h5, h6⟩
        exact ⟨rfl, ⟨h5.cl.c3, h5.cl.c4⟩, ⟨a, L, h5, h2⟩, h6⟩
      have CT : Hid (∀ W, (∃ a L, Sn W lo hi X G (s.put x) a L ∧ Ring s G a L) → Calls Tryz.prog 27 #[.int .i64 (s.P : Int), .int .i64 ((s.P : Int) + 1), .func (.func 28) #[.pointer (some ⟨X.sb, 0, none⟩)] #[]] W fun e w' => e = .returned (.tuple #[]) ∧ Se w' lo hi X G ((s.put x).work 1 0) ∧ Grows (In2 lo hi) W w') := fun W hW => by
        obtain ⟨a, L, h1, h2⟩ := hW
        obtain ⟨g1, g2, g3, g4⟩ := h2.ahead h.g h.ok hgo x
        have hF := h.ok.fit.put hP hx
        have hT := through_any h1 h.g hF (f := s.P) (p := s.P + 1) (by omega) (by omega) g1 g2 g3 hst
        rw [show (((s.P + 1 : Nat)) : Int) = (s.P : Int) + 1 by omega] at hT
        refine hT.mono ?_
        rintro e w' ⟨rfl, n, n1, n2, n3, ⟨⟨a', L', k1, k2, k3, k4⟩, k5, k6⟩⟩
        obtain rfl : n = s.P + 1 := by omega
        have hR := h2.local h.g h.ok hgo k2 (k3 n1) k4 k5
        refine ⟨rfl, ⟨⟨a', L', ?_, hR.work _ _⟩, ?_, h.g⟩, k6⟩
        · rw [show (((s.P + 1 : Nat)) : Int) - (s.P : Int) = 1 by omega] at k1
          exact k1
        · have := h.ok.loc h.g hx
          rw [eS] at this
          exact this
      rw [eA, eS]
      generalize stV (s.now G) = ns at *
      generalize stV (s.sure G) = cs at *
      generalize (s.sure G).frame = q at *
      generalize (s.P : Int) = p at *
      have b4 : q ≤ 600 := by omega
      have b5 : p ≤ 600 := by omega
      have b6 : ¬ q + 8 ≤ p := hw
      generalize s.me = me at *
      clear h hg hn eA eS hgo hP ePP
      go_enter Tryz.func9, Tryz.ntmps9
      go_wp2_with (first
        | (go_at_call 24; refine CE.out.mono ?_; rintro e w1 ⟨rfl, hx⟩; replace hx := hx.symm; subst hx)
        | (go_at_call 12; refine CN.out.mono ?_; rintro e w2 ⟨rfl, B2⟩)
        | (go_at_call 25; refine (CP.out _ B2).mono ?_; rintro e w3 ⟨rfl, S3⟩; have B3 := hid_into (B2.trans (S3.below _)))
        | (go_at_call 13; refine (CS.out _ B3.out).mono ?_; rintro e w4 ⟨rfl, B4⟩; have B5 := hid_into (B3.out.trans (B4.mono B3.out.size)); have B6 := hid_into B5.out.drew))
      have sC := (CM.out _ B6.out).1
      go_region_held3 (fun V => V.cell? ⟨X.sb, 3, none⟩ = some (.int .i64 me) ∧ V.cell? ⟨X.sb, 4, none⟩ = some (.pointer (some ⟨X.qb, 0, none⟩))) (first | exact sD | exact sC)
        (first | (go_at_call 26; refine (CM.out _ B6.out).2.mono ?_; rintro e w7 ⟨rfl, sD, h7, g7⟩; have H7 := hid_into h7; clear h7))
      go_wp2_with (go_at_call 27; refine (CT.out _ H7.out).mono ?_; rintro e w8 ⟨rfl, h8, g8⟩; have H8 := hid_into h8; clear h8)
      go_ret2
      exact ⟨rfl, H8.out, gtrans (gtrans (gb B6.out) g7) g8⟩
end
end Go.Proofs.YtbfldcieibdapabGreat
end

section
/-
  Remote of a session, whole.
-/
namespace Go.Proofs.YtbfldcieibdapabGreat
open Go.RowKit
section
variable {w w' : World} {lo hi : Nat} {X : Sx} {G : Gm} {s t : Sa} {a : Nat} {L : List Sp}
theorem Sn.putH (h : Sn w lo hi X G s a L) (hf : s.Fit G) (k : Nat) (x : Int) : Calls Tryz.prog 26 #[.pointer (some ⟨X.qb, 0, none⟩), .int .i64 (1 - s.me), .int .i64 (k : Int), .int .u16 x] w fun e w' => e = .returned (.int .i64 (In.putE s.h (k : Int) x)) ∧ Sn w' lo hi X G (if In.putE s.h (k : Int) x = 0 then s.hear k x else s) a L ∧ Grows (In2 lo hi) w w' := by
  have g := In.put_any h.q (1 - s.me) (k : Int) x
  rw [(sel_me hf.me).2] at g
  refine g.mono ?_
  rintro e w' ⟨rfl, hp⟩
  refine ⟨rfl, ?_, h.gq hp.og⟩
  have hq := hp.q
  by_cases he : In.putE s.h (k : Int) x = 0
  · rw [if_pos he]
    obtain ⟨e0, e1⟩ := hear_rows hf.me he
    rw [e0, e1] at hq
    exact h.putQ hq hp.og rfl rfl rfl
  · rw [if_neg he]
    obtain ⟨e0, e1⟩ := hear_no_rows hf.me he
    rw [e0, e1] at hq
    exact h.putQ hq hp.og rfl rfl rfl
set_option maxRecDepth 20000 in
set_option maxHeartbeats 2000000 in
/-- Now, whatever the ring is. -/
theorem Now_raw (h : Sn w lo hi X G s a L) {t : Sp} (h1 : Rn.gtS a L (Rn.gstF a L) = t) (h2 : Rn.gtB a L (Rn.gstF a L) = true) : Calls Tryz.prog 12 #[.pointer (some ⟨X.sb, 0, none⟩)] w fun e w' => e = .returned (.agg (stV t).toArray) ∧ Below w.heap.size w w' := by
  have CE : Hid (∀ W, Below w.heap.size w W → Calls Tryz.prog 24 #[.pointer (some ⟨X.sb, 0, none⟩)] W fun e w' => e = .returned (.bool false) ∧ w' = W) := fun W hW => sempty_any (h.below hW)
  have CN : Hid (∀ W, Below w.heap.size w W → W.cell? ⟨X.sb, 5, none⟩ = some (.pointer (some ⟨X.rb, 0, none⟩)) ∧ Calls Tryz.prog 33 #[.pointer (some ⟨X.rb, 0, none⟩)] W fun e w' => e = .returned (.tuple #[.agg (stV t).toArray, .bool true]) ∧ Below W.heap.size W w') := fun W hW => by
    have H := h.below hW
    have g := Rn.newest_any H.r
    rw [h1, h2] at g
    exact ⟨H.cl.c5, g⟩
  have HZ : Hid ((Tryz.prog.info? 44).bind (·.zero) = some (.agg zeroS.toArray)) := Tryz.zero44
  have ZS := zeroS_size
  have hwf : t.Wf := by rw [← h1]; exact Rn.gt_wf h.r.k _
  have HN := st_size hwf
  have HL := st_len hwf
  have HO := st_one hwf
  generalize stV t = cs at *
  clear h h1 h2 hwf
  go_enter Tryz.func12, Tryz.ntmps12
  go_wp2_with (first
    | (have HB3' := HB3; refine wpList_alloc_row rfl 44 rfl zeroS HZ.out ?_; intro W4 hc4 B4 HS4; have hr4 := hr3.below B4 hr3.lt; have hne := hid_into (Nat.ne_of_lt hr3.lt); have HB4 := hid_into (HB3.out.trans (B4.mono HB3.out.size)); clear hr3 B4)
    | (refine wpList_alloc_row rfl 44 rfl zeroS HZ.out ?_; intro W1 hr1 B1 _; have c5 := (CN.out _ B1).1)
    | (go_at_call 24; refine (CE.out _ B1).mono ?_; rintro e w2 ⟨rfl, h2⟩; replace h2 := h2.symm; subst h2)
    | (go_at_call 33; refine (CN.out _ B1).2.mono ?_; rintro e w3 ⟨rfl, B3⟩; have hr3 := hr1.below B3 hr1.lt; have HB3 := hid_into (B1.trans (B3.mono B1.size)); clear hr1 B1 B3)
    | (refine wpList_store_rw rfl 44 (.tmp 3) (.tmp 14) rfl w3.heap.size zeroS cs 44 rfl rfl ?_ ZS HL HO.out ?_; exact hc4; intro W5 hc5 O5; have hr5 := O5.cw hr4 hne.out; have HB5 := hid_into (HB4.out.trans (O5.below HB3.out.size)); clear hc4 hr4 O5)
    | (refine wpList_load_rw rfl 44 (.tmp 3) rfl w3.heap.size cs 44 _ rfl ?_ Tryz.underlying44 rfl HN ?_; exact hc5)
    | (refine wpList_store_rw rfl 44 (.tmp 2) (.tmp 16) rfl w.heap.size zeroS cs 44 rfl rfl ?_ ZS HL HO.out ?_; exact hr5; intro W6 hr6 O6))
  exact ret_row rfl rfl rfl hr6 Tryz.underlying44 rfl HN ⟨rfl, HB5.out.trans (O6.below (Nat.le_refl _))⟩
/-- What stands behind a Put that was taken. -/
structure Hd (w : World) (lo hi : Nat) (X : Sx) (G : Gm) (s : Sa) (k : Nat) (x : Int) (e : Int) : Prop where
  ex : ∃ a L, Sn w lo hi X G (if e = 0 then s.hear k x else s) a L ∧ Ring s G a L
theorem Hd.below {k : Nat} {x e : Int} (h : Hd w lo hi X G s k x e) (hb : Below w.heap.size w w') : Hd w' lo hi X G s k x e := by obtain ⟨a, L, h1, h2⟩ := h; exact ⟨a, L, h1.below hb, h2⟩
theorem Hd.now {k : Nat} {x e : Int} (h : Hd w lo hi X G s k x e) : Calls Tryz.prog 12 #[.pointer (some ⟨X.sb, 0, none⟩)] w fun e w' => e = .returned (.agg (stV (s.now G)).toArray) ∧ Below w.heap.size w w' := by obtain ⟨a, L, h1, h2⟩ := h; exact Now_raw h1 h2.now.1 h2.now.2.1
/-- What is used of the other one. -/
theorem use_other (k : Nat) : (s.me = 0 → (s.use k).2 = gv s.h (k + 1)) ∧ (s.me = 1 → (s.use k).1 = gv s.h (k + 1)) := by
  unfold Sa.use Sa.r0 Sa.r1
  exact ⟨fun c => by simp [c], fun c => by simp [c]⟩
end
end Go.Proofs.YtbfldcieibdapabGreat
end

section
/-
  Remote of a session, whole.
-/
namespace Go.Proofs.YtbfldcieibdapabGreat
open Go.RowKit
section
variable {w w' : World} {lo hi : Nat} {X : Sx} {G : Gm} {s t : Sa} {a : Nat} {L : List Sp}
theorem index62 (u0 u1 : Int) (w : World) : (Instr.index 41 (.agg #[.int .u16 u0, .int .u16 u1]) (.int .i64 0)).run Tryz.prog w = .ok (.int .u16 u0) w ∧ (Instr.index 41 (.agg #[.int .u16 u0, .int .u16 u1]) (.int .i64 1)).run Tryz.prog w = .ok (.int .u16 u1) w := ⟨by kernel_rfl, by kernel_rfl⟩
/-- Ahead of playing anew. -/
structure Hw (w : World) (lo hi : Nat) (X : Sx) (G : Gm) (s : Sa) (k : Nat) (x : Int) : Prop where
  ex : ∃ a L, Sn w lo hi X G ((s.hear k x).work 0 1) a L ∧ Ring s G a L
theorem Hw.played {k : Nat} {x : Int} (h : Hw w lo hi X G s k x) (hm : s.me = 0 ∨ s.me = 1) : Calls Tryz.prog 25 #[.pointer (some ⟨X.sb, 0, none⟩)] w fun e w' => e = .returned (.int .i64 (s.P : Int)) ∧ Hw w' lo hi X G s k x ∧ Sm w w' := by
  obtain ⟨a, L, h1, h2⟩ := h
  exact (played_any h1 hm).mono (by rintro e w' ⟨rfl, hs⟩; exact ⟨rfl, ⟨a, L, h1.sm hs, h2⟩, hs⟩)
theorem Hw.through {k : Nat} {f x : Int} (h : Hw w lo hi X G s k x) (hG : G.Ok) (hs : s.Ok G) (hst : 0 ≤ s.st ∧ s.st < 4611686018427300000) (hr : RemG s G f k) (hx : 0 ≤ x ∧ x < 65536) (hk : (k : Int) < (s.now G).frame) (hA : remA s G f x = 0) (hw : gv s.h (k + 1) ≠ x) :
    Calls Tryz.prog 27 #[.int .i64 (k : Int), .int .i64 (s.P : Int), .func (.func 28) #[.pointer (some ⟨X.sb, 0, none⟩)] #[]] w fun e w' => e = .returned (.tuple #[]) ∧ Se w' lo hi X G (remS s G f x) ∧ Grows (In2 lo hi) w w' := by
  obtain ⟨a, L, h1, h2⟩ := h
  obtain ⟨g1, g2, g3, g4⟩ := h2.anew hs hr x hk
  have hF := (hs.fit.hear (f := k) hx).work 0 1
  refine (through_any h1 hG hF (f := k) (p := s.P) g4 hs.fit.P_le (g1.work 0 1) g2 g3 ⟨by show 0 ≤ s.st + 0; omega, by show s.st + 0 < 4611686018427300000; omega⟩).mono ?_
  rintro e w' ⟨rfl, n, n1, n2, n3, ⟨⟨a', L', k1, k2, k3, k4⟩, k5, k6⟩⟩
  obtain ⟨r1, r2⟩ := h2.played hs hr x n2 n3 k2.unwork (k3 n1) k4 k5
  have e : remS s G f x = (s.hear k x).work ((n : Int) - (k : Int)) 1 := by
    unfold remS
    have ek : f.toNat = k := by rw [hr.fk]; rfl
    rw [if_pos hA, ek, if_pos ⟨by rw [hr.fk]; exact hk, hw⟩, r2, hr.fk]
  have hok := hs.rem (f := f) hx
  rw [e] at hok ⊢
  rw [Sa.work_work, Int.zero_add, Int.add_zero] at k1
  exact ⟨rfl, ⟨⟨a', L', k1, r1.work _ _⟩, hok, hG⟩, k6⟩
set_option maxRecDepth 20000 in
set_option maxHeartbeats 2000000 in
theorem Se.Remote (h : Se w lo hi X G s) (hst : 0 ≤ s.st ∧ s.st < 4611686018427300000) (hwr : 0 ≤ s.wr ∧ s.wr < 4611686018427300000) {f x : Int} (hf : -9223372036854775808 ≤ f ∧ f ≤ 9223372036854775807) (hx : 0 ≤ x ∧ x < 65536) : Calls Tryz.prog 10 #[.pointer (some ⟨X.sb, 0, none⟩), .int .i64 f, .int .u16 x] w fun e w' => e = .returned (.int .i64 (remA s G f x)) ∧ Se w' lo hi X G (remS s G f x) ∧ Grows (In2 lo hi) w w' := by
  have C40 := hid_into (mayHear_any h f hf)
  have Hh := hid_into h
  by_cases hE : hearE s G f = 0
  · obtain ⟨hA, hf0, hf1, hov⟩ := remA_yes (x := x) hE
    obtain ⟨k, hk⟩ : ∃ k : Nat, f = (k : Int) := ⟨f.toNat, by omega⟩
    rw [hE] at C40
    have hm := h.ok.fit.me
    have hme : 0 ≤ s.me ∧ s.me ≤ 1 := by omega
    have C41 : Hid (∀ W, Below w.heap.size w W → Calls Tryz.prog 30 #[.pointer (some ⟨X.sb, 0, none⟩), .int .i64 f] W fun e w' => e = .returned (.agg #[.int .u16 (s.use k).1, .int .u16 (s.use k).2]) ∧ Below W.heap.size W w') := fun W hW => by
      obtain ⟨⟨a, L, h1, h2⟩, h3, h4⟩ := h.below hW
      rw [hk]
      exact used_any h1 h3.fit k (by omega)
    have C42 : Hid (∀ W, Below w.heap.size w W → Calls Tryz.prog 31 #[.pointer (some ⟨X.sb, 0, none⟩)] W fun e w' => e = .returned (.int .i64 (1 - s.me)) ∧ w' = W) := fun W hW => by
      obtain ⟨⟨a, L, h1, h2⟩, h3, h4⟩ := h.below hW
      exact other_any h1 h3.fit.me
    have C36 : Hid (∀ W, Below w.heap.size w W → W.cell? ⟨X.sb, 4, none⟩ = some (.pointer (some ⟨X.qb, 0, none⟩)) ∧ Calls Tryz.prog 26 #[.pointer (some ⟨X.qb, 0, none⟩), .int .i64 (1 - s.me), .int .i64 f, .int .u16 x] W fun e w' => e = .returned (.int .i64 (In.putE s.h f x)) ∧ w'.cell? ⟨X.sb, 4, none⟩ = some (.pointer (some ⟨X.qb, 0, none⟩)) ∧ Hd w' lo hi X G s k x (In.putE s.h f x) ∧ Grows (In2 lo hi) W w') := fun W hW => by
      obtain ⟨⟨a, L, h1, h2⟩, h3, h4⟩ := h.below hW
      rw [hk]
      refine ⟨h1.cl.c4, (h1.putH h3.fit k x).mono ?_⟩
      rintro e w' ⟨rfl, h5, h6⟩
      exact ⟨rfl, h5.cl.c4, ⟨a, L, h5, h2⟩, h6⟩
    have C18 : Hid (∀ W, Hd W lo hi X G s k x (In.putE s.h f x) → Calls Tryz.prog 12 #[.pointer (some ⟨X.sb, 0, none⟩)] W fun e w' => e = .returned (.agg (stV (s.now G)).toArray) ∧ Below W.heap.size W w') := fun W hW => hW.now
    have FI : ∀ W : World, (Instr.index 41 (.agg #[.int .u16 (s.use k).1, .int .u16 (s.use k).2]) (.int .i64 (1 - s.me))).run Tryz.prog W = .ok (.int .u16 (gv s.h (k + 1))) W := fun W => by
      rcases hm with c | c
      · rw [c, ← (use_other k).1 c]; exact (index62 _ _ W).2
      · rw [c, ← (use_other k).2 c]; exact (index62 _ _ W).1
    have F0 := (fieldS h.nowGs.wf).1
    have HD : Hid (∀ W, Grows (In2 lo hi) w W → In.putE s.h f x = 0 → Hd W lo hi X G s k x (In.putE s.h f x) → ¬ (f < (s.now G).frame ∧ gv s.h (k + 1) ≠ x) → Se W lo hi X G (remS s G f x)) := fun W _ e0 hW hn => by
      have hA0 : remA s G f x = 0 := by rw [hA, e0]
      obtain ⟨hr, _⟩ := remA_go hA0
      have ek : f.toNat = k := by rw [hk]; rfl
      rw [ek] at hr
      obtain ⟨a, L, h1, h2⟩ := hW
      rw [if_pos e0] at h1
      have e : remS s G f x = s.hear k x := by unfold remS; rw [if_pos hA0, ek, if_neg hn]
      have hok := h.ok.rem (f := f) hx
      rw [e] at hok ⊢
      refine ⟨⟨a, L, h1, ?_⟩, hok, h.g⟩
      by_cases c : f < (s.now G).frame
      · exact h2.right h.ok hr (Decidable.byContradiction fun c2 => hn ⟨c, c2⟩)
      · exact h2.late h.ok hr x (by rw [← hk]; omega)
    by_cases e0 : In.putE s.h f x = 0
    · by_cases c1 : f < (s.now G).frame
      · by_cases c2 : gv s.h (k + 1) = x
        · have HD' : Hid (∀ W, Grows (In2 lo hi) w W → Hd W lo hi X G s k x 0 → Se W lo hi X G (remS s G f x)) := fun W hg hW => HD.out W hg e0 (by rw [e0]; exact hW) (fun c => c.2 c2)
          rw [hA]
          rw [e0] at C36 C18 ⊢
          rw [c2] at FI
          generalize stV (s.now G) = ns at *
          generalize (s.now G).frame = q at *
          generalize 1 - s.me = o at *
          generalize (s.use k).1 = u0 at *
          generalize (s.use k).2 = u1 at *
          generalize remS s G f x = rs at *
          clear h HD hA hk hov hE
          go_enter Tryz.func10, Tryz.ntmps10
          go_wp2_with (first
                | (go_at_call 29; refine C40.out.mono ?_; rintro e w1 ⟨rfl, B1⟩; have HB1 := hid_into B1; clear B1)
                | (go_at_call 30; refine (C41.out _ HB1.out).mono ?_; rintro e w2 ⟨rfl, B2⟩; have HB2 := hid_into (HB1.out.trans (B2.mono HB1.out.size)); have HB3 := hid_into HB2.out.drew; clear B2)
                | (go_at_call 31; refine (C42.out _ HB2.out).mono ?_; rintro e w3 ⟨rfl, hx3⟩; replace hx3 := hx3.symm; subst hx3))
          have sC := (C36.out _ HB3.out).1
          go_region_held3 (fun V => V.cell? ⟨X.sb, 4, none⟩ = some (.pointer (some ⟨X.qb, 0, none⟩))) (first | exact sD | exact sC)
            (first
              | (go_at_call 31; refine (C42.out _ HB3.out).mono ?_; rintro e wz ⟨rfl, hx4⟩; replace hx4 := hx4.symm; subst hx4)
              | (go_at_call 26; refine (C36.out _ HB3.out).2.mono ?_; rintro e w4 ⟨rfl, sD, h4, g4⟩; have H4 := hid_into h4; have G4 := hid_into g4; clear h4 g4))
          
          go_wp2_with (go_at_call 12; refine (C18.out _ H4.out).mono ?_; rintro e w5 ⟨rfl, B5⟩; have HB5 := hid_into B5; clear B5)
          go_ret
          exact ⟨rfl, HD'.out _ (gtrans (gtrans (gb HB3.out) G4.out) (gb HB5.out)) (H4.out.below HB5.out), gtrans (gtrans (gb HB3.out) G4.out) (gb HB5.out)⟩
        · have c2' : (gv s.h (k + 1) == x) = false := by simp [c2]
          have hA0 : remA s G f x = 0 := by rw [hA, e0]
          obtain ⟨hr, _⟩ := remA_go hA0
          have ek : f.toNat = k := by rw [hk]; rfl
          rw [ek] at hr
          have C35 : Hid (∀ W, Hw W lo hi X G s k x → Calls Tryz.prog 25 #[.pointer (some ⟨X.sb, 0, none⟩)] W fun e w' => e = .returned (.int .i64 (s.P : Int)) ∧ Hw w' lo hi X G s k x ∧ Sm W w') := fun W hW => hW.played hm
          have C37 : Hid (∀ W, Hw W lo hi X G s k x → Calls Tryz.prog 27 #[.int .i64 f, .int .i64 (s.P : Int), .func (.func 28) #[.pointer (some ⟨X.sb, 0, none⟩)] #[]] W fun e w' => e = .returned (.tuple #[]) ∧ Se w' lo hi X G (remS s G f x) ∧ Grows (In2 lo hi) W w') := fun W hW => by
            have := hW.through (f := f) h.g h.ok hst hr hx (by rw [← hk]; exact c1) hA0 c2
            rw [← hk] at this
            exact this
          have HS : Hid (∀ W, Hd W lo hi X G s k x 0 → W.cell? ⟨X.sb, 7, none⟩ = some (.int .i64 s.wr) ∧ W.frozen? ⟨X.sb, 7, none⟩ = false ∧ Hw (W.setCell ⟨X.sb, 7, none⟩ (.int .i64 (s.wr + 1))) lo hi X G s k x ∧ Grows (In2 lo hi) W (W.setCell ⟨X.sb, 7, none⟩ (.int .i64 (s.wr + 1)))) := fun W hW => by
            obtain ⟨a, L, h1, h2⟩ := hW
            rw [if_pos rfl] at h1
            have ho := Only.set X.sb 7 W (.int .i64 (s.wr + 1))
            refine ⟨h1.cl.c7, h1.c.frozen 7, ⟨a, L, h1.putC (t := (s.hear k x).work 0 1) ?_ ho rfl rfl, h2⟩, h1.gc ho⟩
            have hc := h1.c.set 7 (.int .i64 (s.wr + 1))
            unfold Sx.cells Sa.work
            rw [Int.add_zero]
            exact hc
          rw [hA]
          rw [e0] at C36 C18 ⊢
          obtain ⟨hw1, hw2⟩ := hwr
          generalize stV (s.now G) = ns at *
          generalize (s.now G).frame = q at *
          generalize 1 - s.me = o at *
          generalize (s.use k).1 = u0 at *
          generalize (s.use k).2 = u1 at *
          generalize remS s G f x = rs at *
          generalize gv s.h (k + 1) = was at *
          generalize s.wr = wr at *
          generalize (s.P : Int) = pp at *
          clear h HD hA hk hov hE hA0 hr ek
          go_enter Tryz.func10, Tryz.ntmps10
          go_wp2_with (first
                | (go_at_call 29; refine C40.out.mono ?_; rintro e w1 ⟨rfl, B1⟩; have HB1 := hid_into B1; clear B1)
                | (go_at_call 30; refine (C41.out _ HB1.out).mono ?_; rintro e w2 ⟨rfl, B2⟩; have HB2 := hid_into (HB1.out.trans (B2.mono HB1.out.size)); have HB3 := hid_into HB2.out.drew; clear B2)
                | (go_at_call 31; refine (C42.out _ HB2.out).mono ?_; rintro e w3 ⟨rfl, hx3⟩; replace hx3 := hx3.symm; subst hx3))
          have sC := (C36.out _ HB3.out).1
          go_region_held3 (fun V => V.cell? ⟨X.sb, 4, none⟩ = some (.pointer (some ⟨X.qb, 0, none⟩))) (first | exact sD | exact sC)
            (first
              | (go_at_call 31; refine (C42.out _ HB3.out).mono ?_; rintro e wz ⟨rfl, hx4⟩; replace hx4 := hx4.symm; subst hx4)
              | (go_at_call 26; refine (C36.out _ HB3.out).2.mono ?_; rintro e w4 ⟨rfl, sD, h4, g4⟩; have H4 := hid_into h4; have G4 := hid_into g4; clear h4 g4))
          
          go_wp2_with (first
            | (go_at_call 12; refine (C18.out _ H4.out).mono ?_; rintro e w5 ⟨rfl, B5⟩; have HB5 := hid_into B5; obtain ⟨c7, z7, h6, g6⟩ := HS.out _ (H4.out.below B5); have H6 := hid_into h6; have G6 := hid_into g6; clear B5 h6 g6)
            | (go_at_call 25; refine (C35.out _ H6.out).mono ?_; rintro e w7 ⟨rfl, h7, s7⟩; have H7 := hid_into h7; clear h7)
            | (go_at_call 27; refine (C37.out _ H7.out).mono ?_; rintro e w8 ⟨rfl, h8, g8⟩; have H8 := hid_into h8; clear h8))
          go_ret
          exact ⟨rfl, H8.out, gtrans (gtrans (gtrans (gtrans (gtrans (gb HB3.out) G4.out) (gb HB5.out)) G6.out) (gb (s7.below _))) g8⟩
      · have HD' : Hid (∀ W, Grows (In2 lo hi) w W → Hd W lo hi X G s k x 0 → Se W lo hi X G (remS s G f x)) := fun W hg hW => HD.out W hg e0 (by rw [e0]; exact hW) (fun c => c1 c.1)
        rw [hA]
        rw [e0] at C36 C18 ⊢
        generalize stV (s.now G) = ns at *
        generalize (s.now G).frame = q at *
        generalize 1 - s.me = o at *
        generalize (s.use k).1 = u0 at *
        generalize (s.use k).2 = u1 at *
        generalize remS s G f x = rs at *
        generalize gv s.h (k + 1) = was at *
        clear h HD hA hk hov hE
        go_enter Tryz.func10, Tryz.ntmps10
        go_wp2_with (first
              | (go_at_call 29; refine C40.out.mono ?_; rintro e w1 ⟨rfl, B1⟩; have HB1 := hid_into B1; clear B1)
              | (go_at_call 30; refine (C41.out _ HB1.out).mono ?_; rintro e w2 ⟨rfl, B2⟩; have HB2 := hid_into (HB1.out.trans (B2.mono HB1.out.size)); have HB3 := hid_into HB2.out.drew; clear B2)
              | (go_at_call 31; refine (C42.out _ HB2.out).mono ?_; rintro e w3 ⟨rfl, hx3⟩; replace hx3 := hx3.symm; subst hx3))
        have sC := (C36.out _ HB3.out).1
        go_region_held3 (fun V => V.cell? ⟨X.sb, 4, none⟩ = some (.pointer (some ⟨X.qb, 0, none⟩))) (first | exact sD | exact sC)
          (first
            | (go_at_call 31; refine (C42.out _ HB3.out).mono ?_; rintro e wz ⟨rfl, hx4⟩; replace hx4 := hx4.symm; subst hx4)
            | (go_at_call 26; refine (C36.out _ HB3.out).2.mono ?_; rintro e w4 ⟨rfl, sD, h4, g4⟩; have H4 := hid_into h4; have G4 := hid_into g4; clear h4 g4))
        
        go_wp2_with (go_at_call 12; refine (C18.out _ H4.out).mono ?_; rintro e w5 ⟨rfl, B5⟩; have HB5 := hid_into B5; clear B5)
        go_ret
        exact ⟨rfl, HD'.out _ (gtrans (gtrans (gb HB3.out) G4.out) (gb HB5.out)) (H4.out.below HB5.out), gtrans (gtrans (gb HB3.out) G4.out) (gb HB5.out)⟩
    · have eS : remS s G f x = s := by unfold remS; rw [if_neg (by rw [hA]; exact e0)]
      have HD2 : Hid (∀ W, Hd W lo hi X G s k x (In.putE s.h f x) → Se W lo hi X G s) := fun W hW => by
        obtain ⟨a, L, h1, h2⟩ := hW
        rw [if_neg e0] at h1
        exact ⟨⟨a, L, h1, h2⟩, h.ok, h.g⟩
      rw [hA, eS]
      generalize In.putE s.h f x = e2 at *
      have e0' : (e2 == 0) = false := by simp [e0]
      generalize 1 - s.me = o at *
      generalize (s.use k).1 = u0 at *
      generalize (s.use k).2 = u1 at *
      generalize gv s.h (k + 1) = was at *
      clear h HD hA hk hov hE eS F0
      go_enter Tryz.func10, Tryz.ntmps10
      go_wp2_with (first
            | (go_at_call 29; refine C40.out.mono ?_; rintro e w1 ⟨rfl, B1⟩; have HB1 := hid_into B1; clear B1)
            | (go_at_call 30; refine (C41.out _ HB1.out).mono ?_; rintro e w2 ⟨rfl, B2⟩; have HB2 := hid_into (HB1.out.trans (B2.mono HB1.out.size)); have HB3 := hid_into HB2.out.drew; clear B2)
            | (go_at_call 31; refine (C42.out _ HB2.out).mono ?_; rintro e w3 ⟨rfl, hx3⟩; replace hx3 := hx3.symm; subst hx3))
      have sC := (C36.out _ HB3.out).1
      go_region_held3 (fun V => V.cell? ⟨X.sb, 4, none⟩ = some (.pointer (some ⟨X.qb, 0, none⟩))) (first | exact sD | exact sC)
        (first
          | (go_at_call 31; refine (C42.out _ HB3.out).mono ?_; rintro e wz ⟨rfl, hx4⟩; replace hx4 := hx4.symm; subst hx4)
          | (go_at_call 26; refine (C36.out _ HB3.out).2.mono ?_; rintro e w4 ⟨rfl, sD, h4, g4⟩; have H4 := hid_into h4; have G4 := hid_into g4; clear h4 g4))
      
      go_wp2_with fail
      go_ret
      exact ⟨rfl, HD2.out _ H4.out, gtrans (gb HB3.out) G4.out⟩
  · have eA := remA_no (x := x) hE
    have eS : remS s G f x = s := by unfold remS; rw [if_neg (by rw [eA]; exact hE)]
    rw [eA, eS]
    generalize hearE s G f = e2 at *
    have e0' : (e2 == 0) = false := by simp [hE]
    clear h eA eS
    go_enter Tryz.func10, Tryz.ntmps10
    go_wp2_with (go_at_call 29; refine C40.out.mono ?_; rintro e w1 ⟨rfl, B1⟩)
    go_ret
    exact ⟨rfl, Hh.out.below B1, gb B1⟩
end
end Go.Proofs.YtbfldcieibdapabGreat
end
