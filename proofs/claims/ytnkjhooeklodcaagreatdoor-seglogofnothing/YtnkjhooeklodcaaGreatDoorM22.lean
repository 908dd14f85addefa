/-
  Joined from: SegRead, SegGate, SegClo, SegApi.
-/
import Derived.Test.YtnkjhooeklodcaaGreatDoorM21
import Derived.Test.YtnkjhooeklodcaaGreatDoorM20
section
/-
  The document's read: a segment's entries, from a number on.
-/
namespace Go.Proofs.YtnkjhooeklodcaaGreatDoor
open Go.RowKit Go.Maps Go.Sort
open Fr (Rw2 Osl bytesOf2 Sc takeR decN decE decP numR)

/-- What read answers. -/
def ReadP (w : World) (n : Nat) (zs : List Int) (e : Ending) (w' : World) : Prop :=
  ∃ ao cap, ∃ (rs : List Rw2) (m : Nat) (b : Bool), e = .returned (.tuple #[.slice ao rs.length cap, .int .i64 (m : Int), .bool b]) ∧ Osl w' w.heap.size (.slice ao rs.length cap) rs ∧
    (1 ≤ n → Tk (n - 1) zs (bytesOf2 rs) m ∧ takeR ((n : Int) + rs.length) (zs.drop m) = none ∧ b = decide (m = zs.length)) ∧ Below w.heap.size w w'
/-- What its loop holds; xs: the records that Scan found, in the first M bytes. -/
def RdInv (w1 : World) (n : Nat) (zs : List Int) (xs : List (List Int)) (M : Nat) (o t i : Value) (wr : World) : Prop :=
  ∃ (rs : List Rw2) (mk : Nat), t = .int .i64 (mk : Int) ∧ i = .int .i64 (rs.length : Int) ∧ (∃ ao cap, o = .slice ao rs.length cap) ∧ Osl wr w1.heap.size o rs ∧ Sc (zs.drop mk) (xs.drop rs.length) (M - mk) ∧ mk ≤ M ∧ rs.length ≤ xs.length ∧ (1 ≤ n → Tk (n - 1) zs (bytesOf2 rs) mk) ∧ Below w1.heap.size w1 wr
theorem Sc_step {zs : List Int} {xs : List (List Int)} {M mk k : Nat} {p : List Int} (hsc : Sc (zs.drop mk) (xs.drop k) (M - mk)) (hg : xs[k]? = some p) (hmk : mk ≤ M) :
    decE (zs.drop mk) = 0 ∧ decP (zs.drop mk) = p ∧ decN (zs.drop mk) = p.length + 12 ∧ mk + (p.length + 12) ≤ M ∧ Sc (zs.drop (mk + (p.length + 12))) (xs.drop (k + 1)) (M - (mk + (p.length + 12))) := by
  have hd : xs.drop k = p :: xs.drop (k + 1) := by
    obtain ⟨hi, e⟩ := List.getElem?_eq_some_iff.1 hg
    rw [List.drop_eq_getElem_cons hi, e]
  rw [hd] at hsc
  obtain ⟨h1, h2, h3, h4⟩ := hsc
  have hN : decN (zs.drop mk) = p.length + 12 := by
    have e1 := Fr.decN_good h1
    have e2 := Fr.decP_good h1
    have e3 := Fr.decN_le (zs.drop mk)
    rw [h2] at e2
    have e4 := congrArg List.length e2
    rw [List.length_take, List.length_drop] at e4
    omega
  rw [hN] at h3 h4
  refine ⟨h1, h2, hN, by omega, ?_⟩
  rw [List.drop_drop, show M - mk - (p.length + 12) = M - (mk + (p.length + 12)) by omega] at h4
  exact h4
theorem numR_err : ∀ (f k u : Nat) (zs : List Int), (numR f k u zs).2.2 ≠ 0 → (numR f k u zs).1 = 0
  | 0, _, _, _, _ => rfl
  | _ + 1, _, _, [], _ => rfl
  | f + 1, k, u, z :: r, h => by
    by_cases h1 : 128 ≤ z
    · rw [Fr.numR_more h1] at h ⊢
      exact numR_err f _ _ r h
    · cases hb : Fr.badB k z with
      | true => rw [Fr.numR_bad h1 hb]
      | false => rw [Fr.numR_good h1 hb] at h; exact absurd rfl h
set_option maxHeartbeats 4000000 in
set_option maxRecDepth 100000 in
theorem read_any (sv : Value) (zs : List Int) (n : Nat) (w : World) (hb : Bs w sv zs) (hy : Byt zs) (hz : zs.length ≤ 1000000000) (hn : n < 100000000) :
    Calls Tryz.prog 63 #[sv, .int .i64 (n : Int)] w (ReadP w n zs) := by
  have CS := Fr.rscan_any sv zs w hb hy (by omega)
  obtain ⟨ax, cx, hsv, hmx⟩ := hb.len
  subst hsv
  clear hb
  go_enter Tryz.func63, Tryz.ntmps63
  go_wp2_with fail
  refine CS.mono ?_
  rintro e w1 ⟨al, cl, L, M, rfl, hL, hSc, hEnd, hB1⟩
  have hMle := hSc.le
  have hmany := hSc.many
  rw [Fr.bytesOf2_len] at hmany
  have hLr := hL.rs (by omega)
  have H0 : Hid (Sc zs (bytesOf2 L) M) := hSc
  have HE := hid_into hEnd
  have HB1 := hid_into hB1
  have HL := hid_into hLr
  have HO := hid_into hL
  clear CS hL hSc hEnd hB1 hLr
  go_wp2_with fail
  go_loopw [9, 10, 11] (fun o t i wr => Hid (RdInv w1 n zs (bytesOf2 L) M o t i wr)) (fun _ _ i _ => L.length - (intOf i).toNat)
  case atStart => exact ⟨[], 0, rfl, rfl, ⟨none, 0, rfl⟩, Fr.Osl.nil _ _, by simpa using H0.out, by omega, by simp, fun _ => rfl, Below.refl _ _⟩
  case round =>
    obtain ⟨rs, mk, rfl, rfl, ⟨ao, cap, rfl⟩, hos, hsc, hmk, hlx, htk, hB⟩ := hrel.out
    clear hrel
    rw [Fr.bytesOf2_len] at hlx
    by_cases hlt : rs.length < L.length
    · obtain ⟨b, off, ap, cp, p, ha, hg, hcell, hbp, hyp, hlp⟩ := (HL.out.below hB).get hlt
      subst ha
      have hgx : (bytesOf2 L)[rs.length]? = some p := by unfold Fr.bytesOf2; rw [List.getElem?_map, hg]; rfl
      obtain ⟨s1, s2, s3, s4, s5⟩ := Sc_step hsc hgx hmk
      have hTk : Hid (takeR ((n : Int) + rs.length) (zs.drop mk) = if (numR 10 0 0 p).1 = (n : Int) + rs.length then some (numR 10 0 0 p).2.1 else none) := by
        show _ = _
        unfold Fr.takeR
        rw [s2]
        by_cases hq : (numR 10 0 0 p).1 = (n : Int) + rs.length
        · rw [if_pos ⟨s1, hq⟩, if_pos hq]
        · rw [if_neg fun h => hq h.2, if_neg hq]
      have herr := numR_err 10 0 0 p
      have hrf : Fr.Rf (wr.alloc (.cells #[.slice ap p.length cp, .int .i64 0] 151)) wr.heap.size (.slice ap p.length cp) p 0 := by
        refine ⟨heap_alloc_new wr _, hbp.below ((Below.refl _ _).alloc (Nat.le_refl _) _) (Nat.le_refl _), fun e => ?_⟩
        have h1 := Fr.Ow.lt (HO.out.each _ (List.mem_of_getElem? hg)).1 _ e
        have h2 := hB.size
        omega
      have CNm := Fr.fnum_any wr.heap.size (.slice ap p.length cp) p _ hrf hyp
      have hW1 : Below wr.heap.size wr (wr.alloc (.cells #[.slice ap p.length cp, .int .i64 0] 151)) := (Below.refl _ _).alloc (Nat.le_refl _) _
      have f1 : (rs.length : Int) < (L.length : Int) := by omega
      have f2 : (0 : Int) ≤ (rs.length : Int) := by omega
      have q1 : IntKind.i64.wrap ((n : Int) + (rs.length : Int)) = (n : Int) + (rs.length : Int) := by rw [IntKind.wrap_i64]; omega
      have HTD : Hid (zs.length ≠ mk) := by show _ ≠ _; omega
      have hn31 : (mk + p.length + 12 : Nat) ≤ 1000000000 := by omega
      have HZL : Hid ((numR 10 0 0 p).2.1.length ≤ 65536 ∧ Byt (numR 10 0 0 p).2.1) := by
        obtain ⟨j, h1, h2⟩ := Fr.numR_suf 10 0 0 p
        have hpl : p.length ≤ 65536 := by
          have e1 := Fr.decN_good s1
          have e2 := Fr.heldN_le (Fr.decE_inv s1).1
          omega
        show _ ∧ _
        rw [h2]
        exact ⟨by rw [List.length_drop]; omega, hyp.drop j⟩
      clear hrf hsc hgx s1 s2
      generalize numR 10 0 0 p = res at *
      obtain ⟨nu, zl, er⟩ := res
      simp only at hTk herr CNm HZL
      have HRT : Hid (∀ W, Below wr.heap.size wr W → ((nu ≠ (n : Int) + rs.length) ∨ er ≠ 0) → ReadP w n zs (.returned (.tuple #[.slice ao rs.length cap, .int .i64 (mk : Int), .bool false])) W) := by
        intro W hW hc
        have hb1 := HB1.out
        refine ⟨ao, cap, rs, mk, false, rfl, ?_, fun h1 => ⟨htk h1, ?_, ?_⟩, ?_⟩
        · have := hos.below hW
          exact ⟨⟨this.row.1, this.row.2.imp id fun ⟨g, c, cur, e, hb, r⟩ => ⟨g, c, cur, e, Nat.le_trans hb1.size hb, r⟩⟩, fun r hr => ⟨(this.each r hr).1.mono hb1.size, (this.each r hr).2⟩⟩
        · rw [hTk.out, if_neg]
          intro h
          rcases hc with hc | hc
          · exact hc h
          · have := herr hc
            omega
        · have := HTD.out
          symm
          exact decide_eq_false fun e => this e.symm
        · have h2 := hB.trans (hW.mono hB.size)
          exact hb1.trans (h2.mono hb1.size)
      have hcl2 := World.block_lt_of_cell? wr _ hcell
      simp only at hcl2
      by_cases her : er = 0
      · by_cases hnu : nu = (n : Int) + rs.length
        · subst her
          have g1 : (nu == (n : Int) + (rs.length : Int)) = true := by rw [hnu]; simp
          have HN : Hid (1 ≤ n → Tk (n - 1) zs (bytesOf2 rs ++ [zl]) (mk + (p.length + 12))) := by
            intro h1
            have hb : (bytesOf2 rs).length = rs.length := Fr.bytesOf2_len rs
            have := Tk.snoc (htk h1) (p := zl) (by
              rw [hb]
              have e1 : (((n - 1 + rs.length : Nat) : Int) + 1) = (n : Int) + rs.length := by omega
              rw [e1, hTk.out, if_pos hnu])
            rw [s3] at this
            exact this
          have hzl : zl.length ≤ 65536 ∧ Byt zl := ⟨HZL.out.1, HZL.out.2⟩
          have HRS := hid_into hos
          have H5 := hid_into s5
          clear HRT hTk herr htk s3 s5 hos
          go_wp2_with fail
          refine CNm.mono ?_
          rintro e w2 ⟨rfl, v2, hrf2, hst, hv2⟩
          have d0 := hrf2.cell0
          have d1 := hrf2.cell1
          have hB2 : Below wr.heap.size wr w2 := hW1.trans (hst.below (Nat.le_refl _) (by simp))
          have hbv := hrf2.2.1
          obtain ⟨av, cv, hv, _⟩ := hbv.len
          subst hv
          have hA3 : Below w2.heap.size w2 (w2.alloc (.cells #[] 5)) := (Below.refl _ _).alloc (Nat.le_refl _) _
          have ho3 : Ow (w2.alloc (.cells #[] 5)) w2.heap.size (.slice (some ⟨w2.heap.size, 0, none⟩) 0 0) [] := Ow_of_block (heap_alloc_new w2 _) (by simp) (Nat.le_refl _)
          have hbs3 : Bs (w2.alloc (.cells #[] 5)) (.slice av zl.length cv) zl := hbv.below hA3 (Nat.le_refl _)
          have hlt2 := hrf2.lt
          clear hst hv2 hrf2 CNm hbv
          go_wp2_with (at_builtin; refine wpList_append_bs _ rfl (.tmp 48) (.tmp 52) rfl w2.heap.size _ [] rfl ho3 (.slice av zl.length cv) zl (by rfl) hbs3 (by simp; omega) (by simp) ?_)
          intro a5 p5 w5 ho5 hg5 hat5
          have ho5 : Ow w5 w2.heap.size (.slice a5 zl.length p5) zl := by simpa using ho5
          try simp only [List.length_nil, Nat.zero_add]
          have hB5 : Below w2.heap.size w2 w5 := hA3.trans (Fr.grown_below hg5 hA3.size (Fr.Ow.from ho3))
          have hB5' : Below wr.heap.size wr w5 := hB2.trans (hB5.mono hB2.size)
          have hA6 : Below wr.heap.size wr (w5.alloc (.cells #[.slice a5 zl.length p5] 38)) := hB5'.alloc hB5'.size _
          have hos6 := HRS.out.below hA6
          have ho6 : Fr.Ow (w5.alloc (.cells #[.slice a5 zl.length p5] 38)) w1.heap.size (.slice a5 zl.length p5) zl := (Fr.Ow.mono ho5 (Nat.le_trans hB.size hB2.size)).grew ((Below.refl w5.heap.size w5).alloc (Nat.le_refl _) _) (Nat.le_refl _)
          have hsep : ∀ k, (Value.slice a5 zl.length p5).ownBlock = some k → (Value.slice ao rs.length cap).ownBlock ≠ some k := fun k hk e => by
            have h1 := Fr.Ow.from ho5 k hk
            have h2 := HRS.out.lt k e
            have h3 := hB2.size
            omega
          have hcl6 : (w5.alloc (.cells #[.slice a5 zl.length p5] 38)).cell? ⟨w5.heap.size, 0, none⟩ = some (.slice a5 zl.length p5) := by
            rw [cell_of_row _ _ 0 _ _ _ (heap_alloc_new w5 _)]; rfl
          have hws : w1.heap.size ≤ (w5.alloc (.cells #[.slice a5 zl.length p5] 38)).heap.size := by have := hB.size; have := hA6.size; omega
          have hzl2 : zl.length ≤ 140737488355328 := by omega
          have hrl : rs.length ≤ 1000000000 := by omega
          clear hg5 hat5 ho3 hbs3 hA3 hB5
          go_wp2_with (first | (refine Fr.wpList_made_row _ rfl (.tmp 53) rfl a5 zl.length p5 rfl ?_) | (at_builtin; refine Fr.wpList_append_row _ rfl (.tmp 47) (.tmp 54) rfl w1.heap.size (.slice ao rs.length cap) rs (by rfl) hos6 w5.heap.size a5 p5 zl (by rfl) hcl6 ho6 hzl.2 hzl2 hsep hrl hws ?_))
          intro a7 p7 w7 hos7 hg7
          have hB7 : Below w1.heap.size w1 w7 := (hB.trans (hA6.mono hB.size)).trans (Fr.grown_below hg7 hws hos6.from)
          have hc7 : w7.cell? ⟨b, off + rs.length, none⟩ = some (.slice ap p.length cp) := by
            obtain ⟨b', off', ap', cp', p', ha', hg', hcell', _⟩ := (HL.out.below hB7).get hlt
            simp only [Option.some.injEq, Addr.mk.injEq, and_true] at ha'
            obtain ⟨rfl, rfl⟩ := ha'
            rw [hg] at hg'
            simp only [Option.some.injEq, Prod.mk.injEq] at hg'
            rw [hcell', hg'.1]
          have q2 : IntKind.i64.wrap ((mk : Int) + (p.length : Int)) = (mk : Int) + (p.length : Int) := by rw [IntKind.wrap_i64]; omega
          have q3 : IntKind.i64.wrap ((mk : Int) + (p.length : Int) + 12) = ((mk + (p.length + 12) : Nat) : Int) := by rw [IntKind.wrap_i64]; omega
          have q4 : IntKind.i64.wrap ((rs.length : Int) + 1) = ((rs.length + 1 : Nat) : Int) := by rw [IntKind.wrap_i64]; omega
          have HI : Hid (RdInv w1 n zs (bytesOf2 L) M (.slice a7 (rs.length + 1) p7) (.int .i64 ((mk + (p.length + 12) : Nat) : Int)) (.int .i64 ((rs.length + 1 : Nat) : Int)) w7) := by
            have hl1 : (rs ++ [((Value.slice a5 zl.length p5, zl) : Rw2)]).length = rs.length + 1 := by simp
            refine ⟨rs ++ [(.slice a5 zl.length p5, zl)], mk + (p.length + 12), rfl, by rw [hl1], ⟨a7, p7, by rw [hl1]⟩, hos7, by rw [hl1]; exact H5.out, s4, by rw [hl1, Fr.bytesOf2_len]; omega, ?_, hB7⟩
            rw [Fr.bytesOf2_append]
            exact HN.out
          clear hos7 hg7 hos6 ho6 hsep hcl6 hws HN H5 HRS HL HO hA6 ho5 hB5' hg
          generalize hkk : rs.length = k at *
          have HKK := hid_into hkk
          clear hkk
          go_wp2_with fail
          go_roundw
          case rel => exact HI
          case measure =>
            have := HKK.out
            simp [intOf]
            omega
        · have g1 : ¬ nu = (n : Int) + (rs.length : Int) := hnu
          have HR2 : Hid (∀ W, Below wr.heap.size wr W → ReadP w n zs (.returned (.tuple #[.slice ao rs.length cap, .int .i64 (mk : Int), .bool false])) W) := fun W hW => HRT.out W hW (Or.inl hnu)
          subst her
          clear HRT hTk herr htk hos HL HO s5 s3 hnu
          generalize rs.length = k at *
          go_wp2_with fail
          refine CNm.mono ?_
          rintro e w2 ⟨rfl, v2, hrf2, hst, hv2⟩
          have d1 := hrf2.cell1
          have hB2 : Below wr.heap.size wr w2 := hW1.trans (hst.below (Nat.le_refl _) (by simp))
          clear hst hv2 hrf2 CNm
          go_wp2_with fail
          go_ret3
          exact HR2.out _ hB2
      · have HR2 : Hid (∀ W, Below wr.heap.size wr W → ReadP w n zs (.returned (.tuple #[.slice ao rs.length cap, .int .i64 (mk : Int), .bool false])) W) := fun W hW => HRT.out W hW (Or.inr her)
        have her' : (er == 0) = false := beq_eq_false_iff_ne.2 her
        clear HRT hTk herr htk hos HL HO s5 s3
        generalize rs.length = k at *
        go_wp2_with fail
        refine CNm.mono ?_
        rintro e w2 ⟨rfl, v2, hrf2, hst, hv2⟩
        have d1 := hrf2.cell1
        have hB2 : Below wr.heap.size wr w2 := hW1.trans (hst.below (Nat.le_refl _) (by simp))
        clear hst hv2 hrf2 CNm
        go_wp2_with fail
        go_ret3
        exact HR2.out _ hB2
    · have hkL : rs.length = L.length := by omega
      have hM : mk = M := by
        rw [hkL, ← Fr.bytesOf2_len L, List.drop_length] at hsc
        have : M - mk = 0 := hsc
        omega
      have f1 : ¬ (rs.length : Int) < (L.length : Int) := by omega
      have HR2 : Hid (ReadP w n zs (.returned (.tuple #[.slice ao rs.length cap, .int .i64 (mk : Int), .bool ((mk : Int) == (zs.length : Int))])) wr) := by
        have hb1 := HB1.out
        refine ⟨ao, cap, rs, mk, _, rfl, ?_, fun h1 => ⟨htk h1, ?_, ?_⟩, hb1.trans (hB.mono hb1.size)⟩
        · exact ⟨⟨hos.row.1, hos.row.2.imp id fun ⟨g, c, cur, e, hb, r⟩ => ⟨g, c, cur, e, Nat.le_trans hb1.size hb, r⟩⟩, fun r hr => ⟨(hos.each r hr).1.mono hb1.size, (hos.each r hr).2⟩⟩
        · unfold Fr.takeR
          rw [hM]
          exact if_neg fun h => HE.out h.1
        · by_cases e : mk = zs.length
          · rw [decide_eq_true e, e]; simp
          · rw [decide_eq_false e]; exact beq_eq_false_iff_ne.2 (by omega)
      clear hos hsc htk HL HO hM hkL
      go_wp2_with fail
      go_ret3
      exact HR2.out
end Go.Proofs.YtnkjhooeklodcaaGreatDoor
end

section
/-
  gate: what the log asks of the disk goes through it; whatever the method.
-/
namespace Go.Proofs.YtnkjhooeklodcaaGreatDoor
open Go.RowKit Go.Maps Go.Sort

variable {F : Nat → Prop} {lb sb : Nat} {pre : List UInt8} {ev nv : Value} {es : List En} {las : Nat} {ns : List (List UInt8)} {sz : Nat} {dead : Bool}
/-- What gate leaves behind a method that answers er and leaves w1. -/
def GtP (lb : Nat) (R : Int → World → Prop) (e : Ending) (w' : World) : Prop :=
  ∃ er w1, e = .returned (.int .i64 er) ∧ R er w1 ∧ ((er = 0 ∨ er = 6) ∧ w' = w1 ∨ ¬ (er = 0 ∨ er = 6) ∧ w' = w1.setCell ⟨lb, 6, none⟩ (.bool true))
set_option maxHeartbeats 2000000 in
set_option maxRecDepth 100000 in
theorem lgate_any (g : Nat) (caps : Array Value) (eg : ∀ args w, (callFunc g args).run Tryz.prog w = .ok (.enter g args) w) (name : List UInt8) (w : World) (h : Lg w F lb sb pre ev nv es las ns sz dead) (R : Int → World → Prop)
    (C : Calls Tryz.prog g (#[.pointer (some ⟨sb, 0, none⟩), encStr name] ++ caps) w fun e w' => ∃ er, e = .returned (.int .i64 er) ∧ R er w' ∧ w'.heap[lb]? = w.heap[lb]?) :
    Calls Tryz.prog 55 #[.pointer (some ⟨lb, 0, none⟩), .func (.func g) #[] caps, encStr name] w (GtP lb R) := by
  have c0 : w.cell? ⟨lb, 0, none⟩ = some (.pointer (some ⟨sb, 0, none⟩)) := h.blk.cell 0
  have hb := h.blk
  clear h
  go_enter Tryz.func55, Tryz.ntmps55
  go_wp2_with fail
  refine C.mono ?_
  rintro e w1 ⟨er, rfl, hR, hlb⟩
  have hb1 := hb.keep hlb
  have f6 : w1.frozen? ⟨lb, 6, none⟩ = false := hb1.frozen 6
  have c6 : w1.cell? ⟨lb, 6, none⟩ = some (.bool dead) := hb1.cell 6
  clear hb hb1 C c0 hlb
  by_cases h0 : er = 0
  · subst h0
    have HP : Hid (GtP lb R (.returned (.int .i64 0)) w1) := ⟨0, w1, rfl, hR, Or.inl ⟨Or.inl rfl, rfl⟩⟩
    clear hR
    go_wp2_with fail
    go_ret
    exact HP.out
  · by_cases h6 : er = 6
    · subst h6
      have HP : Hid (GtP lb R (.returned (.int .i64 6)) w1) := ⟨6, w1, rfl, hR, Or.inl ⟨Or.inr rfl, rfl⟩⟩
      clear hR
      go_wp2_with fail
      go_ret
      exact HP.out
    · have HP : Hid (GtP lb R (.returned (.int .i64 er)) (w1.setCell ⟨lb, 6, none⟩ (.bool true))) := ⟨er, w1, rfl, hR, Or.inr ⟨fun h => h.elim h0 h6, rfl⟩⟩
      have n0 : (er != 0) = true := by simp [h0]
      have n6 : (er != 6) = true := by simp [h6]
      clear hR
      go_wp2_with fail
      go_ret
      exact HP.out
end Go.Proofs.YtnkjhooeklodcaaGreatDoor
end

section
/-
  with, into: methods that are handed, or answer, more than a name; what they make, and what that does.
-/
namespace Go.Proofs.YtnkjhooeklodcaaGreatDoor
open Go.RowKit Go.Maps Go.Sort

/-- Two new blocks of a cell each. -/
structure Two (w w' : World) (a b : Value) : Prop where
  fst : w'.cell? ⟨w.heap.size, 0, none⟩ = some a
  snd : w'.cell? ⟨w.heap.size + 1, 0, none⟩ = some b
  size : w'.heap.size = w.heap.size + 2
  below : Below w.heap.size w w'
theorem Two.mk' (w : World) (a b : Value) (s t : TypeId) : Two w ((w.alloc (.cells #[a] s)).alloc (.cells #[b] t)) a b := by
  refine ⟨?_, ?_, ?_, ?_⟩
  · rw [World.cell?_of_block (w := w.alloc (.cells #[a] s)) (Below.heap_alloc _ _ _ (by rw [World.size_alloc]; simp))]
    rw [cell_of_row (w.alloc (.cells #[a] s)) w.heap.size 0 _ _ _ (heap_alloc_new w _)]
    rfl
  · have := heap_alloc_new (w.alloc (.cells #[a] s)) (.cells #[b] t)
    rw [World.size_alloc] at this
    rw [cell_of_row _ _ 0 _ _ _ this]
    rfl
  · rw [World.size_alloc, World.size_alloc]
  · exact ((Below.refl _ _).alloc (Nat.le_refl _) _).alloc (by rw [World.size_alloc]; omega) _
set_option maxHeartbeats 2000000 in
set_option maxRecDepth 100000 in
theorem withB_any (g : Nat) (ao : Option Addr) (n cap : Nat) (w : World) :
    Calls Tryz.prog 78 #[.func (.func g) #[] #[], .slice ao n cap] w fun e w' => e = .returned (.func (.func 101) #[] #[.pointer (some ⟨w.heap.size, 0, none⟩), .pointer (some ⟨w.heap.size + 1, 0, none⟩)]) ∧ Two w w' (.func (.func g) #[] #[]) (.slice ao n cap) := by
  go_enter Tryz.func78, Tryz.ntmps78
  go_wp2
  go_ret
  exact ⟨rfl, Two.mk' _ _ _ _ _⟩
set_option maxHeartbeats 2000000 in
set_option maxRecDepth 100000 in
theorem cloB_any (g : Nat) (eg : ∀ args w, (callFunc g args).run Tryz.prog w = .ok (.enter g args) w) (ao : Option Addr) (n cap : Nat) (d x : Value) (p : Nat) (w : World) (R : Int → World → Prop)
    (c0 : w.cell? ⟨p, 0, none⟩ = some (.func (.func g) #[] #[])) (c1 : w.cell? ⟨p + 1, 0, none⟩ = some (.slice ao n cap))
    (C : Calls Tryz.prog g #[d, x, .slice ao n cap] w fun e w' => ∃ er, e = .returned (.int .i64 er) ∧ R er w') :
    Calls Tryz.prog 101 #[d, x, .pointer (some ⟨p, 0, none⟩), .pointer (some ⟨p + 1, 0, none⟩)] w fun e w' => ∃ er, e = .returned (.int .i64 er) ∧ R er w' := by
  go_enter Tryz.func101, Tryz.ntmps101
  go_wp2_with fail
  refine C.mono ?_
  rintro e w1 ⟨er, rfl, hR⟩
  have HR : Hid (R er w1) := hR
  clear hR C c0 c1
  go_wp2_with fail
  go_ret
  exact ⟨er, rfl, HR.out⟩
set_option maxHeartbeats 2000000 in
set_option maxRecDepth 100000 in
theorem withI_any (g : Nat) (x1 : Int) (w : World) :
    Calls Tryz.prog 114 #[.func (.func g) #[] #[], .int .i64 x1] w fun e w' => e = .returned (.func (.func 132) #[] #[.pointer (some ⟨w.heap.size, 0, none⟩), .pointer (some ⟨w.heap.size + 1, 0, none⟩)]) ∧ Two w w' (.func (.func g) #[] #[]) (.int .i64 x1) := by
  go_enter Tryz.func114, Tryz.ntmps114
  go_wp2
  go_ret
  exact ⟨rfl, Two.mk' _ _ _ _ _⟩
set_option maxHeartbeats 2000000 in
set_option maxRecDepth 100000 in
theorem cloI_any (g : Nat) (eg : ∀ args w, (callFunc g args).run Tryz.prog w = .ok (.enter g args) w) (x1 : Int) (d x : Value) (p : Nat) (w : World) (R : Int → World → Prop)
    (c0 : w.cell? ⟨p, 0, none⟩ = some (.func (.func g) #[] #[])) (c1 : w.cell? ⟨p + 1, 0, none⟩ = some (.int .i64 x1))
    (C : Calls Tryz.prog g #[d, x, .int .i64 x1] w fun e w' => ∃ er, e = .returned (.int .i64 er) ∧ R er w') :
    Calls Tryz.prog 132 #[d, x, .pointer (some ⟨p, 0, none⟩), .pointer (some ⟨p + 1, 0, none⟩)] w fun e w' => ∃ er, e = .returned (.int .i64 er) ∧ R er w' := by
  go_enter Tryz.func132, Tryz.ntmps132
  go_wp2_with fail
  refine C.mono ?_
  rintro e w1 ⟨er, rfl, hR⟩
  have HR : Hid (R er w1) := hR
  clear hR C c0 c1
  go_wp2_with fail
  go_ret
  exact ⟨er, rfl, HR.out⟩
set_option maxHeartbeats 2000000 in
set_option maxRecDepth 100000 in
theorem into_any (g : Nat) (t : Addr) (w : World) :
    Calls Tryz.prog 87 #[.pointer (some t), .func (.func g) #[] #[]] w fun e w' => e = .returned (.func (.func 110) #[] #[.pointer (some ⟨w.heap.size + 1, 0, none⟩), .pointer (some ⟨w.heap.size, 0, none⟩)]) ∧ Two w w' (.pointer (some t)) (.func (.func g) #[] #[]) := by
  go_enter Tryz.func87, Tryz.ntmps87
  go_wp2
  go_ret
  exact ⟨rfl, Two.mk' _ _ _ _ _⟩
set_option maxHeartbeats 2000000 in
set_option maxRecDepth 100000 in
theorem segs_any (g : Nat) (t : Addr) (w : World) :
    Calls Tryz.prog 86 #[.pointer (some t), .func (.func g) #[] #[]] w fun e w' => e = .returned (.func (.func 108) #[] #[.pointer (some ⟨w.heap.size + 1, 0, none⟩), .pointer (some ⟨w.heap.size, 0, none⟩)]) ∧ Two w w' (.pointer (some t)) (.func (.func g) #[] #[]) := by
  go_enter Tryz.func86, Tryz.ntmps86
  go_wp2
  go_ret
  exact ⟨rfl, Two.mk' _ _ _ _ _⟩
set_option maxHeartbeats 2000000 in
set_option maxRecDepth 100000 in
theorem cloR_any (g : Nat) (eg : ∀ args w, (callFunc g args).run Tryz.prog w = .ok (.enter g args) w) (d x : Value) (p t : Nat) (w : World) (R : Value → Int → World → Prop)
    (c0 : w.cell? ⟨p, 0, none⟩ = some (.pointer (some ⟨t, 0, none⟩))) (c1 : w.cell? ⟨p + 1, 0, none⟩ = some (.func (.func g) #[] #[]))
    (C : Calls Tryz.prog g #[d, x] w fun e w' => ∃ ao n cap er, e = .returned (.tuple #[.slice ao n cap, .int .i64 er]) ∧ R (.slice ao n cap) er w' ∧ w'.heap[p]? = w.heap[p]? ∧ (∃ u, Cw w' t [u] 38)) :
    Calls Tryz.prog 110 #[d, x, .pointer (some ⟨p + 1, 0, none⟩), .pointer (some ⟨p, 0, none⟩)] w fun e w' => ∃ v er w1, e = .returned (.int .i64 er) ∧ R v er w1 ∧ (∃ u, Cw w1 t [u] 38) ∧ w' = w1.setCell ⟨t, 0, none⟩ v := by
  go_enter Tryz.func110, Tryz.ntmps110
  go_wp2_with fail
  refine C.mono ?_
  rintro e w1 ⟨ao, n, cap, er, rfl, hR, hp, u, hu⟩
  have c2 : w1.cell? ⟨p, 0, none⟩ = some (.pointer (some ⟨t, 0, none⟩)) := by
    rw [World.cell?_of_block hp]; exact c0
  have ct : w1.cell? ⟨t, 0, none⟩ = some u := hu.cell 0
  have ft : w1.frozen? ⟨t, 0, none⟩ = false := hu.frozen 0
  have HR : Hid (R (.slice ao n cap) er w1) := hR
  have HU : Hid (∃ u, Cw w1 t [u] 38) := ⟨u, hu⟩
  clear hR C c0 c1 hu hp
  go_wp2_with fail
  go_ret
  exact ⟨_, er, w1, rfl, HR.out, HU.out, rfl⟩
end Go.Proofs.YtnkjhooeklodcaaGreatDoor
end

section
/-
  Next, Entry, Names: what a log tells of itself; and of a nil one, with Append and Sync.
-/
namespace Go.Proofs.YtnkjhooeklodcaaGreatDoor
open Go.RowKit Go.Maps Go.Sort

variable {F : Nat → Prop} {lb sb : Nat} {pre : List UInt8} {ev nv : Value} {es : List En} {las : Nat} {ns : List (List UInt8)} {sz : Nat} {dead : Bool}
set_option maxHeartbeats 2000000 in
set_option maxRecDepth 100000 in
theorem LNext_nil (w : World) : Calls Tryz.prog 24 #[.pointer none] w fun e w' => e = .returned (.tuple #[.int .i64 0, .int .i64 0]) ∧ w' = w := by
  go_enter Tryz.func24, Tryz.ntmps24
  go_wp2
  go_ret2
  exact ⟨rfl, rfl⟩
set_option maxHeartbeats 2000000 in
set_option maxRecDepth 100000 in
theorem LNext_any (w : World) (h : Lg w F lb sb pre ev nv es las ns sz dead) :
    Calls Tryz.prog 24 #[.pointer (some ⟨lb, 0, none⟩)] w fun e w' => e = .returned (.tuple #[.int .i64 ((es.length : Int) + 1), .int .i64 ((las : Int) + 1)]) ∧ Sm w w' := by
  have CN := fun (w1 : World) (hs : Sm w w1) => next_any w1 (h.sm hs)
  have c3 : w.cell? ⟨lb, 3, none⟩ = some (.int .i64 (las : Int)) := h.blk.cell 3
  have q1 : IntKind.i64.wrap ((las : Int) + 1) = (las : Int) + 1 := by
    have := h.few
    rw [IntKind.wrap_i64]; omega
  clear h
  go_enter Tryz.func24, Tryz.ntmps24
  go_wp2_with fail
  go_quiet ((go_at_call 49; refine Calls.quiet_of_same ((CN _ (Sm.drewN _ _)).mono fun _ _ h => ⟨h.1, h.2⟩)))
  go_wp2
  go_ret2
  exact ⟨rfl, Sm.drewN _ _⟩
set_option maxHeartbeats 2000000 in
set_option maxRecDepth 100000 in
theorem LEntry_nil (n : Int) (w : World) : Calls Tryz.prog 25 #[.pointer none, .int .i64 n] w fun e w' => e = .returned (.tuple #[.slice none 0 0, .int .i64 7]) ∧ w' = w := by
  go_enter Tryz.func25, Tryz.ntmps25
  go_wp2
  go_ret2
  exact ⟨rfl, rfl⟩
set_option maxHeartbeats 2000000 in
set_option maxRecDepth 100000 in
theorem LEntry_no (n : Int) (w : World) (h : Lg w F lb sb pre ev nv es las ns sz dead) (hn : n < 1 ∨ (es.length : Int) < n) :
    Calls Tryz.prog 25 #[.pointer (some ⟨lb, 0, none⟩), .int .i64 n] w fun e w' => e = .returned (.tuple #[.slice none 0 0, .int .i64 7]) ∧ w' = w := by
  obtain ⟨ao, cap, rfl⟩ := h.evform
  have c2 : w.cell? ⟨lb, 2, none⟩ = some (.slice ao es.length cap) := h.blk.cell 2
  clear h
  by_cases h1 : n < 1
  · clear hn
    go_enter Tryz.func25, Tryz.ntmps25
    go_wp2_with fail
    go_ret2
    exact ⟨rfl, rfl⟩
  · have h2 : (es.length : Int) < n := hn.resolve_left h1
    clear hn
    go_enter Tryz.func25, Tryz.ntmps25
    go_wp2_with fail
    go_ret2
    exact ⟨rfl, rfl⟩
set_option maxHeartbeats 2000000 in
set_option maxRecDepth 100000 in
theorem LEntry_any (i : Nat) (r : En) (w : World) (h : Lg w F lb sb pre ev nv es las ns sz dead) (hr : es[i]? = some r) :
    Calls Tryz.prog 25 #[.pointer (some ⟨lb, 0, none⟩), .int .i64 ((i : Int) + 1)] w fun e w' => ∃ ao cap, e = .returned (.tuple #[.slice ao r.2.length cap, .int .i64 0]) ∧ Ow w' w.heap.size (.slice ao r.2.length cap) r.2 ∧ Below w.heap.size w w' := by
  have hi : i < es.length := (List.getElem?_eq_some_iff.1 hr).1
  have hm := List.mem_of_getElem? hr
  have hbr := (h.each r hm).1
  have hlr := (h.each r hm).2.2.1
  have c2 : w.cell? ⟨lb, 2, none⟩ = some ev := h.blk.cell 2
  have hf := h.few
  rcases h.ent.2 with ⟨rfl, h0⟩ | ⟨g, cap, cur, rfl, hb, hg, hn, hc, hs, ht⟩
  · omega
  · have cn : w.cell? ⟨g, i, none⟩ = some r.1 := by
      have := World.ownsRow.cells h.ent (g := g) rfl i r.1 (by unfold enOf; rw [List.getElem?_map, hr]; rfl)
      simpa [Addr.add_lit] using this
    obtain ⟨ao, cp, hv, hm'⟩ := hbr.len
    have C := clone_any r.1 r.2 w hbr (by omega)
    rw [hv] at cn C
    have q1 : IntKind.i64.wrap ((i : Int) + 1 - 1) = (i : Int) := by rw [IntKind.wrap_i64]; omega
    have f1 : ¬ (i : Int) + 1 < 1 := by omega
    have f2 : ¬ (es.length : Int) < (i : Int) + 1 := by omega
    have f3 : (0 : Int) ≤ (i : Int) := by omega
    have f4 : (i : Int) < (es.length : Int) := by omega
    have HI : Hid (i < es.length) := hi
    clear h hr hm hbr hg hn hc hs ht hv hi
    generalize es.length = n at *
    generalize r.2 = zs at *
    go_enter Tryz.func25, Tryz.ntmps25
    go_wp2_with (go_at_call 50; refine C.mono ?_; rintro e w1 ⟨a1, c1, rfl, ho, hB⟩)
    go_ret2
    exact ⟨_, _, rfl, ho, hB⟩
set_option maxHeartbeats 2000000 in
set_option maxRecDepth 100000 in
theorem LNames_nil (w : World) : Calls Tryz.prog 33 #[.pointer none] w fun e w' => e = .returned (.slice none 0 0) ∧ w' = w := by
  go_enter Tryz.func33, Tryz.ntmps33
  go_wp2
  go_ret
  exact ⟨rfl, rfl⟩
theorem cloneN_any (v : Value) (ns : List (List UInt8)) (w : World) (h : Ot w 0 v ns) (hl : ns.length ≤ 10000000) :
    Calls Tryz.prog 72 #[v] w fun e w' => ∃ v', e = .returned v' ∧ Ot w' w.heap.size v' ns ∧ Below w.heap.size w w' := by
  rcases h.2 with ⟨rfl, h0⟩ | ⟨g, cap, cur, rfl, hb, hg, hn, hc, hs, ht⟩
  · obtain rfl : ns = [] := List.eq_nil_of_length_eq_zero h0
    refine (sh_slices_Clone_string_nil 0 0 w).mono ?_
    rintro e w' ⟨rfl, rfl⟩
    exact ⟨_, rfl, World.ownsRow_nil _ _ _ _, Below.refl _ _⟩
  · refine (sh_slices_Clone_string g 0 ns.length cap (ns.map fun l => ⟨l.toArray⟩) w (by simp) (by omega) ?_).mono ?_
    · intro j hj
      have hj' : j < ns.length := by simpa using hj
      have := World.ownsRow.cells h (g := g) rfl j (encStr ns[j]) (by rw [List.getElem?_map, List.getElem?_eq_getElem hj']; rfl)
      simp only [Addr.add_lit, Nat.zero_add] at this ⊢
      rw [this]
      simp [List.getD, hj']
    · rintro e w' ⟨v', rfl, ho, _, hB⟩
      refine ⟨v', rfl, ?_, hB⟩
      unfold Ot
      rw [List.take_of_length_le (by simp), List.map_map] at ho
      exact ho
set_option maxHeartbeats 2000000 in
set_option maxRecDepth 100000 in
theorem LNames_any (w : World) (h : Lg w F lb sb pre ev nv es las ns sz dead) :
    Calls Tryz.prog 33 #[.pointer (some ⟨lb, 0, none⟩)] w fun e w' => ∃ v', e = .returned v' ∧ Ot w' w.heap.size v' ns ∧ Below w.heap.size w w' := by
  have c4 : w.cell? ⟨lb, 4, none⟩ = some nv := h.blk.cell 4
  have C := cloneN_any nv ns w h.nam (by have := h.few; omega)
  clear h
  go_enter Tryz.func33, Tryz.ntmps33
  go_wp2_with (go_at_call 72; refine C.mono ?_; rintro e w1 ⟨v', rfl, ho, hB⟩)
  go_ret
  exact ⟨_, rfl, ho, hB⟩
set_option maxHeartbeats 2000000 in
set_option maxRecDepth 100000 in
theorem LSync_nil (w : World) : Calls Tryz.prog 18 #[.pointer none] w fun e w' => e = .returned (.int .i64 1) ∧ w' = w := by
  go_enter Tryz.func18, Tryz.ntmps18
  go_wp2
  go_ret
  exact ⟨rfl, rfl⟩
set_option maxHeartbeats 2000000 in
set_option maxRecDepth 100000 in
theorem LAppend_nil (v : Value) (w : World) : Calls Tryz.prog 16 #[.pointer none, v] w fun e w' => e = .returned (.tuple #[.int .i64 0, .int .i64 1]) ∧ w' = w := by
  go_enter Tryz.func16, Tryz.ntmps16
  go_wp2
  go_ret2
  exact ⟨rfl, rfl⟩
end Go.Proofs.YtnkjhooeklodcaaGreatDoor
end
