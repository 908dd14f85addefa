/-
  FrameTears, walked: for all rows and every place it answers true, and writes nothing that was there.
-/
import Derived.Test.YteinhklopnlgbaaDoorRwsWalk
namespace Go.Proofs.YteinhklopnlgbaaDoor
open Go.RowKit

/-- The slice v, of its own row from block base on, holds the numbers es. -/
def intsOf (es : List Nat) : List Value := es.map fun (n : Nat) => .int .i64 (n : Int)
def Oi (w : World) (base : Nat) (v : Value) (es : List Nat) : Prop := w.ownsRow base 3 1 v es.length (intsOf es)
theorem Tryd.info3w : (Tryd.prog.info? 3).map (fun i => (i.zero, i.size, i.bytes)) = some (some (.int .i64 0), 1, 8) := by kernel_rfl
theorem Oi.shape {w : World} {base : Nat} {v : Value} {es : List Nat} (h : Oi w base v es) : ∃ ao cap, v = .slice ao es.length cap ∧ (es ≠ [] → es.length ≤ cap ∧ cap ≤ maxLen ∧ ∃ g, ao = some ⟨g, 0, none⟩ ∧ ∀ (k n : Nat), es[k]? = some n → w.cell? ⟨g, k, none⟩ = some (.int .i64 (n : Int))) := by
  rcases h.2 with ⟨rfl, h0⟩ | ⟨g, cap, cur, rfl, hb, hg, hn, hc, hs, ht⟩
  · refine ⟨none, 0, by rw [h0], fun hne => absurd (List.eq_nil_of_length_eq_zero h0) hne⟩
  · refine ⟨_, cap, rfl, fun _ => ⟨hn, hc, g, rfl, fun k n hk => ?_⟩⟩
    have := World.ownsRow.cells h (g := g) rfl k (.int .i64 (n : Int)) (by simp [intsOf, hk])
    simpa [Addr.add_lit] using this
/-- Rows of bytes and rows of numbers are two. -/
theorem Oi.ne {w : World} {base base' : Nat} {v u : Value} {es : List Nat} {zs : List Int} (h : Oi w base v es) (k : Ow w base' u zs) : v.ownBlock = none ∨ v.ownBlock ≠ u.ownBlock := by
  rcases h.2 with ⟨rfl, h0⟩ | ⟨g, cap, cur, rfl, hb, hg, _⟩
  · exact Or.inl rfl
  · right
    intro e
    rcases k.2 with ⟨rfl, h0⟩ | ⟨g', cap', cur', rfl, hb', hg', _⟩
    · simp [Value.ownBlock] at e
    · simp [Value.ownBlock] at e
      subst e
      rw [hg] at hg'
      simp at hg'
theorem Oi.ne' {w : World} {base base' : Nat} {v u : Value} {es : List Nat} {zs : List Int} (h : Oi w base v es) (k : Ow w base' u zs) : u.ownBlock = none ∨ u.ownBlock ≠ v.ownBlock := by
  rcases h.ne k with e | e
  · rw [e]
    cases u.ownBlock with
    | none => exact Or.inl rfl
    | some a => exact Or.inr (by simp)
  · exact Or.inr (Ne.symm e)
theorem wpList_append_int (w : World) {ops : Array Oper} {rest : List Oper} {o : Oper} {a : Act} {Q : Exit → Act → World → Prop} (hgd : o.guard = none) (s x : Operand)
    (ho : o.op = .call { callee := .builtin .append, args := #[s, x], argTypes := #[42, 42] })
    (base : Nat) (v : Value) (es : List Nat) (hs : a.eval s = v) (hown : Oi w base v es) (B n : Nat) (hx : a.eval x = .slice (some ⟨B, 0, none⟩) 1 1) (hb : w.cell? ⟨B, 0, none⟩ = some (.int .i64 (n : Int)))
    (h63 : es.length ≤ 100000) (hbase : base ≤ w.heap.size)
    (h : ∀ ao cap w', Oi w' base (.slice ao (es.length + 1) cap) (es ++ [n]) → w.grownBy w' v.ownBlock →
      ((Value.slice ao (es.length + 1) cap).ownBlock = v.ownBlock ∨ (Value.slice ao (es.length + 1) cap).ownBlock = some w.heap.size) →
      wpList Tryd.prog ops Q rest (a.put o.dst (.slice ao (es.length + 1) cap)) w') : wpList Tryd.prog ops Q (o :: rest) a w := by
  obtain ⟨i0, hi, hz0, hz1, hz2⟩ := info_parts Tryd.info3w
  obtain ⟨v', w', hr, h2, h3, _, h5⟩ := run_append_own_at (P := Tryd.prog) w base 42 o.type 3 i0 (.int .i64 0) 1 8 Tryd.underlying42 hi hz0 hz1 hz2 rfl (by decide) v es.length (intsOf es) hown ⟨B, 0, none⟩ 1 1 [.int .i64 (n : Int)] rfl
    (by intro j u hu
        cases j with
        | zero => rw [Addr.add_lit]; simp at hu; subst hu; exact hb
        | succ j => simp at hu) (by intro u hu; simp at hu; subst hu; rfl) (by unfold maxLen; omega) (by omega) hbase
  have h2' : Oi w' base v' (es ++ [n]) := by
    unfold Oi
    rw [List.length_append]
    simpa [intsOf] using h2
  obtain ⟨ao, cap, hv, _⟩ := h2'.shape
  rw [List.length_append] at hv
  subst hv
  refine wpList_plain hgd fun _ hK => ?_
  unfold Oper.wp execOp
  simp only [ho, resolve, invoke, builtin, Sem.run_bind, Sem.run_pure, Result.andThen_ok, List.map_toArray, List.map_cons, List.map_nil, hs, hx, hr]
  exact hK _ _ (h ao cap w' h2' h3 h5)

/-- Where the records of the first k rows end. -/
def endsN (ps : List (List Int)) (k : Nat) : List Nat := (List.range k).map fun j => (allN (ps.take (j + 1))).length
theorem endsN_len (ps : List (List Int)) (k : Nat) : (endsN ps k).length = k := by simp [endsN]
theorem endsN_succ (ps : List (List Int)) (k : Nat) : endsN ps (k + 1) = endsN ps k ++ [(allN (ps.take (k + 1))).length] := by simp [endsN, List.range_succ]
theorem endsN_get (ps : List (List Int)) (k j : Nat) (h : j < k) : (endsN ps k)[j]? = some (allN (ps.take (j + 1))).length := by simp [endsN, h]
theorem Oi.keepB {w w' : World} {base : Nat} {v : Value} {es : List Nat} (h : Oi w base v es) (hb : Below w.heap.size w w') : Oi w' base v es := ownsRow_keep h fun k _ hk => hb.block k hk
theorem Oi.from {w : World} {base : Nat} {v : Value} {es : List Nat} (h : Oi w base v es) : ∀ k, v.ownBlock = some k → base ≤ k := fun k hk => (World.ownsRow.lt h k hk).1
theorem Oi.form {w : World} {base : Nat} {v : Value} {es : List Nat} (h : Oi w base v es) : ∃ ao cap, v = .slice ao es.length cap := by
  obtain ⟨ao, cap, hv, _⟩ := h.shape
  exact ⟨ao, cap, hv⟩

set_option maxHeartbeats 6400000 in
set_option maxRecDepth 20000 in
theorem tears_some (bl ol cl : Nat) (rs : List Rw2) (pl : Int) (w : World) (hne : rs ≠ []) (hl : Rs w (.slice (some ⟨bl, ol, none⟩) rs.length cl) rs) (hcl : rs.length ≤ cl) (hcm : cl ≤ maxLen) (ht : Tab w) :
    Calls Tryd.prog 6 #[.slice (some ⟨bl, ol, none⟩) rs.length cl, .int .i64 pl] w fun e w' => e = .returned (.bool true) ∧ Below w.heap.size w w' := by
  have htl := ht.lt
  have ybs := rsByt hl
  have ml : rs.length ≤ 140737488355328 := by obtain ⟨_, _, _, h, _⟩ := hl; exact h
  have hpos : 0 < rs.length := List.length_pos_iff.2 hne
  unfold maxLen at hcm
  go_enter Tryd.func6, Tryd.ntmps6
  go_wp2
  go_loopw [5, 6, 7] (fun a en i wr => ∃ k A, AllInv w (bytesOf2 rs) a i wr k A ∧ Oi wr w.heap.size en (endsN (bytesOf2 rs) k)) (fun _ _ i _ => rs.length - (intOf i).toNat)
  case atStart => exact ⟨0, [], AllInv.start w _, World.ownsRow_nil _ _ _ _⟩
  case round =>
    obtain ⟨k, A, hinv, hoi⟩ := hrel
    obtain ⟨ao, cap, rfl, rfl, hk, HA, hoA, hA4, hlens, hB⟩ := hinv.open
    rw [bytesOf2_len] at hk
    clear hinv
    obtain ⟨ae, ce, hve⟩ := hoi.form
    rw [endsN_len] at hve
    subst hve
    by_cases hlt : k < rs.length
    · obtain ⟨b1, o1, ap1, cp1, z, hab, hg, hcell, hbz, hyz, hlz⟩ := Rs.get (rs := rs) (hl.below hB) hlt
      simp only [Option.some.injEq, Addr.mk.injEq, and_true] at hab
      obtain ⟨rfl, rfl⟩ := hab
      have hgz := bytesOf2_get hg
      have f1 : (0 : Int) ≤ (k : Int) := by omega
      have f2 : (k : Int) < (rs.length : Int) := by omega
      by_cases hz4 : 4000 < z.length
      · have hz4' : (4000 : Int) < (z.length : Int) := by omega
        clear hgz hg HA hoA hlens ybs hl hbz hoi
        go_wp2
        go_ret
        exact ⟨rfl, hB⟩
      have hz4' : (z.length : Int) ≤ 4000 := by omega
      have C1 := enc_any2 _ z wr hbz hyz (by omega) (ht.below hB htl)
      have HT : Hid (allN ((bytesOf2 rs).take (k + 1)) = A ++ recN z) := by
        show _ = _
        rw [take_snoc2 hgz, allN_append, allN_one, ← HA]
      have HLn : Hid (∀ p ∈ (bytesOf2 rs).take (k + 1), p.length ≤ 65536) := by
        show ∀ p ∈ _, _
        rw [take_snoc2 hgz]
        intro p hp
        rcases List.mem_append.1 hp with h | h
        · exact hlens p h
        · have : p = z := by simpa using h
          rw [this]; omega
      have HR : Hid ((recN z).length ≤ 5000) := by show _ ≤ _; rw [recN_len]; omega
      have HK : Hid (k ≤ 400) := by
        show _ ≤ _
        have h1 := allN_len ((bytesOf2 rs).take k)
        rw [← HA, List.length_take, bytesOf2_len] at h1
        omega
      generalize recN z = R at *
      clear hgz hg HA hlens hbz hyz hlz
      go_wp2_with fail
      refine C1.mono ?_
      rintro e w1 ⟨ao1, cap1, rfl, ho1, B1⟩
      have B1' : Below w.heap.size w w1 := hB.trans (B1.mono hB.size)
      have hoA1 := hoA.grew B1 (Nat.le_refl _)
      have hoi1 := hoi.keepB B1
      clear C1
      go_wp2_with (at_builtin; refine wpList_append_bs _ rfl (.tmp 37) (.tmp 38) rfl w.heap.size (.slice ao A.length cap) A (by rfl) hoA1 (.slice ao1 R.length cap1) R (by rfl) ho1.bs (by have := HR.out; omega) B1'.size ?_)
      intro ao2 cap2 w2 ho2 hg2 hat2
      have B2 : Below w.heap.size w w2 := B1'.trans (grown_below hg2 B1'.size hoA1.from)
      have hoi2 : Oi w2 w.heap.size (.slice ae k ce) (endsN (bytesOf2 rs) k) := ownsRow_keep hoi1 fun q hq hlt => hg2.block q hlt (fun e => by
        rcases hoi1.ne hoA1 with h | h
        · rw [h] at hq; cases hq
        · exact h (hq.trans e))
      rw [← List.length_append] at ho2
      rw [← List.length_append]
      clear hoA1 hoA ho1 hg2 hat2 hcell B1 B1' HR hoi hoi1
      generalize A ++ R = A2 at *
      by_cases hA2 : 4000 < A2.length
      · have hA2' : (4000 : Int) < (A2.length : Int) := by omega
        go_wp2
        go_ret
        exact ⟨rfl, B2⟩
      · have hA2' : (A2.length : Int) ≤ 4000 := by omega
        have B2a : Below w.heap.size w (w2.alloc (.cells #[.int .i64 (A2.length : Int)] 3)) := B2.alloc B2.size _
        have hA : Below w2.heap.size w2 (w2.alloc (.cells #[.int .i64 (A2.length : Int)] 3)) := (Below.refl _ _).alloc (Nat.le_refl _) _
        have hoi3 := hoi2.keepB hA
        have ho3 := ho2.grew hA (Nat.le_refl _)
        have hcl : (w2.alloc (.cells #[.int .i64 (A2.length : Int)] 3)).cell? ⟨w2.heap.size, 0, none⟩ = some (.int .i64 (A2.length : Int)) := by
          rw [cell_of_row _ _ 0 _ _ _ (heap_alloc_new w2 _)]; rfl
        have hle : (endsN (bytesOf2 rs) k).length = k := endsN_len _ _
        have HEN : Hid (endsN (bytesOf2 rs) (k + 1) = endsN (bytesOf2 rs) k ++ [A2.length]) := by show _ = _; rw [endsN_succ, HT.out]
        have hke : (endsN (bytesOf2 rs) k).length ≤ 100000 := by have := HK.out; omega
        clear hoi2 ho2
        go_wp2_with (at_builtin; refine wpList_append_int _ rfl (.tmp 43) (.tmp 46) rfl w.heap.size (.slice ae k ce) (endsN (bytesOf2 rs) k) (by rfl) hoi3 w2.heap.size A2.length (by rfl) hcl hke B2a.size ?_)
        intro ao4 cap4 w4 hoi4 hg4 hat4
        have B4 : Below w.heap.size w w4 := B2a.trans (grown_below hg4 B2a.size hoi3.from)
        have ho4 : Ow w4 w.heap.size (.slice ao2 A2.length cap2) A2 := ho3.keep fun q hq hlt => hg4.block q hlt (fun e => by
          rcases hoi3.ne' ho3 with h | h
          · rw [h] at hq; cases hq
          · exact h (hq.trans e))
        rw [← HEN.out] at hoi4
        clear hoi3 ho3 hcl hle hke hg4 hat4 B2a hA
        go_wp2
        go_roundw
        case rel => exact ⟨k + 1, A2, ⟨by rw [bytesOf2_len]; omega, by go_num, ⟨ao2, cap2, rfl⟩, HT.out.symm, ho4, by omega, HLn.out, B4⟩, hoi4⟩
        case measure => simp [intOf]; omega
    · have hke : k = rs.length := by omega
      have hke2 : (bytesOf2 rs).take k = bytesOf2 rs := List.take_of_length_le (by rw [bytesOf2_len]; omega)
      rw [hke2] at HA hlens
      rw [hke] at hoi ⊢
      obtain ⟨P, eP, hP⟩ := and30 pl
      obtain ⟨kk, qk⟩ : ∃ kk, kk = P % (A.length + 1) := ⟨_, rfl⟩
      have hkk : kk ≤ A.length := by have := Nat.mod_lt P (show 0 < A.length + 1 by omega); omega
      have ek : ((P : Int) % ((A.length : Int) + 1)) = (kk : Int) := by rw [qk]; simp
      have fA : (0 : Int) < (A.length : Int) + 1 := by omega
      have nl : rs.length ≤ 400 := by
        have h1 := allN_len (bytesOf2 rs)
        rw [← HA, bytesOf2_len] at h1
        omega
      have ends : ∀ j, j < rs.length → ∃ g, ae = some ⟨g, 0, none⟩ ∧ rs.length ≤ ce ∧ ce ≤ maxLen ∧ wr.cell? ⟨g, j, none⟩ = some (.int .i64 ((allN ((bytesOf2 rs).take (j + 1))).length : Int)) := by
        intro j hj
        obtain ⟨ao', cap', hv, hx⟩ := hoi.shape
        rw [endsN_len] at hv hx
        simp only [Value.slice.injEq] at hv
        obtain ⟨rfl, _, rfl⟩ := hv
        obtain ⟨h1, h2, g, h3, h4⟩ := hx (fun e => by
          have h0 : rs.length = 0 := by rw [← endsN_len (bytesOf2 rs) rs.length, e]; rfl
          omega)
        exact ⟨g, h3, h1, h2, h4 j _ (endsN_get _ _ _ hj)⟩
      have HA2 : Hid (A = allN (bytesOf2 rs)) := HA
      have yA : Byt A := by rw [HA]; exact allN_byt _ ybs
      have hA12 : 12 ≤ A.length := by
        have h1 := allN_len (bytesOf2 rs)
        rw [← HA, bytesOf2_len] at h1
        omega
      obtain ⟨ga, hao, hca, hcam⟩ : ∃ ga, ao = some ⟨ga, 0, none⟩ ∧ A.length ≤ cap ∧ cap ≤ maxLen := by
        rcases hoA.2 with ⟨_, h1⟩ | ⟨g, c, cur, hv, hb, hg, hn, hc, hs, _⟩
        · omega
        · simp only [Value.slice.injEq] at hv
          obtain ⟨h1, _, rfl⟩ := hv
          exact ⟨g, h1, hn, hc⟩
      subst hao
      unfold maxLen at hcam
      have fA0 : ¬ ((A.length : Int) + 1 = 0) := by omega
      clear qk hke hke2 hoi hk hlt HA
      go_wp2
      go_loop [11] (fun i => ∃ n : Nat, n ≤ rs.length ∧ i = .int .i64 n ∧ Hid ((allN ((bytesOf2 rs).take n)).length ≤ kk)) (fun i => rs.length - (intOf i).toNat)
      case atStart => exact ⟨0, Nat.zero_le _, rfl, by show _ ≤ _; simp [allN_nil]⟩
      case round =>
        obtain ⟨n, hn, rfl, hn1⟩ := hrel
        by_cases hlt : n < rs.length
        · obtain ⟨g, rfl, hc1, hc2, hcell⟩ := ends n hlt
          have f1 : (0 : Int) ≤ (n : Int) := by omega
          have f2 : (n : Int) < (rs.length : Int) := by omega
          by_cases hle : (allN ((bytesOf2 rs).take (n + 1))).length ≤ kk
          · have HN : Hid ((allN ((bytesOf2 rs).take (n + 1))).length ≤ kk) := hle
            have hle' : (((allN ((bytesOf2 rs).take (n + 1))).length : Nat) : Int) ≤ (kk : Int) := by omega
            obtain ⟨en, qen⟩ : ∃ en, en = (allN ((bytesOf2 rs).take (n + 1))).length := ⟨_, rfl⟩
            rw [← qen] at hcell hle'
            clear qen hle
            go_wp2
            go_round
            case rel => exact ⟨n + 1, by omega, by go_num, HN⟩
            case measure => simp [intOf]; omega
          · have hn2 : n < (bytesOf2 rs).length → kk < (allN ((bytesOf2 rs).take (n + 1))).length := fun _ => by omega
            have hle' : ¬ (((allN ((bytesOf2 rs).take (n + 1))).length : Nat) : Int) ≤ (kk : Int) := by omega
            obtain ⟨en2, qen2⟩ : ∃ en2, en2 = (allN ((bytesOf2 rs).take (n + 1))).length := ⟨_, rfl⟩
            rw [← qen2] at hcell hle' hn2
            have hn2' : n < (bytesOf2 rs).length → kk < (allN ((bytesOf2 rs).take (n + 1))).length := fun h => by rw [← qen2]; exact hn2 h
            obtain ⟨sT, eT⟩ := Sc.tears (bytesOf2 rs) (fun p hp => ⟨ybs p hp, hlens p hp⟩) kk n (by rw [bytesOf2_len]; exact hn) hn1.out hn2'
            rw [← HA2.out] at sT eT
            have f3 : (kk : Int) ≤ (cap : Int) := by omega
            have f4 : (n : Int) ≤ (cl : Int) := by omega
            have hbT : Bs wr (.slice (some ⟨ga, 0, none⟩) kk cap) (A.take kk) := hoA.bs.front kk hkk
            have lT : (A.take kk).length = kk := by simp; omega
            have C1 : Calls Tryd.prog 16 #[.slice (some ⟨ga, 0, none⟩) kk cap] wr (ScanPost wr (A.take kk)) := scan_any _ _ wr hbT (Or.inr ⟨ga, 0, cap, by rw [lT]⟩) (yA.take kk) (by omega) (ht.below hB htl)
            have HE0 : Hid (n = 0 → (allN ((bytesOf2 rs).take n)).length = 0) := fun h => by rw [h]; rfl
            have endn : ∀ q, n = q + 1 → ∃ g', (some ⟨g, 0, none⟩ : Option Addr) = some ⟨g', 0, none⟩ ∧ rs.length ≤ ce ∧ ce ≤ maxLen ∧ wr.cell? ⟨g', q, none⟩ = some (.int .i64 ((allN ((bytesOf2 rs).take n)).length : Int)) := fun q hq => by
              rw [hq]; exact ends q (by omega)
            generalize (allN ((bytesOf2 rs).take n)).length = en at *
            clear lT hbT ends hn1 hn2 hn2' qen2
            by_cases hn0 : n = 0
            · obtain rfl := HE0.out hn0
              subst hn0
              clear endn
              go_wp2_with fail
              refine C1.mono ?_
              rintro e w1 ⟨ao1, cap1, rs1, m1, rfl, hos1, hsc1, hend1, B1⟩
              obtain ⟨hq, rfl⟩ := hsc1.uniq hend1 sT eT
              have B1' : Below w.heap.size w w1 := hB.trans (B1.mono hB.size)
              have n1 := hsc1.many
              have lm1 := hsc1.le; rw [List.length_take] at lm1
              rw [bytesOf2_len] at n1
              have C2 := rows_any _ _ rs1 (rs.take 0) w1 (hos1.rs (by omega)) ((hl.below B1').take 0 hn)
              rw [eqR_true (hq.trans (bytesOf2_take rs 0).symm)] at C2
              have C3 := fun W hW => known_any W (ht.below (B := w.heap.size) (w' := W) hW htl)
              clear C1 hos1 hsc1 hend1 sT eT hq n1 lm1
              go_wp2_with fail
              refine C2.mono ?_
              rintro e w2 ⟨rfl, hs2⟩
              have B2 : Below w.heap.size w w2 := B1'.trans (hs2.below _)
              go_wp2_with fail
              refine (C3 w2 B2).mono ?_
              rintro e w3 ⟨rfl, hB3⟩
              go_wp2
              go_ret
              exact ⟨rfl, B2.trans (hB3.mono B2.size)⟩
            · obtain ⟨q, rfl⟩ : ∃ q, n = q + 1 := ⟨n - 1, by omega⟩
              obtain ⟨ge, hge, hce1, hce2, hce⟩ := endn q rfl
              simp only [Option.some.injEq, Addr.mk.injEq, and_true] at hge
              subst hge
              have hgl := World.block_lt_of_cell? wr _ hce
              unfold maxLen at hce2
              clear endn HE0 hn0
              go_wp2_with fail
              refine C1.mono ?_
              rintro e w1 ⟨ao1, cap1, rs1, m1, rfl, hos1, hsc1, hend1, B1⟩
              obtain ⟨hq, rfl⟩ := hsc1.uniq hend1 sT eT
              have B1' : Below w.heap.size w w1 := hB.trans (B1.mono hB.size)
              have hce' : w1.cell? ⟨g, q, none⟩ = some (.int .i64 (m1 : Int)) := (B1.cell (p := ⟨g, q, none⟩) hgl).trans hce
              have n1 := hsc1.many
              have lm1 := hsc1.le; rw [List.length_take] at lm1
              rw [bytesOf2_len] at n1
              have C2 := rows_any _ _ rs1 (rs.take (q + 1)) w1 (hos1.rs (by omega)) ((hl.below B1').take (q + 1) hn)
              rw [eqR_true (hq.trans (bytesOf2_take rs (q + 1)).symm)] at C2
              have C3 := fun W hW => known_any W (ht.below (B := w.heap.size) (w' := W) hW htl)
              have q1 : (0 : Int) ≤ (q : Int) := by omega
              have q2 : (q : Int) < (rs.length : Int) := by omega
              clear C1 hos1 hsc1 hend1 sT eT hq n1 lm1 hce
              go_wp2_with fail
              refine C2.mono ?_
              rintro e w2 ⟨rfl, hs2⟩
              have B2 : Below w.heap.size w w2 := B1'.trans (hs2.below _)
              go_wp2_with fail
              refine (C3 w2 B2).mono ?_
              rintro e w3 ⟨rfl, hB3⟩
              go_wp2
              go_ret
              exact ⟨rfl, B2.trans (hB3.mono B2.size)⟩
        · have hn2 : n < (bytesOf2 rs).length → kk < (allN ((bytesOf2 rs).take (n + 1))).length := fun h => by rw [bytesOf2_len] at h; omega
          have f2 : ¬ (n : Int) < (rs.length : Int) := by omega
          obtain ⟨sT, eT⟩ := Sc.tears (bytesOf2 rs) (fun p hp => ⟨ybs p hp, hlens p hp⟩) kk n (by rw [bytesOf2_len]; exact hn) hn1.out hn2
          rw [← HA2.out] at sT eT
          have f3 : (kk : Int) ≤ (cap : Int) := by omega
          have f4 : (n : Int) ≤ (cl : Int) := by omega
          have hbT : Bs wr (.slice (some ⟨ga, 0, none⟩) kk cap) (A.take kk) := hoA.bs.front kk hkk
          have lT : (A.take kk).length = kk := by simp; omega
          have C1 : Calls Tryd.prog 16 #[.slice (some ⟨ga, 0, none⟩) kk cap] wr (ScanPost wr (A.take kk)) := scan_any _ _ wr hbT (Or.inr ⟨ga, 0, cap, by rw [lT]⟩) (yA.take kk) (by omega) (ht.below hB htl)
          have HE0 : Hid (n = 0 → (allN ((bytesOf2 rs).take n)).length = 0) := fun h => by rw [h]; rfl
          have endn : ∀ q, n = q + 1 → ∃ g, ae = some ⟨g, 0, none⟩ ∧ rs.length ≤ ce ∧ ce ≤ maxLen ∧ wr.cell? ⟨g, q, none⟩ = some (.int .i64 ((allN ((bytesOf2 rs).take n)).length : Int)) := fun q hq => by
            rw [hq]; exact ends q (by omega)
          generalize (allN ((bytesOf2 rs).take n)).length = en at *
          clear lT hbT ends hn1 hn2
          by_cases hn0 : n = 0
          · exact absurd hn0 (by omega)
          · obtain ⟨q, rfl⟩ : ∃ q, n = q + 1 := ⟨n - 1, by omega⟩
            obtain ⟨ge, rfl, hce1, hce2, hce⟩ := endn q rfl
            have hgl := World.block_lt_of_cell? wr _ hce
            unfold maxLen at hce2
            clear endn HE0 hn0
            go_wp2_with fail
            refine C1.mono ?_
            rintro e w1 ⟨ao1, cap1, rs1, m1, rfl, hos1, hsc1, hend1, B1⟩
            obtain ⟨hq, rfl⟩ := hsc1.uniq hend1 sT eT
            have B1' : Below w.heap.size w w1 := hB.trans (B1.mono hB.size)
            have hce' : w1.cell? ⟨ge, q, none⟩ = some (.int .i64 (m1 : Int)) := (B1.cell (p := ⟨ge, q, none⟩) hgl).trans hce
            have n1 := hsc1.many
            have lm1 := hsc1.le; rw [List.length_take] at lm1
            rw [bytesOf2_len] at n1
            have C2 := rows_any _ _ rs1 (rs.take (q + 1)) w1 (hos1.rs (by omega)) ((hl.below B1').take (q + 1) hn)
            rw [eqR_true (hq.trans (bytesOf2_take rs (q + 1)).symm)] at C2
            have C3 := fun W hW => known_any W (ht.below (B := w.heap.size) (w' := W) hW htl)
            have q1 : (0 : Int) ≤ (q : Int) := by omega
            have q2 : (q : Int) < (rs.length : Int) := by omega
            clear C1 hos1 hsc1 hend1 sT eT hq n1 lm1 hce
            go_wp2_with fail
            refine C2.mono ?_
            rintro e w2 ⟨rfl, hs2⟩
            have B2 : Below w.heap.size w w2 := B1'.trans (hs2.below _)
            go_wp2_with fail
            refine (C3 w2 B2).mono ?_
            rintro e w3 ⟨rfl, hB3⟩
            go_wp2
            go_ret
            exact ⟨rfl, B2.trans (hB3.mono B2.size)⟩
end Go.Proofs.YteinhklopnlgbaaDoor
