/-
  Joined from: SegTake, SegAdd, SegAll.
-/
import Derived.Test.YtnkjhooeklodcaaGreatDoorM06
import Derived.Test.YtnkjhooeklodcaaGreatDoorM20
section
/-
  takeEntry: the entry at the beginning of bytes.
-/
namespace Go.Proofs.YtnkjhooeklodcaaGreatDoor.Fr
open Go.RowKit

theorem numR_suf : ∀ (f k u : Nat) (zs : List Int), ∃ n, n ≤ zs.length ∧ (numR f k u zs).2.1 = zs.drop n
  | 0, _, _, zs => ⟨zs.length, Nat.le_refl _, by simp [numR]⟩
  | _ + 1, _, _, [] => ⟨0, Nat.le_refl _, rfl⟩
  | f + 1, k, u, z :: r => by
    by_cases h : 128 ≤ z
    · rw [numR_more h]
      obtain ⟨n, h1, h2⟩ := numR_suf f (k + 1) (u + (z.toNat % 128) * 128 ^ k) r
      exact ⟨n + 1, by simpa using h1, by rw [h2]; rfl⟩
    · cases hb : badB k z with
      | true => rw [numR_bad h hb]; exact ⟨(z :: r).length, Nat.le_refl _, by simp⟩
      | false => rw [numR_good h hb]; exact ⟨1, by simp, rfl⟩
theorem numR_nil (f k u : Nat) : (numR f k u []).1 = 0 := by cases f <;> rfl
/-- The entry at the beginning of bytes, if it is number n. -/
def takeR (n : Int) (zs : List Int) : Option (List Int) := if decE zs = 0 ∧ (numR 10 0 0 (decP zs)).1 = n then some (numR 10 0 0 (decP zs)).2.1 else none
/-- What takeEntry answers. -/
def TkP (w : World) (n : Int) (zs : List Int) (e : Ending) (w' : World) : Prop :=
  (∃ p, takeR n zs = some p ∧ ∃ v, e = .returned (.tuple #[v, .int .i64 (decN zs), .int .i64 0]) ∧ Bs w' v p ∧ Byt p ∧ ∀ k, v.ownBlock = some k → w.heap.size ≤ k ∧ k < w'.heap.size) ∨
  (takeR n zs = none ∧ ∃ v x er, e = .returned (.tuple #[v, x, .int .i64 er]) ∧ er ≠ 0)
set_option maxHeartbeats 2000000 in
set_option maxRecDepth 100000 in
theorem takeEntry_any {F : Nat → Prop} {lb sb : Nat} {pre : List UInt8} {ev nv : Value} {es : List En} {las : Nat} {ns : List (List UInt8)} {sz : Nat} {dead : Bool}
    (sv : Value) (zs : List Int) (w : World) (h : Lg w F lb sb pre ev nv es las ns sz dead) (hb : Bs w sv zs) (hy : Byt zs) (hz : zs.length ≤ 100000000000000) (ht : Tab w) :
    Calls Tryz.prog 111 #[.pointer (some ⟨lb, 0, none⟩), sv] w fun e w' => TkP w ((es.length : Int) + 1) zs e w' ∧ Below w.heap.size w w' := by
  have C1 := dec_any sv zs w hb hy hz ht
  obtain ⟨ao, cap, hsv, hm⟩ := hb.len
  subst hsv
  have hn := decN_le zs
  have hpy := decP_byt hy
  by_cases h1 : decE zs = 0
  · rw [h1] at C1
    have HT : Hid (takeR ((es.length : Int) + 1) zs = if (numR 10 0 0 (decP zs)).1 = (es.length : Int) + 1 then some (numR 10 0 0 (decP zs)).2.1 else none) := by
      show _ = _
      unfold takeR
      simp [h1]
    have hpl : (decP zs).length ≤ 65536 := by
      rw [decP_good h1]
      have := heldN_le (decE_inv h1).1
      simp
      omega
    clear hb hz
    generalize decP zs = P at *
    go_enter Tryz.func111, Tryz.ntmps111
    go_wp2_with fail
    refine C1.mono ?_
    rintro e w1 ⟨ao1, cap1, rfl, ho1, hB1⟩
    go_wp2_with fail
    refine (newReader_any _ P _ ho1.bs (by omega)).mono ?_
    rintro e w2 ⟨rb, rv, rfl, hr2, hB2, hrb, hrv⟩
    have hB02 : Below w.heap.size w w2 := hB1.trans (hB2.mono hB1.size)
    have ho2 := ho1.grew hB2 (Nat.le_refl _)
    go_wp2_with fail
    refine (rnum_any rb rv P w2 hr2 hpy).mono ?_
    rintro e w3 ⟨rfl, v3, hr3, hs3, hv3⟩
    have hB3 : Below w1.heap.size w2 w3 := hs3.below hrb hB2.size
    have hB03 : Below w.heap.size w w3 := hB02.trans (hB3.mono hB1.size)
    have ho3 : Ow w3 w.heap.size (.slice ao1 P.length cap1) P := ho2.keep fun k hk hlt => hs3.block k hlt (by have := (World.ownsRow.lt ho1 k hk).2; omega)
    have h3 := h.below hB03
    have HQ : Hid (∃ n, n ≤ P.length ∧ (numR 10 0 0 P).2.1 = P.drop n) := numR_suf 10 0 0 P
    have HN : Hid (P = [] → (numR 10 0 0 P).1 = 0) := fun e => by rw [e]; exact numR_nil _ _ _
    clear hB02 hB3 hs3 ho2 hr2 hB2 hrv hv3 ht h C1
    generalize numR 10 0 0 P = q at *
    obtain ⟨q1, q2, q3⟩ := q
    simp only at hr3
    by_cases hq : q1 = (es.length : Int) + 1
    · have hne : (q1 != (es.length : Int) + 1) = false := by simp [hq]
      obtain ⟨n, hn1, hn2⟩ := HQ.out
      simp only at hn2
      have hP : P ≠ [] := fun e => by have := HN.out e; simp only at this; omega
      have HT' : Hid (takeR ((es.length : Int) + 1) zs = some q2) := by
        show _ = _
        rw [HT.out]; simp [hq]
      go_wp2_with fail
      refine (next_any w3 h3).mono ?_
      rintro e w4 ⟨rfl, hw4⟩
      obtain rfl := hw4.symm
      go_wp2_with fail
      refine (left_any rb v3 q2 q3 w3 hr3).mono ?_
      rintro e w4 ⟨rfl, hw4⟩
      obtain rfl := hw4.symm
      obtain ⟨ao', cap', hsl, ⟨rfl, rfl, e0⟩ | ⟨g, cur, rfl, hbg, hlg, hg, hn', hc, hs, ht⟩⟩ := ho3.form
      · exact absurd e0 hP
      · cases hsl
        have hb3 := Bs.suffix ho3.bs n hn1 hP
        have hlq : q2.length = P.length - n := by rw [hn2]; simp
        rw [hlq]
        have w1' : IntKind.i64.wrap ((P.length : Int) - ((P.length - n : Nat) : Int)) = (n : Int) := by rw [IntKind.wrap_i64]; omega
        have f1 : (0 : Int) ≤ (n : Int) := by omega
        have f2 : (n : Int) ≤ (P.length : Int) := by omega
        have HL : Hid (q2.length = P.length - n) := hlq
        have HB : Hid (Bs w4 (.slice (some ⟨g, 0 + n, none⟩) (P.length - n) (cap1 - n)) q2) := by rw [hn2]; exact hb3
        have HY : Hid (Byt q2) := by rw [hn2]; exact hpy.drop n
        clear hb3 hn2 hs ht hg ho3 ho1 hr3 h3 hq hne HN HQ hP hpy hlq
        go_wp2_with fail
        · rename_i hcn
          go_ret3
          have h0 : P.length - n = 0 := by omega
          have hq2 : q2 = [] := List.eq_nil_of_length_eq_zero (by rw [HL.out]; exact h0)
          refine ⟨Or.inl ⟨q2, HT'.out, .slice (some ⟨g, 0, none⟩) (P.length - n) 0, rfl, ?_, HY.out, ?_⟩, hB03⟩
          · exact Or.inl ⟨hq2, _, 0, by rw [h0], by unfold maxLen; omega, fun e => by cases e⟩
          · intro k hk
            obtain rfl : g = k := by simpa [Value.ownBlock] using hk
            exact ⟨hbg, hlg⟩
        · go_ret3
          refine ⟨Or.inl ⟨q2, HT'.out, .slice (some ⟨g, n, none⟩) (P.length - n) (cap1 - n), rfl, ?_, HY.out, ?_⟩, hB03⟩
          · have := HB.out
            rw [Nat.zero_add] at this
            exact this
          · intro k hk
            obtain rfl : g = k := by simpa [Value.ownBlock] using hk
            exact ⟨hbg, hlg⟩
    · have hne : (q1 != (es.length : Int) + 1) = true := by simp [hq]
      have HT' : Hid (takeR ((es.length : Int) + 1) zs = none) := by
        show _ = _
        rw [HT.out]; simp [hq]
      go_wp2_with fail
      refine (next_any w3 h3).mono ?_
      rintro e w4 ⟨rfl, hw4⟩
      obtain rfl := hw4.symm
      clear hq
      go_wp2_with fail
      go_ret3
      exact ⟨Or.inr ⟨HT'.out, _, _, _, rfl, by decide⟩, hB03⟩
  · have HT' : Hid (takeR ((es.length : Int) + 1) zs = none) := by
      show _ = _
      unfold takeR
      simp [h1]
    have hne : (decE zs != 0) = true := by simp [h1]
    clear hb hz
    generalize decE zs = er at *
    go_enter Tryz.func111, Tryz.ntmps111
    go_wp2_with fail
    refine C1.mono ?_
    rintro e w1 ⟨ao1, cap1, rfl, ho1, hB1⟩
    go_wp2_with fail
    go_ret3
    exact ⟨Or.inr ⟨HT'.out, _, _, _, rfl, h1⟩, hB1⟩
end Go.Proofs.YtnkjhooeklodcaaGreatDoor.Fr
end

section
/-
  What a store leaves of a log: an entry more, a name more, another size.
-/
namespace Go.Proofs.YtnkjhooeklodcaaGreatDoor
open Go.RowKit Go.Maps Go.Sort

variable {w w' : World} {F : Nat → Prop} {lb sb : Nat} {pre : List UInt8} {ev nv : Value} {es : List En} {las : Nat} {ns : List (List UInt8)} {sz : Nat} {dead : Bool}
theorem set_other (w : World) (lb i k : Nat) (v : Value) (h : k ≠ lb) : (w.setCell ⟨lb, i, none⟩ v).heap[k]? = w.heap[k]? := Below.heap_setCell _ _ _ _ h
theorem set_size (w : World) (lb i : Nat) (v : Value) : (w.setCell ⟨lb, i, none⟩ v).heap.size = w.heap.size := by simp [World.setCell]
theorem wpList_append_en (w : World) {ops : Array Oper} {rest : List Oper} {o : Oper} {a : Act} {Q : Exit → Act → World → Prop} (hgd : o.guard = none) (s x : Operand)
    (ho : o.op = .call { callee := .builtin .append, args := #[s, x], argTypes := #[29, 29] })
    (v : Value) (n : Nat) (us : List Value) (hs : a.eval s = v) (hown : w.ownsRow 0 38 1 v n us) (B : Nat) (u : Value) (hu1 : u.oneCell' = true) (hx : a.eval x = .slice (some ⟨B, 0, none⟩) 1 1) (hb : w.cell? ⟨B, 0, none⟩ = some u)
    (h63 : n ≤ 1000000000)
    (h : ∀ ao cap w', w'.ownsRow 0 38 1 (.slice ao (n + 1) cap) (n + 1) (us ++ [u]) → w.grownBy w' v.ownBlock → ((Value.slice ao (n + 1) cap).ownBlock = v.ownBlock ∨ (Value.slice ao (n + 1) cap).ownBlock = some w.heap.size) →
      wpList Tryz.prog ops Q rest (a.put o.dst (.slice ao (n + 1) cap)) w') : wpList Tryz.prog ops Q (o :: rest) a w := by
  obtain ⟨i0, hi, hz0, hz1, hz2⟩ := info_parts Fr.Tz.info22
  obtain ⟨v', w', hrun, h2, h3, _, h5⟩ := run_append_own_at (P := Tryz.prog) w 0 29 o.type 38 i0 (.slice none 0 0) 1 24 Tryz.underlying29 hi hz0 hz1 hz2 rfl (by decide) v n us hown ⟨B, 0, none⟩ 1 1 [u] rfl
    (by intro j y hy
        cases j with
        | zero => rw [Addr.add_lit]; simp at hy; subst hy; exact hb
        | succ j => simp at hy) (by intro y hy; simp at hy; subst hy; exact hu1) (by unfold maxLen; omega) (by omega) (Nat.zero_le _)
  have hv' : ∃ ao cap, v' = .slice ao (n + 1) cap := by
    rcases h2.2 with ⟨_, h6⟩ | ⟨g, cap, cur, h6, _⟩
    · omega
    · exact ⟨some ⟨g, 0, none⟩, cap, h6⟩
  obtain ⟨ao, cap, rfl⟩ := hv'
  refine wpList_plain hgd fun _ hK => ?_
  unfold Oper.wp execOp
  simp only [ho, resolve, invoke, builtin, Sem.run_bind, Sem.run_pure, Result.andThen_ok, List.map_toArray, List.map_cons, List.map_nil, hs, hx, hrun]
  exact hK _ _ (h ao cap w' h2 h3 h5)
theorem wpList_append_nm (w : World) {ops : Array Oper} {rest : List Oper} {o : Oper} {a : Act} {Q : Exit → Act → World → Prop} (hgd : o.guard = none) (s x : Operand)
    (ho : o.op = .call { callee := .builtin .append, args := #[s, x], argTypes := #[69, 69] })
    (base : Nat) (v : Value) (ss : List (List UInt8)) (hs : a.eval s = v) (hown : Ot w base v ss) (B : Nat) (n : List UInt8) (hx : a.eval x = .slice (some ⟨B, 0, none⟩) 1 1) (hb : w.cell? ⟨B, 0, none⟩ = some (encStr n))
    (h63 : ss.length ≤ 1000000000) (hbase : base ≤ w.heap.size)
    (h : ∀ ao cap w', Ot w' base (.slice ao (ss.length + 1) cap) (ss ++ [n]) → w.grownBy w' v.ownBlock → ((Value.slice ao (ss.length + 1) cap).ownBlock = v.ownBlock ∨ (Value.slice ao (ss.length + 1) cap).ownBlock = some w.heap.size) →
      wpList Tryz.prog ops Q rest (a.put o.dst (.slice ao (ss.length + 1) cap)) w') : wpList Tryz.prog ops Q (o :: rest) a w := by
  obtain ⟨i0, hi, hz0, hz1, hz2⟩ := info_parts Tryz.info9p
  obtain ⟨v', w', hrun, h2, h3, _, h5⟩ := run_append_own_at (P := Tryz.prog) w base 69 o.type 9 i0 (.string ⟨#[]⟩) 1 16 Tryz.underlying69 hi hz0 hz1 hz2 rfl (by decide) v ss.length (ss.map encStr) hown ⟨B, 0, none⟩ 1 1 [encStr n] rfl
    (by intro j u hu
        cases j with
        | zero => rw [Addr.add_lit]; simp at hu; subst hu; exact hb
        | succ j => simp at hu) (by intro u hu; simp at hu; subst hu; rfl) (by unfold maxLen; omega) (by omega) hbase
  have h2' : Ot w' base v' (ss ++ [n]) := by
    unfold Ot
    rw [List.length_append]
    simpa using h2
  obtain ⟨ao, cap, hv⟩ := h2'.form
  rw [List.length_append] at hv
  subst hv
  refine wpList_plain hgd fun _ hK => ?_
  unfold Oper.wp execOp
  simp only [ho, resolve, invoke, builtin, Sem.run_bind, Sem.run_pure, Result.andThen_ok, List.map_toArray, List.map_cons, List.map_nil, hs, hx, hrun]
  exact hK _ _ (h ao cap w' h2' h3 h5)
/-- An entry more. -/
theorem Lg.add (h : Lg w F lb sb pre ev nv es las ns sz dead) (u : Value) (p : List Int) (hu : Bs w u p) (hy : Byt p) (hl : p.length ≤ 65536)
    (huF : ∀ k, u.ownBlock = some k → F k ∧ k ≠ lb ∧ ev.ownBlock ≠ some k ∧ nv.ownBlock ≠ some k ∧ k < w.heap.size)
    (w2 : World) (ev' : Value) (hrow : w2.ownsRow 0 38 1 ev' (es.length + 1) (enOf es ++ [u])) (hg : w.grownBy w2 ev.ownBlock) (hat : ev'.ownBlock = ev.ownBlock ∨ ev'.ownBlock = some w.heap.size) (hF : F w.heap.size) (hf : es.length + 1 ≤ 10000000) :
    Lg (w2.setCell ⟨lb, 2, none⟩ ev') F lb sb pre ev' nv (es ++ [(u, p)]) las ns sz dead := by
  have hlb := h.blk.lt
  have hne : ∀ k, ev'.ownBlock = some k → k ≠ lb ∧ (ev.ownBlock = some k ∨ k = w.heap.size) := by
    intro k hk
    rcases hat with e | e
    · rw [e] at hk
      exact ⟨(h.sep.1 k hk).2.1, Or.inl hk⟩
    · rw [e] at hk
      have := Option.some.inj hk
      exact ⟨by omega, Or.inr this.symm⟩
  have hkeep : ∀ k, k < w.heap.size → ev.ownBlock ≠ some k → k ≠ lb → (w2.setCell ⟨lb, 2, none⟩ ev').heap[k]? = w.heap[k]? := fun k h1 h2 h3 => (set_other _ _ _ _ _ h3).trans (hg.block k h1 fun e => h2 e.symm)
  have hb2 : Cw w2 lb _ 93 := h.blk.keep (hg.block lb hlb fun e => (h.sep.1 lb e.symm).2.1 rfl)
  have hsz : w.heap.size ≤ (w2.setCell ⟨lb, 2, none⟩ ev').heap.size := by rw [set_size]; exact hg.size
  have hnv : ∀ k, nv.ownBlock = some k → k < w.heap.size := fun k hk => (World.ownsRow.lt h.nam k hk).2
  refine ⟨hb2.set 2 ev', h.lF, ?_, fun r hr => ?_, ?_, ⟨fun k hk => ?_, h.sep.2⟩, ⟨by simpa using hf, h.few.2⟩⟩
  · have e1 : (es ++ [(u, p)]).length = es.length + 1 := by simp
    have e2 : enOf (es ++ [(u, p)]) = enOf es ++ [u] := by simp [enOf]
    rw [e1, e2]
    exact Fr.ownsRow_keep hrow fun k hk _ => set_other _ _ _ _ _ (hne k hk).1
  · have key : Bs w r.1 r.2 ∧ Byt r.2 ∧ r.2.length ≤ 65536 ∧ ∀ k, r.1.ownBlock = some k → F k ∧ k ≠ lb ∧ ev.ownBlock ≠ some k ∧ nv.ownBlock ≠ some k ∧ k < w.heap.size := by
      rcases List.mem_append.1 hr with hm | hm
      · exact h.each r hm
      · obtain rfl : r = (u, p) := by simpa using hm
        exact ⟨hu, hy, hl, huF⟩
    obtain ⟨k1, k2, k3, k4⟩ := key
    refine ⟨k1.keep fun k hk hlt => hkeep k hlt (k4 k hk).2.2.1 (k4 k hk).2.1, k2, k3, fun k hk => ⟨(k4 k hk).1, (k4 k hk).2.1, fun e => ?_, (k4 k hk).2.2.2.1, by have := (k4 k hk).2.2.2.2; omega⟩⟩
    rcases (hne k e).2 with e' | e'
    · exact (k4 k hk).2.2.1 e'
    · have := (k4 k hk).2.2.2.2
      omega
  · exact Fr.ownsRow_keep h.nam fun k hk hlt => hkeep k hlt (fun e => (h.sep.1 k e).2.2 hk) (h.sep.2 k hk).2
  · rcases (hne k hk).2 with e | e
    · exact h.sep.1 k e
    · subst e
      exact ⟨hF, by omega, fun e => by have := hnv _ e; omega⟩
/-- A name more. -/
theorem Lg.addN (h : Lg w F lb sb pre ev nv es las ns sz dead) (n : List UInt8)
    (w2 : World) (nv' : Value) (hrow : Ot w2 0 nv' (ns ++ [n])) (hg : w.grownBy w2 nv.ownBlock) (hat : nv'.ownBlock = nv.ownBlock ∨ nv'.ownBlock = some w.heap.size) (hF : F w.heap.size) (hf : ns.length + 1 ≤ 10000000) :
    Lg (w2.setCell ⟨lb, 4, none⟩ nv') F lb sb pre ev nv' es las (ns ++ [n]) sz dead := by
  have hlb := h.blk.lt
  have hne : ∀ k, nv'.ownBlock = some k → k ≠ lb ∧ (nv.ownBlock = some k ∨ k = w.heap.size) := by
    intro k hk
    rcases hat with e | e
    · rw [e] at hk
      exact ⟨(h.sep.2 k hk).2, Or.inl hk⟩
    · rw [e] at hk
      have := Option.some.inj hk
      exact ⟨by omega, Or.inr this.symm⟩
  have hkeep : ∀ k, k < w.heap.size → nv.ownBlock ≠ some k → k ≠ lb → (w2.setCell ⟨lb, 4, none⟩ nv').heap[k]? = w.heap[k]? := fun k h1 h2 h3 => (set_other _ _ _ _ _ h3).trans (hg.block k h1 fun e => h2 e.symm)
  have hb2 : Cw w2 lb _ 93 := h.blk.keep (hg.block lb hlb fun e => (h.sep.2 lb e.symm).2 rfl)
  have hsz : w.heap.size ≤ (w2.setCell ⟨lb, 4, none⟩ nv').heap.size := by rw [set_size]; exact hg.size
  have hev : ∀ k, ev.ownBlock = some k → k < w.heap.size := fun k hk => (World.ownsRow.lt h.ent k hk).2
  refine ⟨hb2.set 4 nv', h.lF, ?_, fun r hr => ?_, ?_, ⟨fun k hk => ?_, fun k hk => ?_⟩, ⟨h.few.1, by simpa using hf, h.few.2.2⟩⟩
  · exact Fr.ownsRow_keep h.ent fun k hk hlt => hkeep k hlt (h.sep.1 k hk).2.2 (h.sep.1 k hk).2.1
  · obtain ⟨k1, k2, k3, k4⟩ := h.each r hr
    refine ⟨k1.keep fun k hk hlt => hkeep k hlt (k4 k hk).2.2.2.1 (k4 k hk).2.1, k2, k3, fun k hk => ⟨(k4 k hk).1, (k4 k hk).2.1, (k4 k hk).2.2.1, fun e => ?_, by have := (k4 k hk).2.2.2.2; omega⟩⟩
    rcases (hne k e).2 with e' | e'
    · exact (k4 k hk).2.2.2.1 e'
    · have := (k4 k hk).2.2.2.2
      omega
  · exact Fr.ownsRow_keep hrow fun k hk _ => set_other _ _ _ _ _ (hne k hk).1
  · refine ⟨(h.sep.1 k hk).1, (h.sep.1 k hk).2.1, fun e => ?_⟩
    rcases (hne k e).2 with e' | e'
    · exact (h.sep.1 k hk).2.2 e'
    · have := hev k hk
      omega
  · rcases (hne k hk).2 with e | e
    · exact h.sep.2 k e
    · subst e
      exact ⟨hF, by omega⟩
theorem Lg.set1 (h : Lg w F lb sb pre ev nv es las ns sz dead) (i : Nat) (v : Value) (las' sz' : Nat) (dead' : Bool) (hf : las' ≤ 10000000 ∧ sz' ≤ 1073741824)
    (hc : [.pointer (some ⟨sb, 0, none⟩), encStr pre, ev, .int .i64 (las' : Int), nv, .int .i64 (sz' : Int), .bool dead'] = ([.pointer (some ⟨sb, 0, none⟩), encStr pre, ev, .int .i64 (las : Int), nv, .int .i64 (sz : Int), .bool dead] : List Value).set i v) :
    Lg (w.setCell ⟨lb, i, none⟩ v) F lb sb pre ev nv es las' ns sz' dead' := by
  refine ⟨by rw [hc]; exact h.blk.set i v, h.lF, Fr.ownsRow_keep h.ent fun k hk _ => set_other _ _ _ _ _ (h.sep.1 k hk).2.1, fun r hr => ?_, Fr.ownsRow_keep h.nam fun k hk _ => set_other _ _ _ _ _ (h.sep.2 k hk).2, h.sep, ⟨h.few.1, h.few.2.1, hf.1, hf.2, h.few.2.2.2.2⟩⟩
  obtain ⟨k1, k2, k3, k4⟩ := h.each r hr
  exact ⟨k1.keep fun k hk hlt => set_other _ _ _ _ _ (k4 k hk).2.1, k2, k3, fun k hk => by rw [set_size]; exact k4 k hk⟩
theorem Lg.setSz (h : Lg w F lb sb pre ev nv es las ns sz dead) (m : Nat) (hm : m ≤ 1073741824) : Lg (w.setCell ⟨lb, 5, none⟩ (.int .i64 (m : Int))) F lb sb pre ev nv es las ns m dead := h.set1 5 _ las m dead ⟨h.few.2.2.1, hm⟩ rfl
theorem Lg.setLas (h : Lg w F lb sb pre ev nv es las ns sz dead) (m : Nat) (hm : m ≤ 10000000) : Lg (w.setCell ⟨lb, 3, none⟩ (.int .i64 (m : Int))) F lb sb pre ev nv es m ns sz dead := h.set1 3 _ m sz dead ⟨hm, h.few.2.2.2.1⟩ rfl
theorem Lg.kill (h : Lg w F lb sb pre ev nv es las ns sz dead) : Lg (w.setCell ⟨lb, 6, none⟩ (.bool true)) F lb sb pre ev nv es las ns sz true := h.set1 6 _ las sz true ⟨h.few.2.2.1, h.few.2.2.2.1⟩ rfl
end Go.Proofs.YtnkjhooeklodcaaGreatDoor
end

section
/-
  take: a segment is taken in.
-/
namespace Go.Proofs.YtnkjhooeklodcaaGreatDoor
open Go.RowKit Go.Maps Go.Sort
open Fr (takeR decN decE decP numR)

theorem run_slice_bs (w : World) (v : Value) (zs : List Int) (hv : Bs w v zs) (k : Nat) (hk : k ≤ zs.length) : ∃ u, (Instr.slice 38 v (some (.int .i64 (k : Int))) none none).run Tryz.prog w = .ok u w ∧ Bs w u (zs.drop k) := by
  obtain ⟨i0, hi, hz0, hz1, hz2⟩ := info_parts Tryz.info5
  have hsz : ∀ W : World, (sizeOf 5).run Tryz.prog W = .ok 1 W := fun W => by simp [sizeOf, typeInfo, hi, hz1]
  rcases hv with ⟨rfl, ao, cap, rfl, hc, hn⟩ | ⟨hne, b, off, cap, rfl, hc, hm, hcell⟩
  · obtain rfl : k = 0 := by simpa using hk
    refine ⟨.slice ao 0 cap, ?_, Or.inl ⟨rfl, ao, cap, rfl, hc, hn⟩⟩
    cases ao with
    | none =>
      obtain rfl := hn rfl
      simp [Instr.slice, run_underlying Tryz.underlying38, Instr.sliceBounds, Instr.sliceBound, asIntOf, hsz]
    | some a =>
      simp [Instr.slice, run_underlying Tryz.underlying38, Instr.sliceBounds, Instr.sliceBound, asIntOf, hsz]
      intro _
      cases a
      rfl
  · have hb := Fr.Bs.suffix (w := w) (Or.inr ⟨hne, b, off, cap, rfl, hc, hm, hcell⟩) k hk hne
    unfold maxLen at hm
    have h4 : k ≤ zs.length := hk
    by_cases hck : cap = k
    · have e0 : zs.length - k = 0 := by omega
      refine ⟨.slice (some ⟨b, off, none⟩) (zs.length - k) 0, ?_, Or.inl ⟨List.drop_eq_nil_of_le (by omega), some ⟨b, off, none⟩, 0, by rw [e0], by unfold maxLen; omega, fun e => by cases e⟩⟩
      simp [Instr.slice, run_underlying Tryz.underlying38, Instr.sliceBounds, Instr.sliceBound, asIntOf, hsz, h4, hck]
    · refine ⟨_, ?_, hb⟩
      simp [Instr.slice, run_underlying Tryz.underlying38, Instr.sliceBounds, Instr.sliceBound, asIntOf, hsz, h4, hck, Addr.add_lit]
theorem wpList_slice_bs (w : World) {ops : Array Oper} {rest : List Oper} {o : Oper} {a : Act} {Q : Exit → Act → World → Prop} (hgd : o.guard = none) (x lo : Operand) (ho : o.op = .slice 38 x (some lo) none none)
    (v : Value) (zs : List Int) (hx : a.eval x = v) (hv : Bs w v zs) (k : Nat) (hh : a.eval lo = .int .i64 (k : Int)) (hk : k ≤ zs.length)
    (h : ∀ u, Bs w u (zs.drop k) → wpList Tryz.prog ops Q rest (a.put o.dst u) w) : wpList Tryz.prog ops Q (o :: rest) a w := by
  obtain ⟨u, hr, hb⟩ := run_slice_bs w v zs hv k hk
  refine wpList_plain hgd fun _ hK => ?_
  unfold Oper.wp execOp
  simp only [ho, Option.map_some, Option.map_none, Sem.run_bind, Instr.sliceAt, run_underlying Tryz.underlying38, hx, hh, hr, Result.andThen_ok, Sem.run_pure]
  exact hK _ _ (h u hb)
/-- The entries ps, from number n + 1 on, stand one behind the other in the first m bytes of zs. -/
def Tk (n : Nat) (zs : List Int) : List (List Int) → Nat → Prop
  | [], m => m = 0
  | p :: ps, m => takeR ((n : Int) + 1) zs = some p ∧ decN zs ≤ m ∧ Tk (n + 1) (zs.drop (decN zs)) ps (m - decN zs)
theorem Tk.le : ∀ {ps : List (List Int)} {n : Nat} {zs : List Int} {m : Nat}, Tk n zs ps m → m ≤ zs.length := by
  intro ps
  induction ps with
  | nil => intro n zs m h; have : m = 0 := h; omega
  | cons p ps ih =>
    intro n zs m ⟨_, h2, h3⟩
    have := ih h3
    have := Fr.decN_le zs
    simp at *
    omega
theorem Tk.snoc : ∀ {ps : List (List Int)} {n : Nat} {zs : List Int} {m : Nat} {p : List Int}, Tk n zs ps m → takeR (((n + ps.length : Nat) : Int) + 1) (zs.drop m) = some p → Tk n zs (ps ++ [p]) (m + decN (zs.drop m)) := by
  intro ps
  induction ps with
  | nil =>
    intro n zs m p h hp
    obtain rfl : m = 0 := h
    refine ⟨by simpa using hp, by simp, ?_⟩
    show _ = _
    simp
  | cons q ps ih =>
    intro n zs m p ⟨h1, h2, h3⟩ hp
    have e1 : zs.drop m = (zs.drop (decN zs)).drop (m - decN zs) := by rw [List.drop_drop]; congr 1; omega
    have e2 : n + (q :: ps).length = (n + 1) + ps.length := by simp; omega
    rw [e2, e1] at hp
    have := ih h3 hp
    rw [← e1] at this
    refine ⟨h1, by omega, ?_⟩
    have e3 : m + decN (zs.drop m) - decN zs = m - decN zs + decN (zs.drop m) := by omega
    rw [e3]
    exact this
theorem takeR_some {n : Int} {zs p : List Int} (h : takeR n zs = some p) : 12 ≤ decN zs ∧ p.length ≤ 65536 := by
  unfold takeR at h
  split at h
  · rename_i hc
    obtain ⟨k, h1, h2⟩ := Fr.numR_suf 10 0 0 (decP zs)
    refine ⟨Fr.decN_pos hc.1, ?_⟩
    obtain rfl := Option.some.inj h
    rw [h2, Fr.decP_good hc.1]
    have := Fr.heldN_le (Fr.decE_inv hc.1).1
    simp
    omega
  · cases h
theorem Tk.many : ∀ {ps : List (List Int)} {n : Nat} {zs : List Int} {m : Nat}, Tk n zs ps m → ps.length ≤ m := by
  intro ps
  induction ps with
  | nil => intro n zs m _; simp
  | cons p ps ih =>
    intro n zs m ⟨h1, h2, h3⟩
    have := ih h3
    have := (takeR_some h1).1
    simp
    omega
/-- What take's loop holds. -/
def TakeInv (w : World) (F : Nat → Prop) (lb sb : Nat) (pre : List UInt8) (nv : Value) (es : List En) (las : Nat) (ns : List (List UInt8)) (sz : Nat) (dead : Bool) (zs : List Int) (g : Value) (wr : World) : Prop :=
  ∃ (es' : List En) (m : Nat), g = .int .i64 m ∧ Tk es.length zs (es'.map (·.2)) m ∧ (∃ ev', Lg wr (Pl F w.heap.size) lb sb pre ev' nv (es ++ es') las ns sz dead) ∧ Grows F w wr
/-- What take leaves. -/
def TakeP (w : World) (F : Nat → Prop) (lb sb : Nat) (pre : List UInt8) (es : List En) (las : Nat) (ns : List (List UInt8)) (sz : Nat) (dead : Bool) (name : List UInt8) (zs : List Int) (e : Ending) (w' : World) : Prop :=
  Grows F w w' ∧
  ((name ≠ nameN pre (es.length + 1) ∧ e = .returned (.tuple #[.int .i64 0, .bool false]) ∧ ∃ ev nv, Lg w' (Pl F w.heap.size) lb sb pre ev nv es las ns sz dead) ∨
   (name = nameN pre (es.length + 1) ∧ ∃ (es' : List En) (m : Nat), Tk es.length zs (es'.map (·.2)) m ∧ takeR (((es.length + es'.length : Nat) : Int) + 1) (zs.drop m) = none ∧ e = .returned (.tuple #[.int .i64 m, .bool (decide (m = zs.length))]) ∧
     ∃ ev nv, Lg w' (Pl F w.heap.size) lb sb pre ev nv (es ++ es') las (if 0 < m ∨ m = zs.length then ns ++ [name] else ns) (if 0 < m ∨ m = zs.length then m else sz) dead))
set_option maxHeartbeats 4000000 in
set_option maxRecDepth 100000 in
theorem take_any {F : Nat → Prop} {lb sb : Nat} {pre : List UInt8} {ev nv : Value} {es : List En} {las : Nat} {ns : List (List UInt8)} {sz : Nat} {dead : Bool}
    (name : List UInt8) (dv : Value) (zs : List Int) (w : World) (h : Lg w F lb sb pre ev nv es las ns sz dead) (hb : Bs w dv zs) (hy : Byt zs) (hz : zs.length ≤ 1000000000) (hd : ∀ k, dv.ownBlock = some k → ¬ F k)
    (ht : Fr.Tab w) (hp : Pw w) (h8 : 8 ≤ w.heap.size) (hG : ∀ k, k < 8 → ¬ F k) (hfew : es.length + zs.length + 1 ≤ 5000000 ∧ ns.length ≤ 5000000) :
    Calls Tryz.prog 88 #[.pointer (some ⟨lb, 0, none⟩), encStr name, dv] w (TakeP w F lb sb pre es las ns sz dead name zs) := by
  have CN := nextName_any w h hp
  obtain ⟨ao, cap, hdv, hm⟩ := hb.len
  subst hdv
  by_cases hnm : name = nameN pre (es.length + 1)
  · have HNM := hid_into hnm
    rw [← hnm] at CN
    have hgr : ∀ w', Below w.heap.size w w' → Grows F w w' := fun w' hB => ⟨hB.os, hB.tape, hB.output, hB.size, fun k hk _ => hB.block k hk⟩
    have HS0 : Hid (∀ w', Below w.heap.size w w' → TakeInv w F lb sb pre nv es las ns sz dead zs (.int .i64 0) w') := fun w' hB =>
      ⟨[], 0, rfl, rfl, ⟨ev, by rw [List.append_nil]; exact (h.below hB).more fun k hk => Or.inl hk⟩, hgr w' hB⟩
    have HBS : Hid (∀ wr, Grows F w wr → Bs wr (.slice ao zs.length cap) zs) := fun wr hg => hb.keep fun k hk hlt => hg.block k hlt (hd k hk)
    have HTB : Hid (∀ wr, Grows F w wr → Fr.Tab wr) := fun wr hg i hi => by
      rw [World.cell?_of_block (hg.block 0 (by omega) (hG 0 (by omega)))]
      exact ht i hi
    clear h hb ht hp hnm hgr
    go_enter Tryz.func88, Tryz.ntmps88
    go_wp2_with (go_at_call 77; refine CN.mono ?_; rintro e w1 ⟨rfl, hB1⟩)
    go_loopw [6] (fun g wr => TakeInv w F lb sb pre nv es las ns sz dead zs g wr) (fun g _ => zs.length - (intOf g).toNat)
    case atStart => exact HS0.out _ hB1
    case round =>
      obtain ⟨es', m, rfl, htk, ⟨ev', hL⟩, hgrw⟩ := hrel
      have hB := HBS.out _ hgrw
      have hT := HTB.out _ hgrw
      have hmle := htk.le
      go_wp2_with (refine wpList_slice_bs _ rfl (.tmp 17) (.tmp 18) rfl _ zs rfl hB m rfl hmle ?_)
      intro u hu
      have C1 := Fr.takeEntry_any u (zs.drop m) wr hL hu ((show Fr.Byt zs from hy).drop m) (by simp; omega) hT
      have hmany := htk.many
      have e1 : (es ++ es').length = es.length + es'.length := by simp
      have e2 : (es'.map (·.2)).length = es'.length := by simp
      rw [e2] at hmany
      obtain ⟨D, hD⟩ : ∃ D, zs.drop m = D := ⟨_, rfl⟩
      have HD := hid_into hD
      rw [hD] at hu C1
      clear hD
      obtain ⟨au, cu, hue, hum⟩ := hu.len
      subst hue
      go_wp2_with fail
      refine C1.mono ?_
      rintro e w2 ⟨hTk, hB2⟩
      rcases hTk with ⟨p, hp1, v, rfl, hbv, hyv, hvk⟩ | ⟨hn1, v, x, er, rfl, hne⟩
      · obtain ⟨av, cv, hve, hvm⟩ := hbv.len
        subst hve
        have hts := takeR_some hp1
        rw [e1] at hp1
        have HTK : Hid (Tk es.length zs ((es' ++ [(Value.slice av p.length cv, p)]).map (·.2)) (m + decN D)) := by
          show Tk _ _ _ _
          rw [List.map_append, ← HD.out]
          exact htk.snoc (by rw [e2, HD.out]; exact hp1)
        have hdl := HTK.out.le
        generalize decN D = N at *
        obtain ⟨ae, ce, hee⟩ := hL.evform
        subst hee
        rw [e1] at hL
        have hA : Below w2.heap.size w2 (w2.alloc (.cells #[.slice av p.length cv] 38)) := (Below.refl _ _).alloc (Nat.le_refl _) _
        have hAw : Below wr.heap.size wr (w2.alloc (.cells #[.slice av p.length cv] 38)) := hB2.trans (hA.mono hB2.size)
        have hL3 := hL.below hAw
        have c2 : w2.cell? ⟨lb, 2, none⟩ = some (.slice ae (es.length + es'.length) ce) := (hL.below hB2).blk.cell 2
        have hcl : (w2.alloc (.cells #[.slice av p.length cv] 38)).cell? ⟨w2.heap.size, 0, none⟩ = some (.slice av p.length cv) := by
          rw [cell_of_row _ _ 0 _ _ _ (heap_alloc_new w2 _)]; rfl
        have hent : (w2.alloc (.cells #[.slice av p.length cv] 38)).ownsRow 0 38 1 (.slice ae (es.length + es'.length) ce) (es.length + es'.length) (enOf (es ++ es')) := by
          have := hL3.ent
          rw [e1] at this
          exact this
        have hn9 : es.length + es'.length ≤ 1000000000 := by omega
        have q1 : IntKind.i64.wrap ((m : Int) + (N : Int)) = ((m + N : Nat) : Int) := by rw [IntKind.wrap_i64]; omega
        have HL3 := hid_into hL3
        have HL := hid_into hL
        have HV := hid_into hvk
        have HBV := hid_into hbv
        clear hL hL3 hvk hbv hp1 htk C1 hu CN
        go_wp2_with (first
          | (refine Fr.wpList_made_row _ rfl (.tmp 31) rfl av p.length cv rfl ?_)
          | (at_builtin; refine wpList_append_en _ rfl (.tmp 30) (.tmp 32) rfl (.slice ae (es.length + es'.length) ce) (es.length + es'.length) (enOf (es ++ es')) (by rfl) hent w2.heap.size (.slice av p.length cv) rfl (by rfl) hcl hn9 ?_))
        intro ao3 cap3 w3 hrow hg hat
        have hlbW := HL3.out.blk.lt
        have hlbr := HL.out.blk.lt
        have hb3 := HL3.out.blk.keep (hg.block lb hlbW fun e => (HL3.out.sep.1 lb e.symm).2.1 rfl)
        have c3 : w3.cell? ⟨lb, 2, none⟩ = some (.slice ae (es.length + es'.length) ce) := hb3.cell 2
        have f3 : w3.frozen? ⟨lb, 2, none⟩ = false := hb3.frozen 2
        have hWs : (w2.alloc (.cells #[.slice av p.length cv] 38)).heap.size = w2.heap.size + 1 := World.size_alloc _ _
        have HL4 := hid_into (HL3.out.add (.slice av p.length cv) p (HBV.out.below hA (Nat.le_refl _)) hyv hts.2 (fun k hk => by
            have hk' := HV.out k hk
            have := hgrw.size
            refine ⟨Or.inr (by omega), by omega, fun e => ?_, fun e => ?_, by omega⟩
            · have := (World.ownsRow.lt HL.out.ent k e).2; omega
            · have := (World.ownsRow.lt HL.out.nam k e).2; omega) w3 (.slice ao3 (es.length + es'.length + 1) cap3) (by rw [e1]; exact hrow) hg (by rw [hWs]; exact hat) (Or.inr (by have := hgrw.size; have := hAw.size; omega)) (by rw [e1]; omega))
        have HG4 : Hid (Grows F w (w3.setCell ⟨lb, 2, none⟩ (.slice ao3 (es.length + es'.length + 1) cap3))) :=
          ⟨hg.os.trans (hAw.os.trans hgrw.os), hg.tape.trans (hAw.tape.trans hgrw.tape), hg.output.trans (hAw.output.trans hgrw.output), by rw [set_size]; have := hg.size; have := hAw.size; have := hgrw.size; omega, fun k hk hF => by
            have n1 : k ≠ lb := fun e => by
              subst e
              rcases HL.out.lF with h | h
              · exact hF h
              · omega
            rw [set_other _ _ _ _ _ n1, hg.block k (by have := hAw.size; have := hgrw.size; omega) (fun e => by
              rcases (HL3.out.sep.1 k e.symm).1 with h | h
              · exact hF h
              · omega), hAw.block k (by have := hgrw.size; omega)]
            exact hgrw.block k hk hF⟩
        clear hb3 hrow hg hat hent hcl hA hAw hWs hlbW hlbr hB hT e2
        go_wp2
        go_roundw
        case rel => exact ⟨es' ++ [(.slice av p.length cv, p)], m + N, rfl, HTK.out, ⟨_, by rw [← List.append_assoc]; exact HL4.out⟩, HG4.out⟩
        case measure => simp [intOf]; omega
      · rw [e1] at hn1
        obtain ⟨an, cn, hnn⟩ := hL.nvform
        subst hnn
        have hA : Below w2.heap.size w2 (w2.alloc (.cells #[encStr name] 9)) := (Below.refl _ _).alloc (Nat.le_refl _) _
        have hAw : Below wr.heap.size wr (w2.alloc (.cells #[encStr name] 9)) := hB2.trans (hA.mono hB2.size)
        have hL2 := hL.below hB2
        have HL := hid_into hL
        have HL2 := hid_into hL2
        have HL3 := hid_into (hL.below hAw)
        have c4 : w2.cell? ⟨lb, 4, none⟩ = some (.slice an ns.length cn) := hL2.blk.cell 4
        have hnam : Ot (w2.alloc (.cells #[encStr name] 9)) 0 (.slice an ns.length cn) ns := HL3.out.nam
        have hcl : (w2.alloc (.cells #[encStr name] 9)).cell? ⟨w2.heap.size, 0, none⟩ = some (encStr name) := by
          rw [cell_of_row _ _ 0 _ _ _ (heap_alloc_new w2 _)]; rfl
        have hn9 : ns.length ≤ 1000000000 := by omega
        have HTN : Hid (takeR (((es.length + es'.length : Nat) : Int) + 1) (zs.drop m) = none) := by
          show _ = _
          rw [HD.out]; exact hn1
        have HTK := hid_into htk
        have HPA : Hid (∀ (nv' : Value) (ev' : Value) (w' : World) (b : Bool), (b = decide (m = zs.length) ∧ (0 < m ∨ m = zs.length)) → Grows F w w' → Lg w' (Pl F w.heap.size) lb sb pre ev' nv' (es ++ es') las (ns ++ [name]) m dead → TakeP w F lb sb pre es las ns sz dead name zs (.returned (.tuple #[.int .i64 m, .bool b])) w') := by
          rintro nv' ev' w' b ⟨rfl, hb⟩ hg hl
          exact ⟨hg, Or.inr ⟨HNM.out, es', m, HTK.out, HTN.out, rfl, ev', nv', by rw [if_pos hb, if_pos hb]; exact hl⟩⟩
        have hner : (er != 0) = true := by simp [hne]
        clear hL hL2 hn1 htk C1 hu CN hB hT e2
        by_cases hm0 : 0 < m
        · have f0 : (0 : Int) < (m : Int) := by omega
          obtain ⟨b, hbq, hbb⟩ : ∃ b : Bool, ((m : Int) == (zs.length : Int)) = b ∧ (b = decide (m = zs.length) ∧ (0 < m ∨ m = zs.length)) := ⟨_, rfl, by
            by_cases h : m = zs.length
            · simp [h]
            · have : ¬ (m : Int) = (zs.length : Int) := by omega
              simp [h, this], Or.inl hm0⟩
          have HBB := hid_into hbb
          clear hbb
          go_wp2_with (first
            | (refine wpList_made_str _ rfl (.tmp 53) rfl name rfl ?_)
            | (at_builtin; refine wpList_append_nm _ rfl (.tmp 52) (.tmp 54) rfl 0 (.slice an ns.length cn) ns (by rfl) hnam w2.heap.size name (by rfl) hcl hn9 (Nat.zero_le _) ?_))
          intro ao3 cap3 w3 hrow hg hat
          have hlbW := HL3.out.blk.lt
          have hb3 := HL3.out.blk.keep (hg.block lb hlbW fun e => (HL3.out.sep.2 lb e.symm).2 rfl)
          have c3 : w3.cell? ⟨lb, 4, none⟩ = some (.slice an ns.length cn) := hb3.cell 4
          have f3 : w3.frozen? ⟨lb, 4, none⟩ = false := hb3.frozen 4
          have hWs : (w2.alloc (.cells #[encStr name] 9)).heap.size = w2.heap.size + 1 := World.size_alloc _ _
          have hL4 := HL3.out.addN name w3 (.slice ao3 (ns.length + 1) cap3) hrow hg (by rw [hWs]; exact hat) (Or.inr (by have := hgrw.size; have := hAw.size; omega)) (by omega)
          have c5 : (w3.setCell ⟨lb, 4, none⟩ (.slice ao3 (ns.length + 1) cap3)).cell? ⟨lb, 5, none⟩ = some (.int .i64 (sz : Int)) := hL4.blk.cell 5
          have f5 : (w3.setCell ⟨lb, 4, none⟩ (.slice ao3 (ns.length + 1) cap3)).frozen? ⟨lb, 5, none⟩ = false := hL4.blk.frozen 5
          have HL5 := hid_into (hL4.setSz m (by omega))
          have HG5 : Hid (Grows F w ((w3.setCell ⟨lb, 4, none⟩ (.slice ao3 (ns.length + 1) cap3)).setCell ⟨lb, 5, none⟩ (.int .i64 (m : Int)))) :=
            ⟨hg.os.trans (hAw.os.trans hgrw.os), hg.tape.trans (hAw.tape.trans hgrw.tape), hg.output.trans (hAw.output.trans hgrw.output), by rw [set_size, set_size]; have := hg.size; have := hAw.size; have := hgrw.size; omega, fun k hk hF => by
            have n1 : k ≠ lb := fun e => by
              subst e
              rcases HL.out.lF with h | h
              · exact hF h
              · omega
            rw [set_other _ _ _ _ _ n1, set_other _ _ _ _ _ n1, hg.block k (by have := hAw.size; have := hgrw.size; omega) (fun e => by
              rcases (HL3.out.sep.2 k e.symm).1 with h | h
              · exact hF h
              · omega), hAw.block k (by have := hgrw.size; omega)]
            exact hgrw.block k hk hF⟩
          have HPP := hid_into (HPA.out _ _ _ _ HBB.out HG5.out HL5.out)
          clear hb3 hrow hg hat hnam hcl hA hAw hWs hlbW hL4 HPA HL5 HG5
          go_wp2
          go_ret2
          exact HPP.out
        · have f0 : ¬ (0 : Int) < (m : Int) := by omega
          by_cases hml : m = zs.length
          · have hbq : ((m : Int) == (zs.length : Int)) = true := by simp [hml]
            have HBB : Hid (true = decide (m = zs.length) ∧ (0 < m ∨ m = zs.length)) := ⟨by simp [hml], Or.inr hml⟩
            clear hml
            go_wp2_with (first
              | (refine wpList_made_str _ rfl (.tmp 53) rfl name rfl ?_)
              | (at_builtin; refine wpList_append_nm _ rfl (.tmp 52) (.tmp 54) rfl 0 (.slice an ns.length cn) ns (by rfl) hnam w2.heap.size name (by rfl) hcl hn9 (Nat.zero_le _) ?_))
            intro ao3 cap3 w3 hrow hg hat
            have hlbW := HL3.out.blk.lt
            have hb3 := HL3.out.blk.keep (hg.block lb hlbW fun e => (HL3.out.sep.2 lb e.symm).2 rfl)
            have c3 : w3.cell? ⟨lb, 4, none⟩ = some (.slice an ns.length cn) := hb3.cell 4
            have f3 : w3.frozen? ⟨lb, 4, none⟩ = false := hb3.frozen 4
            have hWs : (w2.alloc (.cells #[encStr name] 9)).heap.size = w2.heap.size + 1 := World.size_alloc _ _
            have hL4 := HL3.out.addN name w3 (.slice ao3 (ns.length + 1) cap3) hrow hg (by rw [hWs]; exact hat) (Or.inr (by have := hgrw.size; have := hAw.size; omega)) (by omega)
            have c5 : (w3.setCell ⟨lb, 4, none⟩ (.slice ao3 (ns.length + 1) cap3)).cell? ⟨lb, 5, none⟩ = some (.int .i64 (sz : Int)) := hL4.blk.cell 5
            have f5 : (w3.setCell ⟨lb, 4, none⟩ (.slice ao3 (ns.length + 1) cap3)).frozen? ⟨lb, 5, none⟩ = false := hL4.blk.frozen 5
            have HL5 := hid_into (hL4.setSz m (by omega))
            have HG5 : Hid (Grows F w ((w3.setCell ⟨lb, 4, none⟩ (.slice ao3 (ns.length + 1) cap3)).setCell ⟨lb, 5, none⟩ (.int .i64 (m : Int)))) :=
              ⟨hg.os.trans (hAw.os.trans hgrw.os), hg.tape.trans (hAw.tape.trans hgrw.tape), hg.output.trans (hAw.output.trans hgrw.output), by rw [set_size, set_size]; have := hg.size; have := hAw.size; have := hgrw.size; omega, fun k hk hF => by
              have n1 : k ≠ lb := fun e => by
                subst e
                rcases HL.out.lF with h | h
                · exact hF h
                · omega
              rw [set_other _ _ _ _ _ n1, set_other _ _ _ _ _ n1, hg.block k (by have := hAw.size; have := hgrw.size; omega) (fun e => by
                rcases (HL3.out.sep.2 k e.symm).1 with h | h
                · exact hF h
                · omega), hAw.block k (by have := hgrw.size; omega)]
              exact hgrw.block k hk hF⟩
            have HPP := hid_into (HPA.out _ _ _ _ HBB.out HG5.out HL5.out)
            clear hb3 hrow hg hat hnam hcl hA hAw hWs hlbW hL4 HPA HL5 HG5
            go_wp2
            go_ret2
            exact HPP.out
          · have hbq : ((m : Int) == (zs.length : Int)) = false := by
              have : ¬ (m : Int) = (zs.length : Int) := by omega
              simp [this]
            have HPP : Hid (TakeP w F lb sb pre es las ns sz dead name zs (.returned (.tuple #[.int .i64 m, .bool false])) w2) := by
              have hnn : ¬ (0 < m ∨ m = zs.length) := fun h => h.elim hm0 hml
              refine ⟨?_, Or.inr ⟨HNM.out, es', m, HTK.out, HTN.out, by simp [hml], _, _, by rw [if_neg hnn, if_neg hnn]; exact HL2.out⟩⟩
              exact ⟨hB2.os.trans hgrw.os, hB2.tape.trans hgrw.tape, hB2.output.trans hgrw.output, Nat.le_trans hgrw.size hB2.size, fun k hk hF => (hB2.block k (by have := hgrw.size; omega)).trans (hgrw.block k hk hF)⟩
            clear hml HPA HL3 HL HL2 hnam hcl
            go_wp2_with fail
            go_ret2
            exact HPP.out
  · have HP : Hid (∀ w', Below w.heap.size w w' → TakeP w F lb sb pre es las ns sz dead name zs (.returned (.tuple #[.int .i64 0, .bool false])) w') := fun w' hB =>
      ⟨⟨hB.os, hB.tape, hB.output, hB.size, fun k hk _ => hB.block k hk⟩, Or.inl ⟨hnm, rfl, ev, nv, (h.below hB).more fun k hk => Or.inl hk⟩⟩
    generalize nameN pre (es.length + 1) = nn at *
    have hne : (name == nn) = false := by simp [hnm]
    clear h hb ht hp
    go_enter Tryz.func88, Tryz.ntmps88
    go_wp2_with (go_at_call 77; refine CN.mono ?_; rintro e w1 ⟨rfl, hB1⟩)
    go_ret2
    exact HP.out _ hB1
end Go.Proofs.YtnkjhooeklodcaaGreatDoor
end
