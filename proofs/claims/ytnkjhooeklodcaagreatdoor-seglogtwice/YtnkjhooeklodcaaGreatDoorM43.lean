/-
  Joined from: SegLOpen.
-/
import Derived.Test.YtnkjhooeklodcaaGreatDoorM42
section
/-
  Open, the program's.
-/
namespace Go.Proofs.YtnkjhooeklodcaaGreatDoor
open Go.RowKit Go.Maps Go.Sort

variable {w w' wr w4 w5 : World} {D F F' Dk : Nat → Prop} {lb sb : Nat} {u : Ud} {pre : List UInt8} {ev nv : Value} {es : List En} {las : Nat} {ns : List (List UInt8)} {sz : Nat} {dead : Bool}
def LOpenP (w : World) (D : Nat → Prop) (sb : Nat) (pre : List UInt8) (r : (Int × Ud) × List (List Int) × List Nat) (szr : Nat) (e : Ending) (w' : World) : Prop :=
  ∃ w2 lb es, Below w.heap.size w w2 ∧ w.heap.size ≤ lb ∧ lb < w2.heap.size ∧
    ((r.1.1 ≠ 0 ∧ e = .returned (.tuple #[.pointer none, .int .i64 r.1.1]) ∧ ∃ ns sz dd, LRes w2 D (fun k => k = lb) lb sb pre r.1.2 es 0 ns sz dd w') ∨
     (r.1.1 = 0 ∧ e = .returned (.tuple #[.pointer (some ⟨lb, 0, none⟩), .int .i64 0]) ∧ es.map (·.2) = r.2.1 ∧ LRes w2 D (fun k => k = lb) lb sb pre r.1.2 es es.length (namesN pre r.2.2) szr false w'))
theorem sync_step (hl : Lg wr F' lb sb pre ev nv es las ns sz false) (hd : Ld wr Dk F' lb sb u pre es las ns sz false) (x : Nm) (hx : x.length ≤ maxLen) :
    Calls Tryz.prog 55 #[.pointer (some ⟨lb, 0, none⟩), .func (.func 56) #[] #[], encStr x] wr fun e w' => e = .returned (.int .i64 (u.five [x] (syU x)).1) ∧
      (((u.five [x] (syU x)).1 = 0 ∧ Lg w' F' lb sb pre ev nv es las ns sz false ∧ ∃ D2, Ld w' D2 F' lb sb (u.five [x] (syU x)).2 pre es las ns sz false ∧ (∀ k, D2 k → Dk k ∨ wr.heap.size ≤ k) ∧ Grows (fun k => Dk k ∨ F' k) wr w') ∨
       ((u.five [x] (syU x)).1 ≠ 0 ∧ ∃ dd, LRes wr Dk F' lb sb pre (u.five [x] (syU x)).2 es las ns sz dd w')) := by
  have C : Calls Tryz.prog 55 #[.pointer (some ⟨lb, 0, none⟩), .func (.func 56) #[] #[], encStr x] wr (GtP lb fun er w2 => er = (u.five [x] (syU x)).1 ∧ PRes Dk sb (u.five [x] (syU x)).2 wr w2) := by
    refine lgate_any 56 #[] enters56 x wr hl _ ?_
    refine Calls.mono (pSync hd.d x hx) ?_
    rintro e w2 ⟨rfl, hp⟩
    exact ⟨_, rfl, ⟨rfl, hp⟩, hd.lbk hp⟩
  refine C.mono fun e w' hG => ?_
  have hr := GtP.res hd _ hG
  refine ⟨hr.1, ?_⟩
  by_cases h0 : (u.five [x] (syU x)).1 = 0
  · obtain ⟨er, w1, _, ⟨rfl, hp⟩, hc⟩ := hG
    obtain ⟨_, rfl⟩ : _ ∧ w' = w1 := hc.resolve_right fun e => e.1 (Or.inl h0)
    refine Or.inl ⟨h0, hl.keep hp.2.size fun k hk hlt => hp.2.block k hlt fun e => hd.ap k e hk, _, hd.disk hp, fun k hk => hk.1, hp.2.mono fun k hk => Or.inl hk⟩
  · exact Or.inr ⟨h0, _, hr.2⟩
theorem opF_nums (pre : List UInt8) (u : Ud) : ∀ (xs : List Nm) (next n : Nat), n ∈ (opF pre u xs next).2.2 → n ≤ next + tU u.us xs
  | [], next, n, h => by simp [opF] at h
  | x :: xs, next, n, h => by
    obtain ⟨r1, r2⟩ := rdF_le (next - 1) (at0U u.us x).1
    have hl : (at0U u.us x).1.length = lenU u.us x := rfl
    rw [tU_cons]
    simp only [opF] at h
    split at h
    · rcases List.mem_cons.1 h with rfl | h
      · omega
      · have := opF_nums pre u xs _ n h
        omega
    · split at h
      · cases h
      · split at h
        · cases h
        · have := List.mem_singleton.1 h
          omega
def OpI (w2 : World) (D F : Nat → Prop) (lb sb : Nat) (pre : List UInt8) (ev nv : Value) (u : Ud) (es : List En) (ns : List Nm) (sz : Nat) (k : Nat) (wr : World) : Prop :=
  (allU syU u (ns.take k)).1 = 0 ∧ Lg wr F lb sb pre ev nv es 0 ns sz false ∧ ∃ Dk, Ld wr Dk F lb sb (allU syU u (ns.take k)).2 pre es 0 ns sz false ∧ (∀ k, Dk k → D k ∨ w2.heap.size ≤ k) ∧ Grows (fun k => D k ∨ F k) w2 wr
set_option maxHeartbeats 4000000 in
set_option maxRecDepth 100000 in
theorem LOpen_any (w : World) (h : Pd w D sb u) (hD : ∀ k, D k → k < w.heap.size) (hp1 : 1 ≤ pre.length) (hp2 : pre.length ≤ 50) (hnl : ∀ x ∈ u.us.map (·.1), x.length ≤ 64) (htot : totU u.us ≤ 4000000) (ht : Fr.Tab w) (hp : Pw w) (h8 : 8 ≤ w.heap.size) (hlow : ∀ k, k < 8 → ¬ D k) :
    Calls Tryz.prog 22 #[.pointer (some ⟨sb, 0, none⟩), encStr pre] w (LOpenP w D sb pre (openF pre u) (opS pre u (segsN (u.us.map (·.1)) pre) 1 0)) := by
  have hz : (⟨pre.toArray⟩ : ByteArray).size = pre.length := by simp [ByteArray.size]
  have f1 : ¬ (pre.length : Int) < 1 := by omega
  have f2 : ¬ (50 : Int) < (pre.length : Int) := by omega
  have hA : Below w.heap.size w (w.alloc (.cells #[.pointer (some ⟨sb, 0, none⟩), encStr pre, .slice none 0 0, .int .i64 0, .slice none 0 0, .int .i64 0, .bool false] 93)) := (Below.refl _ _).alloc (Nat.le_refl _) _
  have hsA : (w.alloc (.cells #[.pointer (some ⟨sb, 0, none⟩), encStr pre, .slice none 0 0, .int .i64 0, .slice none 0 0, .int .i64 0, .bool false] 93)).heap.size = w.heap.size + 1 := World.size_alloc _ _
  have hblk : Cw (w.alloc (.cells #[.pointer (some ⟨sb, 0, none⟩), encStr pre, .slice none 0 0, .int .i64 0, .slice none 0 0, .int .i64 0, .bool false] 93)) w.heap.size [.pointer (some ⟨sb, 0, none⟩), encStr pre, .slice none 0 0, .int .i64 0, .slice none 0 0, .int .i64 0, .bool false] 93 := Cw.new w [.pointer (some ⟨sb, 0, none⟩), encStr pre, .slice none 0 0, .int .i64 0, .slice none 0 0, .int .i64 0, .bool false] 93
  obtain ⟨W1, hW1⟩ : ∃ W1, w.alloc (.cells #[.pointer (some ⟨sb, 0, none⟩), encStr pre, .slice none 0 0, .int .i64 0, .slice none 0 0, .int .i64 0, .bool false] 93) = W1 := ⟨_, rfl⟩
  rw [hW1] at hA hsA hblk
  have hld : Ld W1 D (fun k => k = w.heap.size) w.heap.size sb u pre [] 0 [] 0 false := by
    refine ⟨h.to hA, ⟨.slice none 0 0, .slice none 0 0, hblk, rfl, World.ownsRow_nil _ _ _ _, fun r hr => (by cases hr), World.ownsRow_nil _ _ _ _, ⟨fun k hk => (by cases hk), fun k hk => (by cases hk)⟩, by simp; omega⟩, fun k hk => by have := hD k hk; omega, fun k hk => by omega, fun k hk e => by have := hD k hk; omega⟩
  have CR := restore_any W1 hld h.good hnl htot (tab_keep ht (hA.block 0 (by omega))) (hp.below hA h8) (by omega) (fun k hk => ⟨hlow k hk, fun e => by omega⟩)
  obtain ⟨L, hL⟩ : ∃ L, segsN (u.us.map (·.1)) pre = L := ⟨_, rfl⟩
  have HOF : Hid (openF pre u = if (opF pre u L 1).1.1 ≠ 0 then opF pre u L 1 else (allU syU (opF pre u L 1).1.2 (namesN pre (opF pre u L 1).2.2), (opF pre u L 1).2)) := by
    show _ = _
    rw [← hL]; rfl
  rw [hL] at CR ⊢
  have hnums : ∀ n ∈ (opF pre u L 1).2.2, n < 100000000 := fun n hn => by
    have h1 := opF_nums pre u L 1 n hn
    have h2 : tU u.us L ≤ totU u.us := by rw [← hL]; exact tU_filter h.good.ris _
    omega
  generalize opF pre u L 1 = r at *
  generalize opS pre u L 1 0 = szr at *
  obtain ⟨r2, hr2⟩ : ∃ r2, openF pre u = r2 := ⟨_, rfl⟩
  rw [hr2] at HOF ⊢
  clear hr2 hL hnl htot ht hp hlow hld hblk
  have HA := hid_into hA
  clear hA
  go_enter Tryz.func22, Tryz.ntmps22
  go_wp2_with fail
  refine CR.mono ?_
  rintro e w2 ⟨rfl, es, ss, sz, dd, hR, hok⟩
  clear CR
  by_cases h0 : r.1.1 = 0
  · obtain ⟨he1, he2, he3, he4⟩ := hok h0
    subst he2 he3 he4
    obtain ⟨D', F', hl', hd1, hf1, hg1⟩ := hR
    obtain ⟨ev, nv, hlg⟩ := hl'.l
    have HO2 := HOF.out
    rw [if_neg (fun e => e h0)] at HO2
    have hnsl : ∀ x ∈ namesN pre r.2.2, x.length ≤ maxLen := by
      intro x hx
      obtain ⟨n, hn, rfl⟩ := List.mem_map.1 hx
      refine names_le ?_
      rw [nameN_len pre n (hnums n hn)]
      omega
    generalize hns : namesN pre r.2.2 = ns at *
    obtain ⟨an, cn, hnv⟩ := hlg.nvform
    subst hnv
    have c4 : w2.cell? ⟨w.heap.size, 4, none⟩ = some (.slice an ns.length cn) := hlg.blk.cell 4
    have hnl7 := hlg.few.2.1
    have HI0 : Hid (OpI w2 D' F' w.heap.size sb pre ev (.slice an ns.length cn) r.1.2 es ns sz 0 w2) := ⟨rfl, hlg, D', hl', fun k hk => Or.inl hk, Grows.refl _ _⟩
    have HFI : Hid (∀ w', LRes w2 D' F' w.heap.size sb pre r2.1.2 es es.length ns sz false w' → r2.1.1 = 0 → LOpenP w D sb pre r2 sz (.returned (.tuple #[.pointer (some ⟨w.heap.size, 0, none⟩), .int .i64 0])) w') := by
      intro w' hres hr0
      refine ⟨W1, w.heap.size, es, HA.out, Nat.le_refl _, by omega, Or.inr ⟨hr0, rfl, ?_, ?_⟩⟩
      · rw [HO2, he1]
      · have e2 : r2.2.2 = r.2.2 := by rw [HO2]
        rw [e2, hns]
        exact LRes.then hd1 hf1 hg1 hres
    have HFE : Hid (∀ w' dd, LRes w2 D' F' w.heap.size sb pre r2.1.2 es 0 ns sz dd w' → r2.1.1 ≠ 0 → LOpenP w D sb pre r2 sz (.returned (.tuple #[.pointer none, .int .i64 r2.1.1])) w') := by
      intro w' dd hres hr0
      exact ⟨W1, w.heap.size, es, HA.out, Nat.le_refl _, by omega, Or.inl ⟨hr0, rfl, ns, sz, dd, LRes.then hd1 hf1 hg1 hres⟩⟩
    have HO3 : Hid (r2.1 = allU syU r.1.2 ns) := by show _ = _; rw [HO2]
    have HNL := hid_into hnsl
    have HF1 : Hid (∀ k, F' k → k < w2.heap.size) := hl'.fl
    clear hlg hl' hd1 hf1 hg1 HOF HO2 hok he1 hnsl hnums
    have hb0 : (r.1.1 != 0) = false := by simp [h0]
    go_wp2_with fail
    go_loopw [37] (fun i wr => ∃ k : Nat, k ≤ ns.length ∧ i = .int .i64 (k : Int) ∧ Hid (OpI w2 D' F' w.heap.size sb pre ev (.slice an ns.length cn) r.1.2 es ns sz k wr)) (fun i _ => ns.length - (intOf i).toNat)
    case atStart => exact ⟨0, Nat.zero_le _, rfl, HI0.out⟩
    case round =>
      clear HI0 c4
      obtain ⟨k, hk, rfl, HK⟩ := hrel
      obtain ⟨k0, hlg, Dk, hld, hdk, hgk⟩ := HK.out
      clear HK
      by_cases hlt : k < ns.length
      · obtain ⟨x, hx⟩ : ∃ x, ns[k]? = some x := ⟨_, List.getElem?_eq_getElem hlt⟩
        have htake : ns.take (k + 1) = ns.take k ++ [x] := by rw [List.take_add_one, hx]; rfl
        have hsn := allU_snoc syU (ns.take k) r.1.2 x k0
        rw [← htake] at hsn
        obtain ⟨g, hga⟩ : ∃ g, an = some ⟨g, 0, none⟩ := by
          rcases hlg.nam.2 with ⟨_, h2⟩ | ⟨g, cap', cur, h2, _⟩
          · omega
          · simp only [Value.slice.injEq] at h2
            exact ⟨g, h2.1⟩
        subst hga
        have y1 := Ot.cell hlg.nam hx
        have CSY := sync_step hlg hld x (HNL.out x (List.mem_of_getElem? hx))
        rw [← hsn] at CSY
        have HST : Hid ((allU syU r.1.2 (ns.take (k + 1))).1 ≠ 0 → allU syU r.1.2 ns = allU syU r.1.2 (ns.take (k + 1))) := fun e => by
          have := allU_stop syU (ns.take (k + 1)) (ns.drop (k + 1)) r.1.2 e
          rw [List.take_append_drop] at this
          exact this
        have HOS : Hid (∀ w' , (∃ D2, Ld w' D2 F' w.heap.size sb (allU syU r.1.2 (ns.take (k + 1))).2 pre es 0 ns sz false ∧ (∀ k, D2 k → Dk k ∨ wr.heap.size ≤ k) ∧ Grows (fun k => Dk k ∨ F' k) wr w') → Lg w' F' w.heap.size sb pre ev (.slice (some ⟨g, 0, none⟩) ns.length cn) es 0 ns sz false → (allU syU r.1.2 (ns.take (k + 1))).1 = 0 → OpI w2 D' F' w.heap.size sb pre ev (.slice (some ⟨g, 0, none⟩) ns.length cn) r.1.2 es ns sz (k + 1) w') := by
          rintro w' ⟨D2, a1, a2, a3⟩ hl2 h00
          have hs := hgk.size
          refine ⟨h00, hl2, D2, a1, fun j hj => ?_, hgk.trans a3 fun j hj => ?_⟩
          · rcases a2 j hj with e | e
            · exact hdk j e
            · exact Or.inr (by omega)
          · rcases hj with e | e
            · exact (hdk j e).imp Or.inl id
            · exact Or.inl (Or.inr e)
        have HLE : Hid (∀ w' dd, LRes wr Dk F' w.heap.size sb pre (allU syU r.1.2 (ns.take (k + 1))).2 es 0 ns sz dd w' → LRes w2 D' F' w.heap.size sb pre (allU syU r.1.2 (ns.take (k + 1))).2 es 0 ns sz dd w') := fun w' dd hl2 => LRes.then hdk (fun j hj => Or.inl hj) hgk hl2
        generalize allU syU r.1.2 (ns.take (k + 1)) = q at *
        clear hlg hld hdk hgk hsn htake hx k0
        go_wp2_with fail
        refine CSY.mono ?_
        rintro e w5 ⟨rfl, hq⟩
        rcases hq with ⟨q0, hl5, hd5⟩ | ⟨q0, dd, hl5⟩
        · have HI5 := hid_into (HOS.out w5 hd5 hl5 q0)
          have hb5 : (q.1 != 0) = false := by simp [q0]
          clear CSY hl5 hd5 HOS HLE
          go_wp2_with fail
          go_roundw
          case rel => exact ⟨k + 1, by omega, by go_num, HI5⟩
          case measure => simp [intOf]; omega
        · have hb5 : (q.1 != 0) = true := by simp [q0]
          have hq1 := HST.out q0
          have HO4 := HO3.out
          rw [hq1] at HO4
          have HF5 : Hid (LOpenP w D sb pre r2 sz (.returned (.tuple #[.pointer none, .int .i64 q.1])) w5) := by
            show LOpenP w D sb pre r2 sz (.returned (.tuple #[.pointer none, .int .i64 q.1])) w5
            rw [← HO4]
            refine HFE.out w5 dd ?_ (by rw [HO4]; exact q0)
            rw [HO4]
            exact HLE.out w5 dd hl5
          clear CSY hl5 HOS HLE HO4 hq1
          go_wp2_with fail
          go_ret2
          exact HF5.out
      · rw [List.take_of_length_le (by omega)] at k0 hld
        have HO4 := HO3.out
        rw [← HO4] at k0 hld
        obtain ⟨ae, ce, hee⟩ := hlg.evform
        subst hee
        have c2 : wr.cell? ⟨w.heap.size, 2, none⟩ = some (.slice ae es.length ce) := hlg.blk.cell 2
        have c3 : wr.cell? ⟨w.heap.size, 3, none⟩ = some (.int .i64 0) := hlg.blk.cell 3
        have f3 : wr.frozen? ⟨w.heap.size, 3, none⟩ = false := hlg.blk.frozen 3
        have hf3 := hlg.few.1
        have HF5 : Hid (LOpenP w D sb pre r2 sz (.returned (.tuple #[.pointer (some ⟨w.heap.size, 0, none⟩), .int .i64 0])) (wr.setCell ⟨w.heap.size, 3, none⟩ (.int .i64 (es.length : Int)))) := by
          refine HFI.out _ ?_ k0
          have hR : LRes w2 D' F' w.heap.size sb pre r2.1.2 es 0 ns sz false wr := ⟨Dk, F', hld, hdk, fun j hj => Or.inl hj, hgk⟩
          exact hR.cell 3 _ fun _ _ _ h => h.setLas _ hf3
        clear hlg hld hdk hgk HO4
        go_wp2_with fail
        go_ret2
        exact HF5.out
  · have hb0 : (r.1.1 != 0) = true := by simp [h0]
    have HO2 := HOF.out
    rw [if_pos h0] at HO2
    have HF5 : Hid (LOpenP w D sb pre r2 szr (.returned (.tuple #[.pointer none, .int .i64 r.1.1])) w2) := by
      show LOpenP w D sb pre r2 szr (.returned (.tuple #[.pointer none, .int .i64 r.1.1])) w2
      rw [HO2]
      exact ⟨W1, w.heap.size, es, HA.out, Nat.le_refl _, by omega, Or.inl ⟨h0, rfl, _, _, _, hR⟩⟩
    clear hR hok HOF HO2
    go_wp2_with fail
    go_ret2
    exact HF5.out
end Go.Proofs.YtnkjhooeklodcaaGreatDoor
end
