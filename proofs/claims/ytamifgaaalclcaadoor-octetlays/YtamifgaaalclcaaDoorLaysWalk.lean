/-
  OctetLays, walked: for every row of fields it answers true, and writes nothing that was there.
-/
import Derived.Test.YtamifgaaalclcaaDoorLaysHelp
namespace Go.Proofs.YtamifgaaalclcaaDoor
open Go.RowKit

/-- A field of a row, whole, in a later world. -/
theorem Fs.row {w w' : World} {b : Nat} {off len cap : Nat} {fs : List Fd} (h : Fs w (.slice (some ⟨b, off, none⟩) len cap) fs) (hB : Below w.heap.size w w') (k : Nat) (hk : k < fs.length) :
    w'.rangeAt b (off + k * 35) fs[k].cells ∧ fs[k].ok w := by
  rcases h with ⟨rfl, _⟩ | ⟨_, b', off', cap', he, h1, h2, hcell⟩
  · simp at hk
  · simp only [Value.slice.injEq, Option.some.injEq, Addr.mk.injEq, and_true] at he
    obtain ⟨⟨rfl, rfl⟩, rfl, rfl⟩ := he
    obtain ⟨hra, hok⟩ := hcell k fs[k] (by simp [hk])
    refine ⟨fun j u hu => ?_, hok⟩
    have hc := hra j u hu
    have hlt : b < w.heap.size := World.block_lt_of_cell? w _ hc
    rw [hB.cell (p := ⟨b, off + k * 35 + j, none⟩) hlt]
    exact hc
theorem Fs.loc {w : World} {a : Option Addr} {len cap : Nat} {fs : List Fd} (h : Fs w (.slice a len cap) fs) (hk : 0 < fs.length) : ∃ gb off, a = some ⟨gb, off, none⟩ := by
  rcases h with ⟨h0, _⟩ | ⟨_, b', off', cap', he, _⟩
  · subst h0; simp at hk
  · simp only [Value.slice.injEq] at he
    exact ⟨b', off', he.1⟩
/-- A field in a variable of its own: its cells. -/
structure Vx (w : World) (bx : Nat) (f : Fd) : Prop where
  c0 : w.cell? ⟨bx, 0, none⟩ = some (.int .i64 f.kind)
  c1 : w.cell? ⟨bx, 1, none⟩ = some (.int .i64 f.n)
  c2 : w.cell? ⟨bx, 2, none⟩ = some f.bv
  ra : w.rangeAt bx 0 f.cells
  r3 : w.rangeAt bx 3 (cellsOf f.h)
theorem Vx.of_block {w : World} {bx : Nat} {f : Fd} {t : TypeId} {fr : Nat × Nat} (h : w.heap[bx]? = some (.cells f.cells.toArray t fr)) : Vx w bx f := by
  have hra := range_of_block h
  refine ⟨hra 0 _ rfl, hra 1 _ rfl, hra 2 _ rfl, hra, ?_⟩
  intro j u hu
  have := hra (3 + j) u (by show (Value.int .i64 f.kind :: .int .i64 f.n :: f.bv :: cellsOf f.h)[3 + j]? = some u; rw [show 3 + j = j + 1 + 1 + 1 by omega]; simpa using hu)
  simpa using this

theorem Vx.keep {w w' : World} {bx : Nat} {f : Fd} (h : Vx w bx f) (hb : w'.heap[bx]? = w.heap[bx]?) : Vx w' bx f := by
  have hc : ∀ i, w'.cell? ⟨bx, i, none⟩ = w.cell? ⟨bx, i, none⟩ := fun i => World.cell?_of_block (w := w) hb
  refine ⟨by rw [hc]; exact h.c0, by rw [hc]; exact h.c1, by rw [hc]; exact h.c2, fun j u hu => ?_, fun j u hu => ?_⟩
  · rw [hc]; exact h.ra j u hu
  · rw [hc]; exact h.r3 j u hu
theorem Vx.lt {w : World} {bx : Nat} {f : Fd} (h : Vx w bx f) : bx < w.heap.size := World.block_lt_of_cell? w _ h.c0

set_option maxRecDepth 100000 in
set_option maxHeartbeats 40000000 in
theorem lays_walk (v : Value) (fs : List Fd) (w : World) (hf : Fs w v fs) (ht : Tab w) :
    Calls Tryd.prog 3 #[v] w fun e w' => e = .returned (.bool true) ∧ Below w.heap.size w w' := by
  obtain ⟨aa, ca, hva, hma⟩ := hf.len
  subst hva
  unfold maxLen at hma
  go_enter Tryd.func3, Tryd.ntmps3
  go_wp2_with fail
  refine (heavy_any _ fs _ hf).mono ?_
  rintro e w1 ⟨rfl, rfl⟩
  cases hha : heavyB fs with
  | true =>
    clear hha
    go_wp2
    go_ret
    exact ⟨rfl, Below.refl _ _⟩
  | false =>
  have hra := heavy_room hha
  have hla := roomF_len fs
  clear hha
  have htl := ht.lt
  have hoks := hf.oks
  have hLen : ∀ k, (encL (fs.take k)).length ≤ 100000 := fun k => by
    have h1 := encL_len (fs.take k) (fun f hf' => (hoks f (List.mem_of_mem_take hf')).hl)
    have h2 := roomF_take fs k
    have h3 : (fs.take k).length ≤ fs.length := by simp; omega
    omega
  have HLen : Hid (∀ k, (encL (fs.take k)).length ≤ 100000) := hLen
  clear hLen
  have hw0 := Wr_new w
  go_wp2
  go_loopw [4, 5] (fun s i wr => ∃ (k : Nat) (v1 : Value) (aw : Option Addr) (cw : Nat), k ≤ fs.length ∧ i = .int .i64 k ∧ s = .slice aw (encL (fs.take k)).length cw ∧ Wr wr w.heap.size v1 (encL (fs.take k)) ∧ Ow wr (w.heap.size + 1) (.slice aw (encL (fs.take k)).length cw) (encL (fs.take k)) ∧
      (∀ j, v1.ownBlock = some j → (Value.slice aw (encL (fs.take k)).length cw).ownBlock ≠ some j) ∧ Below w.heap.size w wr) (fun _ i _ => fs.length - (intOf i).toNat)
  case atStart => exact ⟨0, _, none, 0, Nat.zero_le _, rfl, rfl, hw0, World.ownsRow_nil _ _ _ _, fun j _ => by simp [Value.ownBlock], (Below.refl _ _).alloc (Nat.le_refl _) _⟩
  case round =>
    clear hw0
    obtain ⟨k, v1, aw, cw, hk, rfl, rfl, hw1, how, hap, Bk⟩ := hrel
    by_cases hlt : k < fs.length
    · obtain ⟨gb, off, rfl⟩ := hf.loc (by omega)
      obtain ⟨hrow, hok⟩ := hf.row Bk k hlt
      have HT : Hid (encL (fs.take (k + 1)) = encL (fs.take k) ++ encF fs[k]) := encL_take fs k hlt
      have hxl := HLen.out k
      have hbsm : fs[k].bs.length ≤ 3000 := by have := roomF_mem (List.getElem_mem hlt); omega
      have hel := encF_len fs[k] hok.hl
      generalize hfk : fs[k] = f at *
      clear hfk
      generalize hx : encL (fs.take k) = xs at *
      clear hx
      have hone := Fd.one hok
      have hcl := Fd.cells_len hok
      obtain ⟨cs, hcs⟩ : ∃ cs, cs = f.cells := ⟨_, rfl⟩
      have HCL : Hid (cs.length = 35) := by rw [hcs]; exact hcl
      have HI : Hid ((Tryd.prog.info? 30).map (·.size) = some cs.length) := by show _ = _; rw [HCL.out]; exact Tryd.info30
      rw [← hcs] at hrow hone
      have HC : Hid (cs = f.cells) := hcs
      clear hcs hcl
      obtain ⟨abv, cbv, hbv, _⟩ := hok.b.len
      go_wp2_with (first
        | (refine wpList_load_mid rfl 30 (.tmp 23) rfl gb (off + k * 35) rfl cs _ hrow Tryd.underlying30 rfl HI.out ?_)
        | (refine wpList_store_new wr rfl (.tmp 6) (.tmp 24) rfl cs rfl rfl HCL hone ?_; intro WX hX BX hXs; have VX : Vx WX wr.heap.size f := Vx.of_block (by rw [← HC.out]; exact hX); have hX2 := VX.c2; rw [hbv] at hX2))
      have hbX : Bs WX (.slice abv f.bs.length cbv) f.bs := by rw [← hbv]; exact hok.b.below (Bk.trans (BX.mono Bk.size)) (Nat.le_refl _)
      refine (roomy_any _ f.bs _ hbX (by omega)).mono ?_
      rintro e w3 ⟨g, cg, rfl, ho3, B3, hg3, hcg3⟩
      have hsk := Bk.size
      have BX3 : Below wr.heap.size wr w3 := BX.trans (B3.mono (by omega))
      have hw3 := hw1.keepBelow BX3 (Nat.le_refl _)
      have V3 := VX.keep (B3.block _ (by omega))
      have how3 : Ow w3 (w.heap.size + 1) (.slice aw xs.length cw) xs := how.keep fun j _ hj => BX3.block j hj
      have hs3 : WX.heap.size ≤ w3.heap.size := B3.size
      have hok3 := hok.keep (Bk.trans (BX3.mono hsk))
      have hvl : ∀ j, v1.ownBlock = some j → j < wr.heap.size := fun j hj => (World.ownsRow.lt hw1.2 j hj).2
      have hwl : ∀ j, (Value.slice aw xs.length cw).ownBlock = some j → j < wr.heap.size := fun j hj => (World.ownsRow.lt how j hj).2
      have h30 := V3.c0
      have h31 := V3.c1
      have h32 := V3.c2
      rw [hbv] at h32
      have h33 := V3.r3
      have hn0 := hok.n0
      have hn1 := hok.n1
      have HI28 : Hid ((Tryd.prog.info? 28).map (·.size) = some (cellsOf f.h).length) := by show _ = _; rw [cellsOf_length, hok.hl]; exact Tryd.info28
      have hblt := hw1.lt
      have hwb : ∀ j, (Value.slice aw xs.length cw).ownBlock = some j → w.heap.size + 1 ≤ j := fun j hj => (World.ownsRow.lt how j hj).1
      have hglt : g < w3.heap.size := (World.ownsRow.lt ho3 g rfl).2
      clear hX2 hbX VX BX B3 hw1 how hrow hone HCL hX
      by_cases k1 : f.kind = 1
      · have HE : Hid (encF f = [f.n % 256]) := by show _ = _; simp [encF, k1]
        rw [k1] at h30
        clear k1
        go_wp2_with fail
        refine (byte_w w.heap.size v1 xs _ _ hw3 (by omega)).mono ?_
        rintro e w4 ⟨rfl, v4, hw4, hs4⟩
        rw [← HE.out] at hw4
        clear HE HI28
        have V4 := V3.keep (hs4.block wr.heap.size V3.lt (by omega) (fun e => by have := hvl _ e.symm; omega))
        have ho4 : Ow w4 WX.heap.size (.slice (some ⟨g, 0, none⟩) (f.bs.length + 1) cg) (f.bs ++ [171]) := ho3.keep fun j hj hl => hs4.block j hl (by have := (World.ownsRow.lt ho3 j hj).1; omega) (fun e => by have := hvl _ e.symm; have := (World.ownsRow.lt ho3 j hj).1; omega)
        have how4 : Ow w4 (w.heap.size + 1) (.slice aw xs.length cw) xs := how3.keep fun j hj hl => hs4.block j hl (by have := hwb j hj; omega) (fun e => hap j e.symm hj)
        have B4 : Below w.heap.size w w4 := (Bk.trans (BX3.mono hsk)).trans (hw3.below hs4 (Nat.le_refl _))
        have hok4 := hok.keep B4
        have hv4 : ∀ j, v4.ownBlock = some j → j ≠ g ∧ (Value.slice aw xs.length cw).ownBlock ≠ some j ∧ j < w4.heap.size := fun j hj => by
          have hj4 := (World.ownsRow.lt hw4.2 j hj).2
          rcases hs4.own with e | ⟨q, e, hq⟩
          · have := hvl j (by rw [← e]; exact hj)
            exact ⟨by omega, hap j (by rw [← e]; exact hj), hj4⟩
          · rw [e] at hj
            have hj' := Option.some.inj hj
            exact ⟨by omega, fun e2 => by have := hwl j e2; omega, hj4⟩
        have hs34 := hs4.size
        have h42 := V4.c2
        have hb4 := hok4.b
        rw [hbv] at h42 hb4
        clear h30 h31 h32 h33 hs4 hw3 ho3 how3 V3 hok3
        go_wp2_with fail
        refine (stands_any _ g cg _ f.bs _ ho4 hb4 (by omega)).mono ?_
        rintro e w5 ⟨rfl, hsm5⟩
        have ho5 := hsm5.ow ho4
        have hz5 := hsm5.size
        clear h42 hb4 ho4
        go_wp2_with fail
        refine (spoil_any _ _ _ _ ho5 (by omega) (by simp; omega)).mono ?_
        rintro e w6 ⟨rfl, G6⟩
        have G6' : w5.grownBy w6 (some g) := G6
        have V6 : Vx w6 wr.heap.size f := (V4.keep (w' := w5) (by rw [hsm5.heap])).keep (G6'.block _ (by rw [hz5]; exact V4.lt) (fun e => by have := Option.some.inj e; omega))
        have B6 : Below w.heap.size w w6 := (B4.trans (hsm5.below _)).grown G6' (by omega) (fun j hj => by have := Option.some.inj hj; omega)
        have hok6 := hok.keep B6
        have hra6 : w6.rangeAt wr.heap.size 0 cs := by rw [HC.out]; exact V6.ra
        have how6 : Ow w6 (w.heap.size + 1) (.slice aw xs.length cw) xs := (hsm5.ow how4).keep fun j hj hl => G6'.block j hl (fun e => by have := Option.some.inj e; have := hwl j hj; omega)
        have hw6 : Wr w6 w.heap.size v4 (xs ++ encF f) := by
          have h5 := hsm5.wr hw4
          exact ⟨by rw [G6'.block _ h5.lt (fun e => by have := Option.some.inj e; omega)]; exact h5.1, h5.2.keep fun j hj hl => G6'.block j hl (fun e => (hv4 j hj).1 (Option.some.inj e))⟩
        have hz6 := G6'.size
        clear ho5 G6 G6' V6 V4 hok4 how4 hw4 B4 hsm5
        go_wp2_with (refine wpList_load_mid rfl 30 (.tmp 6) rfl wr.heap.size 0 rfl cs _ hra6 Tryd.underlying30 rfl HI.out ?_)
        refine (bytesF_core f cs _ HC hok6 (by omega)).mono ?_
        rintro e w7 ⟨a7, c7, rfl, ho7, B7⟩
        have how7 : Ow w7 (w.heap.size + 1) (.slice aw xs.length cw) xs := how6.keep fun j _ hl => B7.block j hl
        have hw7 := hw6.keepBelow B7 (Nat.le_refl _)
        have hz7 := B7.size
        have B7' : Below w.heap.size w w7 := B6.trans (B7.mono B6.size)
        clear hra6 how6 hw6 B6 B7
        go_wp2_with (at_builtin; refine wpList_append_bs _ rfl (.tmp 71) (.tmp 73) rfl (w.heap.size + 1) _ xs rfl how7 _ (encF f) rfl ho7.bs (by omega) (by omega) ?_)
        intro a8 c8 w8 ho8 hg8 hat8
        have hw8 : Wr w8 w.heap.size v4 (encL (fs.take (k + 1))) := by
          rw [HT.out]
          exact ⟨by rw [hg8.block _ hw7.lt (fun e => by have := hwb _ e.symm; omega)]; exact hw7.1, hw7.2.keep fun j hj hl => hg8.block j hl (fun e => (hv4 j hj).2.1 e.symm)⟩
        have ho8' : Ow w8 (w.heap.size + 1) (.slice a8 (encL (fs.take (k + 1))).length c8) (encL (fs.take (k + 1))) := by rw [HT.out, List.length_append]; exact ho8
        have hap8 : ∀ j, v4.ownBlock = some j → (Value.slice a8 (encL (fs.take (k + 1))).length c8).ownBlock ≠ some j := fun j hj e => by
          rw [HT.out, List.length_append] at e
          rcases hat8 with h | h
          · exact (hv4 j hj).2.1 (by rw [← h]; exact e)
          · rw [h] at e
            have := Option.some.inj e
            have := (hv4 j hj).2.2
            omega
        have B8 : Below w.heap.size w w8 := B7'.grown hg8 B7'.size (fun j hj => by have := hwb j hj; omega)
        have HS : Hid (xs.length + (encF f).length = (encL (fs.take (k + 1))).length) := by show _ = _; rw [HT.out, List.length_append]
        clear ho8 hg8 hat8 ho7 how7 hw7 B7' hv4 hap HT
        go_wp2
        go_roundw
        case rel => exact ⟨k + 1, v4, a8, c8, by omega, by go_num, by rw [HS.out], hw8, ho8', hap8, B8⟩
        case measure => simp [intOf]; omega
      by_cases k2 : f.kind = 2
      · have HE : Hid (encF f = twoB (f.n % 65536)) := by show _ = _; simp [encF, k2]
        rw [k2] at h30
        clear k2 k1
        go_wp2_with fail
        refine (two_w w.heap.size v1 xs _ _ hw3 (by omega)).mono ?_
        rintro e w4 ⟨rfl, v4, hw4, hs4⟩
        rw [show IntKind.u16.wrap f.n = f.n % 65536 from IntKind.wrap_u16 _, ← HE.out] at hw4
        clear HE HI28
        have V4 := V3.keep (hs4.block wr.heap.size V3.lt (by omega) (fun e => by have := hvl _ e.symm; omega))
        have ho4 : Ow w4 WX.heap.size (.slice (some ⟨g, 0, none⟩) (f.bs.length + 1) cg) (f.bs ++ [171]) := ho3.keep fun j hj hl => hs4.block j hl (by have := (World.ownsRow.lt ho3 j hj).1; omega) (fun e => by have := hvl _ e.symm; have := (World.ownsRow.lt ho3 j hj).1; omega)
        have how4 : Ow w4 (w.heap.size + 1) (.slice aw xs.length cw) xs := how3.keep fun j hj hl => hs4.block j hl (by have := hwb j hj; omega) (fun e => hap j e.symm hj)
        have B4 : Below w.heap.size w w4 := (Bk.trans (BX3.mono hsk)).trans (hw3.below hs4 (Nat.le_refl _))
        have hok4 := hok.keep B4
        have hv4 : ∀ j, v4.ownBlock = some j → j ≠ g ∧ (Value.slice aw xs.length cw).ownBlock ≠ some j ∧ j < w4.heap.size := fun j hj => by
          have hj4 := (World.ownsRow.lt hw4.2 j hj).2
          rcases hs4.own with e | ⟨q, e, hq⟩
          · have := hvl j (by rw [← e]; exact hj)
            exact ⟨by omega, hap j (by rw [← e]; exact hj), hj4⟩
          · rw [e] at hj
            have hj' := Option.some.inj hj
            exact ⟨by omega, fun e2 => by have := hwl j e2; omega, hj4⟩
        have hs34 := hs4.size
        have h42 := V4.c2
        have hb4 := hok4.b
        rw [hbv] at h42 hb4
        clear h30 h31 h32 h33 hs4 hw3 ho3 how3 V3 hok3
        go_wp2_with fail
        refine (stands_any _ g cg _ f.bs _ ho4 hb4 (by omega)).mono ?_
        rintro e w5 ⟨rfl, hsm5⟩
        have ho5 := hsm5.ow ho4
        have hz5 := hsm5.size
        clear h42 hb4 ho4
        go_wp2_with fail
        refine (spoil_any _ _ _ _ ho5 (by omega) (by simp; omega)).mono ?_
        rintro e w6 ⟨rfl, G6⟩
        have G6' : w5.grownBy w6 (some g) := G6
        have V6 : Vx w6 wr.heap.size f := (V4.keep (w' := w5) (by rw [hsm5.heap])).keep (G6'.block _ (by rw [hz5]; exact V4.lt) (fun e => by have := Option.some.inj e; omega))
        have B6 : Below w.heap.size w w6 := (B4.trans (hsm5.below _)).grown G6' (by omega) (fun j hj => by have := Option.some.inj hj; omega)
        have hok6 := hok.keep B6
        have hra6 : w6.rangeAt wr.heap.size 0 cs := by rw [HC.out]; exact V6.ra
        have how6 : Ow w6 (w.heap.size + 1) (.slice aw xs.length cw) xs := (hsm5.ow how4).keep fun j hj hl => G6'.block j hl (fun e => by have := Option.some.inj e; have := hwl j hj; omega)
        have hw6 : Wr w6 w.heap.size v4 (xs ++ encF f) := by
          have h5 := hsm5.wr hw4
          exact ⟨by rw [G6'.block _ h5.lt (fun e => by have := Option.some.inj e; omega)]; exact h5.1, h5.2.keep fun j hj hl => G6'.block j hl (fun e => (hv4 j hj).1 (Option.some.inj e))⟩
        have hz6 := G6'.size
        clear ho5 G6 G6' V6 V4 hok4 how4 hw4 B4 hsm5
        go_wp2_with (refine wpList_load_mid rfl 30 (.tmp 6) rfl wr.heap.size 0 rfl cs _ hra6 Tryd.underlying30 rfl HI.out ?_)
        refine (bytesF_core f cs _ HC hok6 (by omega)).mono ?_
        rintro e w7 ⟨a7, c7, rfl, ho7, B7⟩
        have how7 : Ow w7 (w.heap.size + 1) (.slice aw xs.length cw) xs := how6.keep fun j _ hl => B7.block j hl
        have hw7 := hw6.keepBelow B7 (Nat.le_refl _)
        have hz7 := B7.size
        have B7' : Below w.heap.size w w7 := B6.trans (B7.mono B6.size)
        clear hra6 how6 hw6 B6 B7
        go_wp2_with (at_builtin; refine wpList_append_bs _ rfl (.tmp 71) (.tmp 73) rfl (w.heap.size + 1) _ xs rfl how7 _ (encF f) rfl ho7.bs (by omega) (by omega) ?_)
        intro a8 c8 w8 ho8 hg8 hat8
        have hw8 : Wr w8 w.heap.size v4 (encL (fs.take (k + 1))) := by
          rw [HT.out]
          exact ⟨by rw [hg8.block _ hw7.lt (fun e => by have := hwb _ e.symm; omega)]; exact hw7.1, hw7.2.keep fun j hj hl => hg8.block j hl (fun e => (hv4 j hj).2.1 e.symm)⟩
        have ho8' : Ow w8 (w.heap.size + 1) (.slice a8 (encL (fs.take (k + 1))).length c8) (encL (fs.take (k + 1))) := by rw [HT.out, List.length_append]; exact ho8
        have hap8 : ∀ j, v4.ownBlock = some j → (Value.slice a8 (encL (fs.take (k + 1))).length c8).ownBlock ≠ some j := fun j hj e => by
          rw [HT.out, List.length_append] at e
          rcases hat8 with h | h
          · exact (hv4 j hj).2.1 (by rw [← h]; exact e)
          · rw [h] at e
            have := Option.some.inj e
            have := (hv4 j hj).2.2
            omega
        have B8 : Below w.heap.size w w8 := B7'.grown hg8 B7'.size (fun j hj => by have := hwb j hj; omega)
        have HS : Hid (xs.length + (encF f).length = (encL (fs.take (k + 1))).length) := by show _ = _; rw [HT.out, List.length_append]
        clear ho8 hg8 hat8 ho7 how7 hw7 B7' hv4 hap HT
        go_wp2
        go_roundw
        case rel => exact ⟨k + 1, v4, a8, c8, by omega, by go_num, by rw [HS.out], hw8, ho8', hap8, B8⟩
        case measure => simp [intOf]; omega
      by_cases k3 : f.kind = 3
      · have HE : Hid (encF f = fourB (f.n % 4294967296)) := by show _ = _; simp [encF, k3]
        rw [k3] at h30
        clear k3 k1 k2
        go_wp2_with fail
        refine (four_w w.heap.size v1 xs _ _ hw3 (by omega)).mono ?_
        rintro e w4 ⟨rfl, v4, hw4, hs4⟩
        rw [← HE.out] at hw4
        clear HE HI28
        have V4 := V3.keep (hs4.block wr.heap.size V3.lt (by omega) (fun e => by have := hvl _ e.symm; omega))
        have ho4 : Ow w4 WX.heap.size (.slice (some ⟨g, 0, none⟩) (f.bs.length + 1) cg) (f.bs ++ [171]) := ho3.keep fun j hj hl => hs4.block j hl (by have := (World.ownsRow.lt ho3 j hj).1; omega) (fun e => by have := hvl _ e.symm; have := (World.ownsRow.lt ho3 j hj).1; omega)
        have how4 : Ow w4 (w.heap.size + 1) (.slice aw xs.length cw) xs := how3.keep fun j hj hl => hs4.block j hl (by have := hwb j hj; omega) (fun e => hap j e.symm hj)
        have B4 : Below w.heap.size w w4 := (Bk.trans (BX3.mono hsk)).trans (hw3.below hs4 (Nat.le_refl _))
        have hok4 := hok.keep B4
        have hv4 : ∀ j, v4.ownBlock = some j → j ≠ g ∧ (Value.slice aw xs.length cw).ownBlock ≠ some j ∧ j < w4.heap.size := fun j hj => by
          have hj4 := (World.ownsRow.lt hw4.2 j hj).2
          rcases hs4.own with e | ⟨q, e, hq⟩
          · have := hvl j (by rw [← e]; exact hj)
            exact ⟨by omega, hap j (by rw [← e]; exact hj), hj4⟩
          · rw [e] at hj
            have hj' := Option.some.inj hj
            exact ⟨by omega, fun e2 => by have := hwl j e2; omega, hj4⟩
        have hs34 := hs4.size
        have h42 := V4.c2
        have hb4 := hok4.b
        rw [hbv] at h42 hb4
        clear h30 h31 h32 h33 hs4 hw3 ho3 how3 V3 hok3
        go_wp2_with fail
        refine (stands_any _ g cg _ f.bs _ ho4 hb4 (by omega)).mono ?_
        rintro e w5 ⟨rfl, hsm5⟩
        have ho5 := hsm5.ow ho4
        have hz5 := hsm5.size
        clear h42 hb4 ho4
        go_wp2_with fail
        refine (spoil_any _ _ _ _ ho5 (by omega) (by simp; omega)).mono ?_
        rintro e w6 ⟨rfl, G6⟩
        have G6' : w5.grownBy w6 (some g) := G6
        have V6 : Vx w6 wr.heap.size f := (V4.keep (w' := w5) (by rw [hsm5.heap])).keep (G6'.block _ (by rw [hz5]; exact V4.lt) (fun e => by have := Option.some.inj e; omega))
        have B6 : Below w.heap.size w w6 := (B4.trans (hsm5.below _)).grown G6' (by omega) (fun j hj => by have := Option.some.inj hj; omega)
        have hok6 := hok.keep B6
        have hra6 : w6.rangeAt wr.heap.size 0 cs := by rw [HC.out]; exact V6.ra
        have how6 : Ow w6 (w.heap.size + 1) (.slice aw xs.length cw) xs := (hsm5.ow how4).keep fun j hj hl => G6'.block j hl (fun e => by have := Option.some.inj e; have := hwl j hj; omega)
        have hw6 : Wr w6 w.heap.size v4 (xs ++ encF f) := by
          have h5 := hsm5.wr hw4
          exact ⟨by rw [G6'.block _ h5.lt (fun e => by have := Option.some.inj e; omega)]; exact h5.1, h5.2.keep fun j hj hl => G6'.block j hl (fun e => (hv4 j hj).1 (Option.some.inj e))⟩
        have hz6 := G6'.size
        clear ho5 G6 G6' V6 V4 hok4 how4 hw4 B4 hsm5
        go_wp2_with (refine wpList_load_mid rfl 30 (.tmp 6) rfl wr.heap.size 0 rfl cs _ hra6 Tryd.underlying30 rfl HI.out ?_)
        refine (bytesF_core f cs _ HC hok6 (by omega)).mono ?_
        rintro e w7 ⟨a7, c7, rfl, ho7, B7⟩
        have how7 : Ow w7 (w.heap.size + 1) (.slice aw xs.length cw) xs := how6.keep fun j _ hl => B7.block j hl
        have hw7 := hw6.keepBelow B7 (Nat.le_refl _)
        have hz7 := B7.size
        have B7' : Below w.heap.size w w7 := B6.trans (B7.mono B6.size)
        clear hra6 how6 hw6 B6 B7
        go_wp2_with (at_builtin; refine wpList_append_bs _ rfl (.tmp 71) (.tmp 73) rfl (w.heap.size + 1) _ xs rfl how7 _ (encF f) rfl ho7.bs (by omega) (by omega) ?_)
        intro a8 c8 w8 ho8 hg8 hat8
        have hw8 : Wr w8 w.heap.size v4 (encL (fs.take (k + 1))) := by
          rw [HT.out]
          exact ⟨by rw [hg8.block _ hw7.lt (fun e => by have := hwb _ e.symm; omega)]; exact hw7.1, hw7.2.keep fun j hj hl => hg8.block j hl (fun e => (hv4 j hj).2.1 e.symm)⟩
        have ho8' : Ow w8 (w.heap.size + 1) (.slice a8 (encL (fs.take (k + 1))).length c8) (encL (fs.take (k + 1))) := by rw [HT.out, List.length_append]; exact ho8
        have hap8 : ∀ j, v4.ownBlock = some j → (Value.slice a8 (encL (fs.take (k + 1))).length c8).ownBlock ≠ some j := fun j hj e => by
          rw [HT.out, List.length_append] at e
          rcases hat8 with h | h
          · exact (hv4 j hj).2.1 (by rw [← h]; exact e)
          · rw [h] at e
            have := Option.some.inj e
            have := (hv4 j hj).2.2
            omega
        have B8 : Below w.heap.size w w8 := B7'.grown hg8 B7'.size (fun j hj => by have := hwb j hj; omega)
        have HS : Hid (xs.length + (encF f).length = (encL (fs.take (k + 1))).length) := by show _ = _; rw [HT.out, List.length_append]
        clear ho8 hg8 hat8 ho7 how7 hw7 B7' hv4 hap HT
        go_wp2
        go_roundw
        case rel => exact ⟨k + 1, v4, a8, c8, by omega, by go_num, by rw [HS.out], hw8, ho8', hap8, B8⟩
        case measure => simp [intOf]; omega
      by_cases k4 : f.kind = 4
      · have HE : Hid (encF f = numOf f.n) := by show _ = _; simp [encF, k4]
        rw [k4] at h30
        clear k4 k1 k2 k3
        go_wp2_with fail
        refine (num_w w.heap.size v1 xs _ _ hw3 (by omega) hn0 hn1).mono ?_
        rintro e w4 ⟨rfl, v4, hw4, hs4⟩
        rw [← HE.out] at hw4
        clear HE HI28
        have V4 := V3.keep (hs4.block wr.heap.size V3.lt (by omega) (fun e => by have := hvl _ e.symm; omega))
        have ho4 : Ow w4 WX.heap.size (.slice (some ⟨g, 0, none⟩) (f.bs.length + 1) cg) (f.bs ++ [171]) := ho3.keep fun j hj hl => hs4.block j hl (by have := (World.ownsRow.lt ho3 j hj).1; omega) (fun e => by have := hvl _ e.symm; have := (World.ownsRow.lt ho3 j hj).1; omega)
        have how4 : Ow w4 (w.heap.size + 1) (.slice aw xs.length cw) xs := how3.keep fun j hj hl => hs4.block j hl (by have := hwb j hj; omega) (fun e => hap j e.symm hj)
        have B4 : Below w.heap.size w w4 := (Bk.trans (BX3.mono hsk)).trans (hw3.below hs4 (Nat.le_refl _))
        have hok4 := hok.keep B4
        have hv4 : ∀ j, v4.ownBlock = some j → j ≠ g ∧ (Value.slice aw xs.length cw).ownBlock ≠ some j ∧ j < w4.heap.size := fun j hj => by
          have hj4 := (World.ownsRow.lt hw4.2 j hj).2
          rcases hs4.own with e | ⟨q, e, hq⟩
          · have := hvl j (by rw [← e]; exact hj)
            exact ⟨by omega, hap j (by rw [← e]; exact hj), hj4⟩
          · rw [e] at hj
            have hj' := Option.some.inj hj
            exact ⟨by omega, fun e2 => by have := hwl j e2; omega, hj4⟩
        have hs34 := hs4.size
        have h42 := V4.c2
        have hb4 := hok4.b
        rw [hbv] at h42 hb4
        clear h30 h31 h32 h33 hs4 hw3 ho3 how3 V3 hok3
        go_wp2_with fail
        refine (stands_any _ g cg _ f.bs _ ho4 hb4 (by omega)).mono ?_
        rintro e w5 ⟨rfl, hsm5⟩
        have ho5 := hsm5.ow ho4
        have hz5 := hsm5.size
        clear h42 hb4 ho4
        go_wp2_with fail
        refine (spoil_any _ _ _ _ ho5 (by omega) (by simp; omega)).mono ?_
        rintro e w6 ⟨rfl, G6⟩
        have G6' : w5.grownBy w6 (some g) := G6
        have V6 : Vx w6 wr.heap.size f := (V4.keep (w' := w5) (by rw [hsm5.heap])).keep (G6'.block _ (by rw [hz5]; exact V4.lt) (fun e => by have := Option.some.inj e; omega))
        have B6 : Below w.heap.size w w6 := (B4.trans (hsm5.below _)).grown G6' (by omega) (fun j hj => by have := Option.some.inj hj; omega)
        have hok6 := hok.keep B6
        have hra6 : w6.rangeAt wr.heap.size 0 cs := by rw [HC.out]; exact V6.ra
        have how6 : Ow w6 (w.heap.size + 1) (.slice aw xs.length cw) xs := (hsm5.ow how4).keep fun j hj hl => G6'.block j hl (fun e => by have := Option.some.inj e; have := hwl j hj; omega)
        have hw6 : Wr w6 w.heap.size v4 (xs ++ encF f) := by
          have h5 := hsm5.wr hw4
          exact ⟨by rw [G6'.block _ h5.lt (fun e => by have := Option.some.inj e; omega)]; exact h5.1, h5.2.keep fun j hj hl => G6'.block j hl (fun e => (hv4 j hj).1 (Option.some.inj e))⟩
        have hz6 := G6'.size
        clear ho5 G6 G6' V6 V4 hok4 how4 hw4 B4 hsm5
        go_wp2_with (refine wpList_load_mid rfl 30 (.tmp 6) rfl wr.heap.size 0 rfl cs _ hra6 Tryd.underlying30 rfl HI.out ?_)
        refine (bytesF_core f cs _ HC hok6 (by omega)).mono ?_
        rintro e w7 ⟨a7, c7, rfl, ho7, B7⟩
        have how7 : Ow w7 (w.heap.size + 1) (.slice aw xs.length cw) xs := how6.keep fun j _ hl => B7.block j hl
        have hw7 := hw6.keepBelow B7 (Nat.le_refl _)
        have hz7 := B7.size
        have B7' : Below w.heap.size w w7 := B6.trans (B7.mono B6.size)
        clear hra6 how6 hw6 B6 B7
        go_wp2_with (at_builtin; refine wpList_append_bs _ rfl (.tmp 71) (.tmp 73) rfl (w.heap.size + 1) _ xs rfl how7 _ (encF f) rfl ho7.bs (by omega) (by omega) ?_)
        intro a8 c8 w8 ho8 hg8 hat8
        have hw8 : Wr w8 w.heap.size v4 (encL (fs.take (k + 1))) := by
          rw [HT.out]
          exact ⟨by rw [hg8.block _ hw7.lt (fun e => by have := hwb _ e.symm; omega)]; exact hw7.1, hw7.2.keep fun j hj hl => hg8.block j hl (fun e => (hv4 j hj).2.1 e.symm)⟩
        have ho8' : Ow w8 (w.heap.size + 1) (.slice a8 (encL (fs.take (k + 1))).length c8) (encL (fs.take (k + 1))) := by rw [HT.out, List.length_append]; exact ho8
        have hap8 : ∀ j, v4.ownBlock = some j → (Value.slice a8 (encL (fs.take (k + 1))).length c8).ownBlock ≠ some j := fun j hj e => by
          rw [HT.out, List.length_append] at e
          rcases hat8 with h | h
          · exact (hv4 j hj).2.1 (by rw [← h]; exact e)
          · rw [h] at e
            have := Option.some.inj e
            have := (hv4 j hj).2.2
            omega
        have B8 : Below w.heap.size w w8 := B7'.grown hg8 B7'.size (fun j hj => by have := hwb j hj; omega)
        have HS : Hid (xs.length + (encF f).length = (encL (fs.take (k + 1))).length) := by show _ = _; rw [HT.out, List.length_append]
        clear ho8 hg8 hat8 ho7 how7 hw7 B7' hv4 hap HT
        go_wp2
        go_roundw
        case rel => exact ⟨k + 1, v4, a8, c8, by omega, by go_num, by rw [HS.out], hw8, ho8', hap8, B8⟩
        case measure => simp [intOf]; omega
      by_cases k5 : f.kind = 5
      · have HE : Hid (encF f = numOf f.bs.length ++ f.bs) := by show _ = _; simp [encF, k5]
        rw [k5] at h30
        clear k5 k1 k2 k3 k4
        have hp3 := ho3.take f.bs.length (by simp)
        rw [show (f.bs ++ [(171 : Int)]).take f.bs.length = f.bs by simp] at hp3
        obtain ⟨-, -, hcm⟩ := hp3.bounds
        unfold maxLen at hcm
        go_wp2_with fail
        refine (bytes_w2 w.heap.size v1 xs _ f.bs _ hw3 hp3.bs (fun _ j hj => by have hj' := (World.ownsRow.lt hp3 j hj).1; exact ⟨by omega, fun e => by have := hvl _ e.symm; omega⟩) (by omega) (by omega)).mono ?_
        rintro e w4 ⟨rfl, v4, hw4, hs4⟩
        rw [List.append_assoc, ← HE.out] at hw4
        clear hp3 hcm
        clear HE HI28
        have V4 := V3.keep (hs4.block wr.heap.size V3.lt (by omega) (fun e => by have := hvl _ e.symm; omega))
        have ho4 : Ow w4 WX.heap.size (.slice (some ⟨g, 0, none⟩) (f.bs.length + 1) cg) (f.bs ++ [171]) := ho3.keep fun j hj hl => hs4.block j hl (by have := (World.ownsRow.lt ho3 j hj).1; omega) (fun e => by have := hvl _ e.symm; have := (World.ownsRow.lt ho3 j hj).1; omega)
        have how4 : Ow w4 (w.heap.size + 1) (.slice aw xs.length cw) xs := how3.keep fun j hj hl => hs4.block j hl (by have := hwb j hj; omega) (fun e => hap j e.symm hj)
        have B4 : Below w.heap.size w w4 := (Bk.trans (BX3.mono hsk)).trans (hw3.below hs4 (Nat.le_refl _))
        have hok4 := hok.keep B4
        have hv4 : ∀ j, v4.ownBlock = some j → j ≠ g ∧ (Value.slice aw xs.length cw).ownBlock ≠ some j ∧ j < w4.heap.size := fun j hj => by
          have hj4 := (World.ownsRow.lt hw4.2 j hj).2
          rcases hs4.own with e | ⟨q, e, hq⟩
          · have := hvl j (by rw [← e]; exact hj)
            exact ⟨by omega, hap j (by rw [← e]; exact hj), hj4⟩
          · rw [e] at hj
            have hj' := Option.some.inj hj
            exact ⟨by omega, fun e2 => by have := hwl j e2; omega, hj4⟩
        have hs34 := hs4.size
        have h42 := V4.c2
        have hb4 := hok4.b
        rw [hbv] at h42 hb4
        clear h30 h31 h32 h33 hs4 hw3 ho3 how3 V3 hok3
        go_wp2_with fail
        refine (stands_any _ g cg _ f.bs _ ho4 hb4 (by omega)).mono ?_
        rintro e w5 ⟨rfl, hsm5⟩
        have ho5 := hsm5.ow ho4
        have hz5 := hsm5.size
        clear h42 hb4 ho4
        go_wp2_with fail
        refine (spoil_any _ _ _ _ ho5 (by omega) (by simp; omega)).mono ?_
        rintro e w6 ⟨rfl, G6⟩
        have G6' : w5.grownBy w6 (some g) := G6
        have V6 : Vx w6 wr.heap.size f := (V4.keep (w' := w5) (by rw [hsm5.heap])).keep (G6'.block _ (by rw [hz5]; exact V4.lt) (fun e => by have := Option.some.inj e; omega))
        have B6 : Below w.heap.size w w6 := (B4.trans (hsm5.below _)).grown G6' (by omega) (fun j hj => by have := Option.some.inj hj; omega)
        have hok6 := hok.keep B6
        have hra6 : w6.rangeAt wr.heap.size 0 cs := by rw [HC.out]; exact V6.ra
        have how6 : Ow w6 (w.heap.size + 1) (.slice aw xs.length cw) xs := (hsm5.ow how4).keep fun j hj hl => G6'.block j hl (fun e => by have := Option.some.inj e; have := hwl j hj; omega)
        have hw6 : Wr w6 w.heap.size v4 (xs ++ encF f) := by
          have h5 := hsm5.wr hw4
          exact ⟨by rw [G6'.block _ h5.lt (fun e => by have := Option.some.inj e; omega)]; exact h5.1, h5.2.keep fun j hj hl => G6'.block j hl (fun e => (hv4 j hj).1 (Option.some.inj e))⟩
        have hz6 := G6'.size
        clear ho5 G6 G6' V6 V4 hok4 how4 hw4 B4 hsm5
        go_wp2_with (refine wpList_load_mid rfl 30 (.tmp 6) rfl wr.heap.size 0 rfl cs _ hra6 Tryd.underlying30 rfl HI.out ?_)
        refine (bytesF_core f cs _ HC hok6 (by omega)).mono ?_
        rintro e w7 ⟨a7, c7, rfl, ho7, B7⟩
        have how7 : Ow w7 (w.heap.size + 1) (.slice aw xs.length cw) xs := how6.keep fun j _ hl => B7.block j hl
        have hw7 := hw6.keepBelow B7 (Nat.le_refl _)
        have hz7 := B7.size
        have B7' : Below w.heap.size w w7 := B6.trans (B7.mono B6.size)
        clear hra6 how6 hw6 B6 B7
        go_wp2_with (at_builtin; refine wpList_append_bs _ rfl (.tmp 71) (.tmp 73) rfl (w.heap.size + 1) _ xs rfl how7 _ (encF f) rfl ho7.bs (by omega) (by omega) ?_)
        intro a8 c8 w8 ho8 hg8 hat8
        have hw8 : Wr w8 w.heap.size v4 (encL (fs.take (k + 1))) := by
          rw [HT.out]
          exact ⟨by rw [hg8.block _ hw7.lt (fun e => by have := hwb _ e.symm; omega)]; exact hw7.1, hw7.2.keep fun j hj hl => hg8.block j hl (fun e => (hv4 j hj).2.1 e.symm)⟩
        have ho8' : Ow w8 (w.heap.size + 1) (.slice a8 (encL (fs.take (k + 1))).length c8) (encL (fs.take (k + 1))) := by rw [HT.out, List.length_append]; exact ho8
        have hap8 : ∀ j, v4.ownBlock = some j → (Value.slice a8 (encL (fs.take (k + 1))).length c8).ownBlock ≠ some j := fun j hj e => by
          rw [HT.out, List.length_append] at e
          rcases hat8 with h | h
          · exact (hv4 j hj).2.1 (by rw [← h]; exact e)
          · rw [h] at e
            have := Option.some.inj e
            have := (hv4 j hj).2.2
            omega
        have B8 : Below w.heap.size w w8 := B7'.grown hg8 B7'.size (fun j hj => by have := hwb j hj; omega)
        have HS : Hid (xs.length + (encF f).length = (encL (fs.take (k + 1))).length) := by show _ = _; rw [HT.out, List.length_append]
        clear ho8 hg8 hat8 ho7 how7 hw7 B7' hv4 hap HT
        go_wp2
        go_roundw
        case rel => exact ⟨k + 1, v4, a8, c8, by omega, by go_num, by rw [HS.out], hw8, ho8', hap8, B8⟩
        case measure => simp [intOf]; omega
      have HE : Hid (encF f = f.h) := by show _ = _; simp [encF, k1, k2, k3, k4, k5]
      have e1 : (f.kind == 1) = false := by simp [k1]
      have e2 : (f.kind == 2) = false := by simp [k2]
      have e3 : (f.kind == 3) = false := by simp [k3]
      have e4 : (f.kind == 4) = false := by simp [k4]
      have e5 : (f.kind == 5) = false := by simp [k5]
      clear k1 k2 k3 k4 k5
      go_wp2_with (refine wpList_load_mid rfl 28 (.tmp 30) rfl wr.heap.size 3 rfl (cellsOf f.h) _ h33 Tryd.underlying28 rfl HI28.out ?_)
      refine (hash_w w.heap.size v1 xs f.h _ hw3 hok.hl (by omega)).mono ?_
      rintro e w4 ⟨rfl, v4, hw4, hs4⟩
      rw [← HE.out] at hw4
      clear HE HI28 e1 e2 e3 e4 e5
      have V4 := V3.keep (hs4.block wr.heap.size V3.lt (by omega) (fun e => by have := hvl _ e.symm; omega))
      have ho4 : Ow w4 WX.heap.size (.slice (some ⟨g, 0, none⟩) (f.bs.length + 1) cg) (f.bs ++ [171]) := ho3.keep fun j hj hl => hs4.block j hl (by have := (World.ownsRow.lt ho3 j hj).1; omega) (fun e => by have := hvl _ e.symm; have := (World.ownsRow.lt ho3 j hj).1; omega)
      have how4 : Ow w4 (w.heap.size + 1) (.slice aw xs.length cw) xs := how3.keep fun j hj hl => hs4.block j hl (by have := hwb j hj; omega) (fun e => hap j e.symm hj)
      have B4 : Below w.heap.size w w4 := (Bk.trans (BX3.mono hsk)).trans (hw3.below hs4 (Nat.le_refl _))
      have hok4 := hok.keep B4
      have hv4 : ∀ j, v4.ownBlock = some j → j ≠ g ∧ (Value.slice aw xs.length cw).ownBlock ≠ some j ∧ j < w4.heap.size := fun j hj => by
        have hj4 := (World.ownsRow.lt hw4.2 j hj).2
        rcases hs4.own with e | ⟨q, e, hq⟩
        · have := hvl j (by rw [← e]; exact hj)
          exact ⟨by omega, hap j (by rw [← e]; exact hj), hj4⟩
        · rw [e] at hj
          have hj' := Option.some.inj hj
          exact ⟨by omega, fun e2 => by have := hwl j e2; omega, hj4⟩
      have hs34 := hs4.size
      have h42 := V4.c2
      have hb4 := hok4.b
      rw [hbv] at h42 hb4
      clear h30 h31 h32 h33 hs4 hw3 ho3 how3 V3 hok3
      go_wp2_with fail
      refine (stands_any _ g cg _ f.bs _ ho4 hb4 (by omega)).mono ?_
      rintro e w5 ⟨rfl, hsm5⟩
      have ho5 := hsm5.ow ho4
      have hz5 := hsm5.size
      clear h42 hb4 ho4
      go_wp2_with fail
      refine (spoil_any _ _ _ _ ho5 (by omega) (by simp; omega)).mono ?_
      rintro e w6 ⟨rfl, G6⟩
      have G6' : w5.grownBy w6 (some g) := G6
      have V6 : Vx w6 wr.heap.size f := (V4.keep (w' := w5) (by rw [hsm5.heap])).keep (G6'.block _ (by rw [hz5]; exact V4.lt) (fun e => by have := Option.some.inj e; omega))
      have B6 : Below w.heap.size w w6 := (B4.trans (hsm5.below _)).grown G6' (by omega) (fun j hj => by have := Option.some.inj hj; omega)
      have hok6 := hok.keep B6
      have hra6 : w6.rangeAt wr.heap.size 0 cs := by rw [HC.out]; exact V6.ra
      have how6 : Ow w6 (w.heap.size + 1) (.slice aw xs.length cw) xs := (hsm5.ow how4).keep fun j hj hl => G6'.block j hl (fun e => by have := Option.some.inj e; have := hwl j hj; omega)
      have hw6 : Wr w6 w.heap.size v4 (xs ++ encF f) := by
        have h5 := hsm5.wr hw4
        exact ⟨by rw [G6'.block _ h5.lt (fun e => by have := Option.some.inj e; omega)]; exact h5.1, h5.2.keep fun j hj hl => G6'.block j hl (fun e => (hv4 j hj).1 (Option.some.inj e))⟩
      have hz6 := G6'.size
      clear ho5 G6 G6' V6 V4 hok4 how4 hw4 B4 hsm5
      go_wp2_with (refine wpList_load_mid rfl 30 (.tmp 6) rfl wr.heap.size 0 rfl cs _ hra6 Tryd.underlying30 rfl HI.out ?_)
      refine (bytesF_core f cs _ HC hok6 (by omega)).mono ?_
      rintro e w7 ⟨a7, c7, rfl, ho7, B7⟩
      have how7 : Ow w7 (w.heap.size + 1) (.slice aw xs.length cw) xs := how6.keep fun j _ hl => B7.block j hl
      have hw7 := hw6.keepBelow B7 (Nat.le_refl _)
      have hz7 := B7.size
      have B7' : Below w.heap.size w w7 := B6.trans (B7.mono B6.size)
      clear hra6 how6 hw6 B6 B7
      go_wp2_with (at_builtin; refine wpList_append_bs _ rfl (.tmp 71) (.tmp 73) rfl (w.heap.size + 1) _ xs rfl how7 _ (encF f) rfl ho7.bs (by omega) (by omega) ?_)
      intro a8 c8 w8 ho8 hg8 hat8
      have hw8 : Wr w8 w.heap.size v4 (encL (fs.take (k + 1))) := by
        rw [HT.out]
        exact ⟨by rw [hg8.block _ hw7.lt (fun e => by have := hwb _ e.symm; omega)]; exact hw7.1, hw7.2.keep fun j hj hl => hg8.block j hl (fun e => (hv4 j hj).2.1 e.symm)⟩
      have ho8' : Ow w8 (w.heap.size + 1) (.slice a8 (encL (fs.take (k + 1))).length c8) (encL (fs.take (k + 1))) := by rw [HT.out, List.length_append]; exact ho8
      have hap8 : ∀ j, v4.ownBlock = some j → (Value.slice a8 (encL (fs.take (k + 1))).length c8).ownBlock ≠ some j := fun j hj e => by
        rw [HT.out, List.length_append] at e
        rcases hat8 with h | h
        · exact (hv4 j hj).2.1 (by rw [← h]; exact e)
        · rw [h] at e
          have := Option.some.inj e
          have := (hv4 j hj).2.2
          omega
      have B8 : Below w.heap.size w w8 := B7'.grown hg8 B7'.size (fun j hj => by have := hwb j hj; omega)
      have HS : Hid (xs.length + (encF f).length = (encL (fs.take (k + 1))).length) := by show _ = _; rw [HT.out, List.length_append]
      clear ho8 hg8 hat8 ho7 how7 hw7 B7' hv4 hap HT
      go_wp2
      go_roundw
      case rel => exact ⟨k + 1, v4, a8, c8, by omega, by go_num, by rw [HS.out], hw8, ho8', hap8, B8⟩
      case measure => simp [intOf]; omega
    · have E1 : encL (fs.take k) = encL fs := by rw [List.take_of_length_le (by omega)]
      rw [E1] at hw1 how hap
      rw [E1]
      have hel : (encL fs).length ≤ 100000 := by have := HLen.out k; rw [E1] at this; exact this
      have hby := encL_byt hoks
      have hwl : ∀ j, (Value.slice aw (encL fs).length cw).ownBlock = some j → j < wr.heap.size := fun j hj => (World.ownsRow.lt how j hj).2
      have hvl : ∀ j, v1.ownBlock = some j → j < wr.heap.size := fun j hj => (World.ownsRow.lt hw1.2 j hj).2
      have hblt := hw1.lt
      have hsk := Bk.size
      clear E1 hap
      generalize hx : encL fs = el at *
      have HX : Hid (encL fs = el) := hx
      clear hx
      go_wp2_with fail
      refine (out_w w.heap.size v1 el _ hw1 (by omega)).mono ?_
      rintro e w4 ⟨ao4, cap4, rfl, ho4, B4⟩
      have hbw4 := how.bs.below B4 (Nat.le_refl _)
      go_wp2_with fail
      refine (same_any _ _ _ _ _ ho4.bs hbw4).mono ?_
      rintro e w5 ⟨rfl, hsm5⟩
      rw [eqB_true rfl]
      have ho5 := hsm5.ow ho4
      have hz5 := hsm5.size
      have hz4 := B4.size
      clear hbw4
      go_wp2_with fail
      refine (newReader_any _ el _ ho5.bs (by omega)).mono ?_
      rintro e w6 ⟨b6, v6, rfl, hr6, B6, hb6, hk6⟩
      have ho6 : Ow w6 wr.heap.size (.slice ao4 el.length cap4) el := ho5.keep fun j _ hj => B6.block j hj
      have hz6 := B6.size
      clear hr6 hk6 ho5 ho4
      go_wp2_with fail
      refine (spoil_any _ _ _ _ ho6 (by omega) (by omega)).mono ?_
      rintro e w7 ⟨rfl, G7⟩
      have B7 : Below wr.heap.size wr w7 := ((B4.trans (hsm5.below _)).trans (B6.mono (by omega))).grown G7 (by omega) (fun j hj => (World.ownsRow.lt ho6 j hj).1)
      have hw7 := hw1.keepBelow B7 (Nat.le_refl _)
      have how7 : Ow w7 (w.heap.size + 1) (.slice aw el.length cw) el := how.keep fun j hj hl => B7.block j hl
      have hz7 := B7.size
      clear G7 ho6 B6 hsm5 B4 hw1 how
      go_wp2_with fail
      refine (out_w w.heap.size v1 el _ hw7 (by omega)).mono ?_
      rintro e w8 ⟨ao8, cap8, rfl, ho8, B8⟩
      have hbw8 := how7.bs.below B8 (Nat.le_refl _)
      go_wp2_with fail
      refine (same_any _ _ _ _ _ ho8.bs hbw8).mono ?_
      rintro e w9 ⟨rfl, hsm9⟩
      rw [eqB_true rfl]
      have hbw9 := hsm9.bs hbw8
      go_wp2_with fail
      refine (newReader_any _ el _ hbw9 (by omega)).mono ?_
      rintro e w10 ⟨b10, v10, rfl, hr10, B10, hb10, hk10⟩
      have hz8 := B8.size
      have hz9 := hsm9.size
      have B10' : Below w.heap.size w w10 := (((Bk.trans (B7.mono hsk)).trans (B8.mono (by omega))).trans (hsm9.below _)).trans (B10.mono (by omega))
      have hb10' : w.heap.size ≤ b10 := by omega
      clear hbw9 hbw8 ho8 how7 hw7 B7 B8 B10 hsm9 Bk hk10 hb10 hz4 hz5 hz6 hz7 hz8 hz9 hvl hwl hb6 hblt hsk
      go_wp2
      go_loopw [10] (fun i wr => ∃ (k : Nat) (v' : Value), k ≤ fs.length ∧ i = .int .i64 k ∧ Rd wr b10 v' (encL (fs.drop k)) 0 ∧ Below w.heap.size w wr) (fun i _ => fs.length - (intOf i).toNat)
      case atStart => exact ⟨0, v10, Nat.zero_le _, rfl, by rw [List.drop_zero, HX.out]; exact hr10, B10'⟩
      case round =>
        clear hr10 B10'
        obtain ⟨k, v', hk, rfl, hr, Bk⟩ := hrel
        by_cases hlt : k < fs.length
        · obtain ⟨gb, off, rfl⟩ := hf.loc (by omega)
          obtain ⟨hrow, hok⟩ := hf.row Bk k hlt
          have HT : Hid (encL (fs.drop k) = encF fs[k] ++ encL (fs.drop (k + 1))) := encL_drop fs k hlt
          have hbyk : Byt (encF fs[k] ++ encL (fs.drop (k + 1))) := by rw [← HT.out]; exact encL_byt (fun f hf' => hoks f (List.mem_of_mem_drop hf'))
          rw [HT.out] at hr
          have hbsm : fs[k].bs.length ≤ 3000 := by have := roomF_mem (List.getElem_mem hlt); omega
          generalize hfk : fs[k] = f at *
          generalize hrk : encL (fs.drop (k + 1)) = r at *
          have HRK : Hid (encL (fs.drop (k + 1)) = r) := hrk
          clear hfk hrk HT
          have hone := Fd.one hok
          have hcl := Fd.cells_len hok
          obtain ⟨cs, hcs⟩ : ∃ cs, cs = f.cells := ⟨_, rfl⟩
          have HCL : Hid (cs.length = 35) := by rw [hcs]; exact hcl
          have HI : Hid ((Tryd.prog.info? 30).map (·.size) = some cs.length) := by show _ = _; rw [HCL.out]; exact Tryd.info30
          rw [← hcs] at hrow hone
          have HC : Hid (cs = f.cells) := hcs
          clear hcs hcl
          obtain ⟨abv, cbv, hbv, _⟩ := hok.b.len
          have hblt := hr.lt
          by_cases k1 : f.kind = 1
          · go_wp2_with (first
              | (refine wpList_load_mid rfl 30 (.tmp 100) rfl gb (off + k * 35) rfl cs _ hrow Tryd.underlying30 rfl HI.out ?_)
              | (refine wpList_store_new wr rfl (.tmp 11) (.tmp 101) rfl cs rfl rfl HCL hone ?_; intro WX hX BX hXs; have VX : Vx WX wr.heap.size f := Vx.of_block (by rw [← HC.out]; exact hX); have hX0 := VX.c0; rw [k1] at hX0; have hX1 := VX.c1))
            have hrX := hr.below BX (Nat.le_refl _)
            have BX' : Below w.heap.size w WX := Bk.trans (BX.mono Bk.size)
            have hne : wr.heap.size ≠ b10 := by omega
            clear hX BX hrow hone hr
            have hwr : IntKind.u8.wrap f.n = f.n % 256 := IntKind.wrap_u8' _
            go_region_held3 (fun w' => w'.cell? ⟨wr.heap.size, 1, none⟩ = some (.int .i64 f.n)) (assumption)
              (first
                | (go_at_call 23; refine (take1 b10 v' f r _ (by exact hrX) k1).mono ?_; rintro e w12 ⟨rfl, v12, hr12, hs12, hv12⟩; have V12 : Vx w12 wr.heap.size f := VX.keep (hs12.block wr.heap.size hXs hne); have hc12 := V12.c1))
            have B12 : Below w.heap.size w w12 := BX'.drew.trans (hs12.below hb10' BX'.size)
            clear hrX VX hs12
            go_wp2
            go_roundw
            case rel => exact ⟨k + 1, v12, by omega, by go_num, by rw [HRK.out]; exact hr12, B12⟩
            case measure => simp [intOf]; omega
          by_cases k2 : f.kind = 2
          · go_wp2_with (first
              | (refine wpList_load_mid rfl 30 (.tmp 100) rfl gb (off + k * 35) rfl cs _ hrow Tryd.underlying30 rfl HI.out ?_)
              | (refine wpList_store_new wr rfl (.tmp 11) (.tmp 101) rfl cs rfl rfl HCL hone ?_; intro WX hX BX hXs; have VX : Vx WX wr.heap.size f := Vx.of_block (by rw [← HC.out]; exact hX); have hX0 := VX.c0; rw [k2] at hX0; have hX1 := VX.c1))
            have hrX := hr.below BX (Nat.le_refl _)
            have BX' : Below w.heap.size w WX := Bk.trans (BX.mono Bk.size)
            have hne : wr.heap.size ≠ b10 := by omega
            clear hX BX hrow hone hr
            have hvX : ∀ q, v'.ownBlock = some q → q < WX.heap.size := hrX.2.1.lt (by simp [encF, k2, twoB])
            have hwr : IntKind.u16.wrap f.n = f.n % 65536 := IntKind.wrap_u16 _
            go_region_held3 (fun w' => w'.cell? ⟨wr.heap.size, 1, none⟩ = some (.int .i64 f.n)) (assumption)
              (first
                | (go_at_call 24; refine (take2 b10 v' f r _ (by exact hrX) k2 hbyk (by exact hvX)).mono ?_; rintro e w12 ⟨rfl, v12, hr12, hs12, hv12⟩; have V12 : Vx w12 wr.heap.size f := VX.keep (hs12.block wr.heap.size hXs hne); have hc12 := V12.c1))
            have B12 : Below w.heap.size w w12 := BX'.drew.trans (hs12.below hb10' BX'.size)
            clear hrX VX hs12
            go_wp2
            go_roundw
            case rel => exact ⟨k + 1, v12, by omega, by go_num, by rw [HRK.out]; exact hr12, B12⟩
            case measure => simp [intOf]; omega
          by_cases k3 : f.kind = 3
          · go_wp2_with (first
              | (refine wpList_load_mid rfl 30 (.tmp 100) rfl gb (off + k * 35) rfl cs _ hrow Tryd.underlying30 rfl HI.out ?_)
              | (refine wpList_store_new wr rfl (.tmp 11) (.tmp 101) rfl cs rfl rfl HCL hone ?_; intro WX hX BX hXs; have VX : Vx WX wr.heap.size f := Vx.of_block (by rw [← HC.out]; exact hX); have hX0 := VX.c0; rw [k3] at hX0; have hX1 := VX.c1))
            have hrX := hr.below BX (Nat.le_refl _)
            have BX' : Below w.heap.size w WX := Bk.trans (BX.mono Bk.size)
            have hne : wr.heap.size ≠ b10 := by omega
            clear hX BX hrow hone hr
            have hvX : ∀ q, v'.ownBlock = some q → q < WX.heap.size := hrX.2.1.lt (by simp [encF, k3, fourB])
            have hwr : IntKind.u32.wrap f.n = f.n % 4294967296 := IntKind.wrap_u32' _
            go_region_held3 (fun w' => w'.cell? ⟨wr.heap.size, 1, none⟩ = some (.int .i64 f.n)) (assumption)
              (first
                | (go_at_call 25; refine (take3 b10 v' f r _ (by exact hrX) k3 hbyk (by exact hvX)).mono ?_; rintro e w12 ⟨rfl, v12, hr12, hs12, hv12⟩; have V12 : Vx w12 wr.heap.size f := VX.keep (hs12.block wr.heap.size hXs hne); have hc12 := V12.c1))
            have B12 : Below w.heap.size w w12 := BX'.drew.trans (hs12.below hb10' BX'.size)
            clear hrX VX hs12
            go_wp2
            go_roundw
            case rel => exact ⟨k + 1, v12, by omega, by go_num, by rw [HRK.out]; exact hr12, B12⟩
            case measure => simp [intOf]; omega
          by_cases k4 : f.kind = 4
          · go_wp2_with (first
              | (refine wpList_load_mid rfl 30 (.tmp 100) rfl gb (off + k * 35) rfl cs _ hrow Tryd.underlying30 rfl HI.out ?_)
              | (refine wpList_store_new wr rfl (.tmp 11) (.tmp 101) rfl cs rfl rfl HCL hone ?_; intro WX hX BX hXs; have VX : Vx WX wr.heap.size f := Vx.of_block (by rw [← HC.out]; exact hX); have hX0 := VX.c0; rw [k4] at hX0; have hX1 := VX.c1))
            have hrX := hr.below BX (Nat.le_refl _)
            have BX' : Below w.heap.size w WX := Bk.trans (BX.mono Bk.size)
            have hne : wr.heap.size ≠ b10 := by omega
            clear hX BX hrow hone hr
            go_region_held3 (fun w' => w'.cell? ⟨wr.heap.size, 1, none⟩ = some (.int .i64 f.n)) (assumption)
              (first
                | (go_at_call 26; refine (take4 b10 v' f r _ (by exact hrX) k4 hbyk hok.n0 hok.n1).mono ?_; rintro e w12 ⟨rfl, v12, hr12, hs12, hv12⟩; have V12 : Vx w12 wr.heap.size f := VX.keep (hs12.block wr.heap.size hXs hne); have hc12 := V12.c1))
            have B12 : Below w.heap.size w w12 := BX'.drew.trans (hs12.below hb10' BX'.size)
            clear hrX VX hs12
            go_wp2
            go_roundw
            case rel => exact ⟨k + 1, v12, by omega, by go_num, by rw [HRK.out]; exact hr12, B12⟩
            case measure => simp [intOf]; omega
          by_cases k5 : f.kind = 5
          · go_wp2_with (first
              | (refine wpList_load_mid rfl 30 (.tmp 100) rfl gb (off + k * 35) rfl cs _ hrow Tryd.underlying30 rfl HI.out ?_)
              | (refine wpList_store_new wr rfl (.tmp 11) (.tmp 101) rfl cs rfl rfl HCL hone ?_; intro WX hX BX hXs; have VX : Vx WX wr.heap.size f := Vx.of_block (by rw [← HC.out]; exact hX); have hX0 := VX.c0; rw [k5] at hX0; have hX2 := VX.c2; rw [hbv] at hX2))
            have hrX := hr.below BX (Nat.le_refl _)
            have BX' : Below w.heap.size w WX := Bk.trans (BX.mono Bk.size)
            have hne : wr.heap.size ≠ b10 := by omega
            clear hX BX hrow hone hr
            have HR0 : Hid (eqB f.bs f.bs = true) := eqB_true rfl
            have hbX : Bs WX (.slice abv f.bs.length cbv) f.bs := by rw [← hbv]; exact hok.b.below BX' (Nat.le_refl _)
            go_region_held3 (fun w' => w'.cell? ⟨wr.heap.size, 2, none⟩ = some (.slice abv f.bs.length cbv)) (assumption)
              (first
                | (go_at_call 27; refine (take5 b10 v' f r _ (by exact hrX) k5 hbyk (by omega)).mono ?_; rintro e w12 ⟨ao12, cap12, rfl, ho12, v12, hr12, hs12, hv12⟩; have V12 : Vx w12 wr.heap.size f := VX.keep (hs12.block wr.heap.size hXs hne); have hc12 := V12.c2; rw [hbv] at hc12; have hb12 : Bs w12 (.slice abv f.bs.length cbv) f.bs := by rw [← hbv]; exact hok.b.below (BX'.drew.trans (hs12.below hb10' BX'.size)) (Nat.le_refl _))
                | (go_at_call 21; refine (same_any _ _ f.bs f.bs _ ho12.bs hb12).mono ?_; rintro e w13 ⟨rfl, hsm13⟩; rw [HR0.out]; have V13 : Vx w13 wr.heap.size f := V12.keep (by rw [hsm13.heap]); have hc13 := V13.c2; rw [hbv] at hc13))
            have B12 : Below w.heap.size w w12 := BX'.drew.trans (hs12.below hb10' BX'.size)
            have B13 : Below w.heap.size w w13 := B12.trans (hsm13.below _)
            have hr13 := hr12.sm hsm13
            clear hrX VX hs12 V12 V13 hsm13 ho12 hb12 hbX
            go_wp2
            go_roundw
            case rel => exact ⟨k + 1, v12, by omega, by go_num, by rw [HRK.out]; exact hr13, B13⟩
            case measure => simp [intOf]; omega
          have e1 : (f.kind == 1) = false := by simp [k1]
          have e2 : (f.kind == 2) = false := by simp [k2]
          have e3 : (f.kind == 3) = false := by simp [k3]
          have e4 : (f.kind == 4) = false := by simp [k4]
          have e5 : (f.kind == 5) = false := by simp [k5]
          go_wp2_with (first
              | (refine wpList_load_mid rfl 30 (.tmp 100) rfl gb (off + k * 35) rfl cs _ hrow Tryd.underlying30 rfl HI.out ?_)
              | (refine wpList_store_new wr rfl (.tmp 11) (.tmp 101) rfl cs rfl rfl HCL hone ?_; intro WX hX BX hXs; have VX : Vx WX wr.heap.size f := Vx.of_block (by rw [← HC.out]; exact hX); have hX0 := VX.c0; have hX3 := VX.r3))
          have hrX := hr.below BX (Nat.le_refl _)
          have BX' : Below w.heap.size w WX := Bk.trans (BX.mono Bk.size)
          have hne : wr.heap.size ≠ b10 := by omega
          clear hX BX hrow hone hr
          have hvX : ∀ q, v'.ownBlock = some q → q < WX.heap.size := hrX.2.1.lt (by
            have hh := hok.hl
            intro e0
            have e6 : encF f = f.h := by simp [encF, k1, k2, k3, k4, k5]
            rw [e6] at e0
            have := congrArg List.length e0
            simp [hh] at this)
          have hu := Tryd.underlying28
          have hhl := hok.hl
          have hi28 : (Tryd.prog.info? 28).map (·.size) = some (cellsOf f.h).length := by rw [cellsOf_length, hhl]; exact Tryd.info28
          have hcl28 : (cellsOf f.h).length = 32 := by rw [cellsOf_length, hhl]
          have hon28 := cellsOf_one f.h
          have heq : ∀ W, (Op.equalIn 10000 28 (.agg (cellsOf f.h).toArray) (.agg (cellsOf f.h).toArray)).run Tryd.prog W = .ok true W := fun W => by rw [run_equal_hash f.h f.h hhl hhl W, eqB_true rfl]
          go_region_held3 (fun w' => w'.rangeAt wr.heap.size 3 (cellsOf f.h)) (assumption)
            (first
              | (go_at_call 28; refine (take6 b10 v' f r _ (by exact hrX) ⟨k1, k2, k3, k4, k5⟩ hhl (by exact hvX)).mono ?_; rintro e w12 ⟨rfl, v12, hr12, hs12, hv12⟩; have V12 : Vx w12 wr.heap.size f := VX.keep (hs12.block wr.heap.size hXs hne); have hc12 := V12.r3))
          have B12 : Below w.heap.size w w12 := BX'.drew.trans (hs12.below hb10' BX'.size)
          clear hrX VX hs12 hi28 hcl28 hon28
          go_wp2
          go_roundw
          case rel => exact ⟨k + 1, v12, by omega, by go_num, by rw [HRK.out]; exact hr12, B12⟩
          case measure => simp [intOf]; omega
        · have hz : fs.drop k = [] := List.drop_eq_nil_of_le (by omega)
          rw [hz] at hr
          have hr' : Rd wr b10 v' [] 0 := hr
          have htw := ht.below Bk htl
          clear hr hz
          go_wp2_with fail
          refine (left_any b10 v' _ _ _ hr').mono ?_
          rintro e w14 ⟨rfl, rfl⟩
          go_wp2_with fail
          refine (end_any b10 v' _ _ _ hr').mono ?_
          rintro e w14 ⟨rfl, rfl⟩
          rw [show endR [] 0 = 0 from rfl]
          go_wp2_with fail
          refine (known_any _ htw).mono ?_
          rintro e w15 ⟨rfl, B15⟩
          go_wp2
          go_ret
          exact ⟨rfl, Bk.trans (B15.mono Bk.size)⟩
end Go.Proofs.YtamifgaaalclcaaDoor
