/-
  OctetCuts, walked: for every row of fields and every cut it answers true, and writes nothing that was there.
-/
import Derived.Test.YtamifgaaalclcabDoorCutsHelp
import Derived.Deep.RegionHeld3
namespace Go.Proofs.YtamifgaaalclcabDoor
open Go.RowKit

theorem and30 (a : Int) : ∃ A : Nat, bits .and .i64 a 1073741823 = (A : Int) ∧ A < 1073741824 := by
  have e : bits .and .i64 a 1073741823 = IntKind.i64.wrap (((BitVec.ofInt 64 a &&& BitVec.ofInt 64 1073741823).toNat : Nat) : Int) := rfl
  have hb : (BitVec.ofInt 64 a &&& BitVec.ofInt 64 1073741823).toNat < 1073741824 := by
    rw [BitVec.toNat_and]
    have : (BitVec.ofInt 64 1073741823).toNat = 1073741823 := by decide
    rw [this]
    exact Nat.lt_of_le_of_lt Nat.and_le_right (by decide)
  refine ⟨_, ?_, hb⟩
  rw [e]
  generalize (BitVec.ofInt 64 a &&& BitVec.ofInt 64 1073741823).toNat = n at *
  simp [IntKind.wrap, IntKind.bits, IntKind.signed]
  omega

theorem Ow.take {w : World} {base g m cap : Nat} {ys : List Int} (h : Ow w base (.slice (some ⟨g, 0, none⟩) m cap) ys) (k : Nat) (hk : k ≤ ys.length) : Ow w base (.slice (some ⟨g, 0, none⟩) k cap) (ys.take k) := by
  obtain ⟨ao, c, he, ⟨rfl, _⟩ | ⟨g', cur, rfl, hb, hl, hg, hn, hc, hs, ht⟩⟩ := h.form
  · simp at he
  · simp only [Value.slice.injEq, Option.some.injEq, Addr.mk.injEq, and_true] at he
    obtain ⟨rfl, rfl, rfl⟩ := he
    have hlen : (ys.take k).length = k := by simp; omega
    refine ⟨by simp [cellsOf], Or.inr ⟨g, cap, cur, by rw [hlen], hb, hg, by rw [hlen]; omega, hc, by simpa using hs, ?_⟩⟩
    rw [hlen, Nat.mul_one]
    have := congrArg (List.take k) ht
    rw [List.take_take, Nat.min_eq_left hk] at this
    rw [this]
    simp [cellsOf, List.map_take]
theorem Ow.grow_form {w : World} {base m cap : Nat} {ao : Option Addr} {ys : List Int} (h : Ow w base (.slice ao m cap) ys) (hn : ys ≠ []) : ∃ g, ao = some ⟨g, 0, none⟩ ∧ base ≤ g ∧ g < w.heap.size ∧ m = ys.length ∧ ys.length ≤ cap ∧ cap ≤ maxLen := by
  obtain ⟨ao, c, he, ⟨rfl, _, h0⟩ | ⟨g', cur, rfl, hb, hl, hg, hn, hc, hs, ht⟩⟩ := h.form
  · exact absurd h0 hn
  · simp only [Value.slice.injEq] at he
    obtain ⟨rfl, rfl, rfl⟩ := he
    exact ⟨g', rfl, hb, hl, rfl, hn, hc⟩
theorem Ow.bounds {w : World} {base g m cap : Nat} {ys : List Int} (h : Ow w base (.slice (some ⟨g, 0, none⟩) m cap) ys) : m = ys.length ∧ ys.length ≤ cap ∧ cap ≤ maxLen := by
  obtain ⟨ao, c, he, ⟨rfl, _, h0⟩ | ⟨g', cur, rfl, hb, hl, hg, hn, hc, hs, ht⟩⟩ := h.form
  · simp at he
  · simp only [Value.slice.injEq] at he
    obtain ⟨_, rfl, rfl⟩ := he
    exact ⟨rfl, hn, hc⟩
/-- Where each of the first k fields ends. -/
def endsN (fs : List Fd) (k : Nat) : List Nat := (List.range k).map fun i => (encL (fs.take (i + 1))).length
theorem endsN_len (fs : List Fd) (k : Nat) : (endsN fs k).length = k := by simp [endsN]
theorem endsN_succ (fs : List Fd) (k : Nat) : endsN fs (k + 1) = endsN fs k ++ [(encL (fs.take (k + 1))).length] := by simp [endsN, List.range_succ]
theorem endsN_get (fs : List Fd) (n k : Nat) (h : k < n) : (endsN fs n)[k]? = some (encL (fs.take (k + 1))).length := by simp [endsN, h]

theorem keep_bs {w w' : World} {v : Value} {zs : List Int} (h : Bs w v zs) (hk : zs ≠ [] → ∀ q, v.ownBlock = some q → q < w.heap.size → w'.heap[q]? = w.heap[q]?) : Bs w' v zs := by
  by_cases hz : zs = []
  · rcases h with h | ⟨h, _⟩
    · exact Or.inl h
    · exact absurd hz h
  · exact h.keep (hk hz)

set_option maxRecDepth 100000 in
set_option maxHeartbeats 40000000 in
theorem cuts_walk (v : Value) (fs : List Fd) (at_ : Int) (w : World) (hf : Fs w v fs) (ht : Tab w) :
    Calls Tryd.prog 3 #[v, .int .i64 at_] w fun e w' => e = .returned (.bool true) ∧ Below w.heap.size w w' := by
  obtain ⟨aa, ca, hva, hma⟩ := hf.len
  subst hva
  unfold maxLen at hma
  go_enter Tryd.func3, Tryd.ntmps3
  go_wp2_with fail
  refine (heavy_any _ fs _ hf).mono ?_
  rintro e w1 ⟨rfl, rfl⟩
  cases hha : heavyB fs with
  | true =>
    clear hha
    go_wp2
    go_ret
    exact ⟨rfl, Below.refl _ _⟩
  | false =>
  have hra := heavy_room hha
  have hla := roomF_len fs
  clear hha
  have htl := ht.lt
  have hoks := hf.oks
  have hLen : ∀ k, (encL (fs.take k)).length ≤ 100000 := fun k => by
    have h1 := encL_len (fs.take k) (fun f hf' => (hoks f (List.mem_of_mem_take hf')).hl)
    have h2 := roomF_take fs k
    have h3 : (fs.take k).length ≤ fs.length := by simp; omega
    omega
  have HLen : Hid (∀ k, (encL (fs.take k)).length ≤ 100000) := hLen
  clear hLen
  go_wp2
  go_loopw [5, 6, 7] (fun s t i wr => ∃ (k : Nat) (aw at2 : Option Addr) (cw ct : Nat), k ≤ fs.length ∧ i = .int .i64 k ∧ s = .slice aw (encL (fs.take k)).length cw ∧ t = .slice at2 k ct ∧ Ow wr w.heap.size (.slice aw (encL (fs.take k)).length cw) (encL (fs.take k)) ∧
      Oi wr w.heap.size (.slice at2 k ct) (endsN fs k) ∧ Below w.heap.size w wr) (fun _ _ i _ => fs.length - (intOf i).toNat)
  case atStart => exact ⟨0, none, none, 0, 0, Nat.zero_le _, rfl, rfl, rfl, World.ownsRow_nil _ _ _ _, World.ownsRow_nil _ _ _ _, Below.refl _ _⟩
  case round =>
    obtain ⟨k, aw, at2, cw, ct, hk, rfl, rfl, rfl, how, hoi, Bk⟩ := hrel
    by_cases hlt : k < fs.length
    · obtain ⟨gb, off, rfl⟩ := hf.loc (by omega)
      obtain ⟨hrow, hok, -⟩ := hf.row Bk k hlt
      have HT : Hid (encL (fs.take (k + 1)) = encL (fs.take k) ++ encF fs[k]) := encL_take fs k hlt
      have HT2 : Hid (endsN fs (k + 1) = endsN fs k ++ [(encL (fs.take (k + 1))).length]) := endsN_succ fs k
      have hxl := HLen.out k
      have hxl2 := HLen.out (k + 1)
      have hbsm : fs[k].bs.length ≤ 3000 := by have := roomF_mem (List.getElem_mem hlt); omega
      have hel := encF_len fs[k] hok.hl
      have HTL : Hid ((encL (fs.take k)).length + (encF fs[k]).length = (encL (fs.take (k + 1))).length) := by show _ = _; rw [HT.out, List.length_append]
      have HEL : Hid ((endsN fs k).length = k) := endsN_len fs k
      generalize hfk : fs[k] = f at *
      clear hfk
      generalize hx : encL (fs.take k) = xs at *
      clear hx
      generalize hx : encL (fs.take (k + 1)) = xs2 at *
      have HX2 : Hid (encL (fs.take (k + 1)) = xs2) := hx
      clear hx
      have hok1 := hok.keep Bk
      have hcl := Fd.cells_len hok
      obtain ⟨cs, hcs⟩ : ∃ cs, cs = f.cells := ⟨_, rfl⟩
      have HI : Hid ((Tryd.prog.info? 30).map (·.size) = some cs.length) := by show _ = _; rw [hcs, hcl]; exact Tryd.info30
      rw [← hcs] at hrow
      have HC : Hid (cs = f.cells) := hcs
      clear hcs hcl
      go_wp2_with (refine wpList_load_mid rfl 30 (.tmp 24) rfl gb (off + k * 35) rfl cs _ hrow Tryd.underlying30 rfl HI.out ?_)
      refine (bytesF_core f cs _ HC hok1 (by omega)).mono ?_
      rintro e w7 ⟨a7, c7, rfl, ho7, B7⟩
      have how7 : Ow w7 w.heap.size (.slice aw xs.length cw) xs := how.keep fun j _ hl => B7.block j hl
      have hoi7 : Oi w7 w.heap.size (.slice at2 k ct) (endsN fs k) := World.ownsRow.kept hoi (row := none) ⟨B7.os, B7.tape, B7.output, B7.size, fun j hj _ => B7.block j hj⟩ (by cases (Value.slice at2 k ct).ownBlock <;> simp)
      have B7' : Below w.heap.size w w7 := Bk.trans (B7.mono Bk.size)
      have hz7 := B7'.size
      clear hrow how hoi B7
      go_wp2_with (at_builtin; refine wpList_append_bs _ rfl (.tmp 21) (.tmp 26) rfl w.heap.size _ xs rfl how7 _ (encF f) rfl ho7.bs (by omega) (by omega) ?_)
      intro a8 c8 w8 ho8 hg8 hat8
      have hoi8 : Oi w8 w.heap.size (.slice at2 k ct) (endsN fs k) := World.ownsRow.kept hoi7 hg8 (hoi7.ne how7)
      have B8 : Below w.heap.size w w8 := B7'.grown hg8 hz7 (fun j hj => (World.ownsRow.lt how7 j hj).1)
      have hz8 := B8.size
      rw [HTL.out] at ho8 hat8 ⊢
      have ho8' : Ow w8 w.heap.size (.slice a8 xs2.length c8) xs2 := by rw [HT.out]; rw [HT.out] at ho8; exact ho8
      clear ho8 hat8 how7 hg8 ho7 hoi7
      have hoi9 : Oi (w8.alloc (.cells #[.int .i64 (xs2.length : Int)] 3)) w.heap.size (.slice at2 k ct) (endsN fs k) := World.ownsRow.alloc hoi8 _
      have ho9 : Ow (w8.alloc (.cells #[.int .i64 (xs2.length : Int)] 3)) w.heap.size (.slice a8 xs2.length c8) xs2 := World.ownsRow.alloc ho8' _
      have B9 : Below w.heap.size w (w8.alloc (.cells #[.int .i64 (xs2.length : Int)] 3)) := B8.alloc hz8 _
      have hc9 : (w8.alloc (.cells #[.int .i64 (xs2.length : Int)] 3)).cell? ⟨w8.heap.size, 0, none⟩ = some (.int .i64 (xs2.length : Int)) := by
        rw [cell_of_row _ w8.heap.size 0 _ _ _ (heap_alloc_new w8 _)]; rfl
      clear hoi8 ho8'
      go_wp2_with (at_builtin; refine wpList_append_int _ rfl (.tmp 28) (.tmp 31) rfl w.heap.size _ (endsN fs k) rfl hoi9 w8.heap.size xs2.length rfl hc9 (by rw [HEL.out]; omega) B9.size ?_)
      intro a10 c10 w10 ho10 hg10 hat10
      have ho10b : Ow w10 w.heap.size (.slice a8 xs2.length c8) xs2 := World.ownsRow.kept ho9 hg10 (hoi9.ne' ho9)
      have B10 : Below w.heap.size w w10 := B9.grown hg10 B9.size (fun j hj => (World.ownsRow.lt hoi9 j hj).1)
      rw [HEL.out] at ho10 ⊢
      rw [← HT2.out] at ho10
      clear hat10 hg10 hoi9 ho9 B9 hc9
      go_wp2
      go_roundw
      case rel => exact ⟨k + 1, a8, a10, c8, c10, by omega, by go_num, by rw [HX2.out], rfl, by rw [HX2.out]; exact ho10b, ho10, B10⟩
      case measure => simp [intOf]; omega
    · obtain ⟨wz, hwz⟩ : ∃ wz, wz = wr := ⟨_, rfl⟩
      subst hwz
      obtain rfl : k = fs.length := by omega
      have hfull : encL (fs.take fs.length) = encL fs := by rw [List.take_length]
      rw [hfull] at how ⊢
      by_cases hL0 : (encL fs).length = 0
      · have htk := ht.below Bk htl
        go_wp2_with fail
        refine (known_any _ htk).mono ?_
        rintro r we ⟨rfl, Be⟩
        go_wp2
        go_ret
        exact ⟨rfl, Bk.trans (Be.mono Bk.size)⟩
      have hfl : 0 < fs.length := by
        rcases Nat.eq_zero_or_pos fs.length with h | h
        · have : fs = [] := List.eq_nil_of_length_eq_zero h
          subst this
          exact absurd rfl hL0
        · exact h
      have hL1 : (encL fs).length ≤ 100000 := by have := HLen.out fs.length; rw [hfull] at this; exact this
      obtain ⟨gb, off, rfl⟩ := hf.loc hfl
      obtain ⟨g, rfl, hg0, hg1, -, hgc, hgm⟩ := how.grow_form (by intro e; rw [e] at hL0; exact hL0 rfl)
      unfold maxLen at hgm
      obtain ⟨A, eA, hA⟩ := and30 at_
      obtain ⟨C, hC⟩ : ∃ C, C = A % (encL fs).length := ⟨_, rfl⟩
      have hC1 : C < (encL fs).length := hC ▸ Nat.mod_lt _ (by omega)
      have eC : ((A : Int) % ((encL fs).length : Int)) = (C : Int) := by rw [hC]; simp
      clear hC
      have hp := (how.take C (by omega)).bs
      obtain ⟨at3, ct3, hoe, hsh⟩ := Oi.shape hoi
      have hne : endsN fs fs.length ≠ [] := by intro e; have := endsN_len fs fs.length; rw [e] at this; simp at this; omega
      obtain ⟨he1, he2, g2, he3, he4⟩ := hsh hne
      simp only [Value.slice.injEq] at hoe
      obtain ⟨rfl, -, rfl⟩ := hoe
      subst he3
      rw [endsN_len] at he1
      unfold maxLen at he2
      have hends : ∀ q, q < fs.length → wz.cell? ⟨g2, q, none⟩ = some (.int .i64 ((encL (fs.take (q + 1))).length : Nat)) := fun q hq => he4 q _ (endsN_get fs fs.length q hq)
      have hg2lt : g2 < wz.heap.size := (World.ownsRow.lt hoi g2 rfl).2
      have hBE : Byt (encL fs) := encL_byt hoks
      have htkl : ((encL fs).take C).length ≤ 100000000000000 := by simp; omega
      generalize hgl : (encL fs).length = L at *
      have HGL : Hid ((encL fs).length = L) := hgl
      have hst0 := St.start fs C
      have hLp : 0 < L := by omega
      clear he4 hsh hne hoi how hfull hL0 hgl
      go_wp2_with fail
      refine (newReader_lt _ _ _ hp htkl).mono ?_
      rintro r w4 ⟨b, v1, rfl, hr4, B4, hb4, hv4⟩
      go_wp2
      go_loopw [10] (fun i wq => ∃ (k : Nat) (u1 : Value) (ys : List Int) (e1 : Int), k ≤ fs.length ∧ i = .int .i64 k ∧ Rd wq b u1 ys e1 ∧ St fs C k ys e1 ∧ (∀ q, u1.ownBlock = some q → q < wq.heap.size) ∧ Below wz.heap.size wz wq) (fun i _ => fs.length - (intOf i).toNat)
      case atStart => exact ⟨0, v1, _, 0, Nat.zero_le _, rfl, hr4, hst0, hv4, B4⟩
      case round =>
        clear hr4 hst0 hv4 B4 hp htkl
        obtain ⟨k, u1, ys, e1, hk2, rfl, hrd, hst, hu1, Bq⟩ := hrel
        have Bw : Below w.heap.size w wr := Bk.trans (Bq.mono Bk.size)
        by_cases hlt : k < fs.length
        · obtain ⟨hrow, hok, hgb⟩ := hf.row Bw k hlt
          obtain ⟨hc0, hc1, hc2, hr3⟩ := range_cells hrow
          have hce : wr.cell? ⟨g2, k, none⟩ = some (.int .i64 ((encL (fs.take (k + 1))).length : Nat)) := (Bq.cell (p := ⟨g2, k, none⟩) hg2lt).trans (hends k hlt)
          have hgbw : gb < wr.heap.size := Nat.lt_of_lt_of_le hgb Bw.size
          have hgbb : gb ≠ b := by have := Bk.size; omega
          have hbys := hst.byt hBE
          have hbsm : fs[k].bs.length ≤ 3000 := by have := roomF_mem (List.getElem_mem hlt); omega
          clear hrow
          by_cases k1 : fs[k].kind = 1
          · obtain ⟨x, ys2, e2, hst2, hxw, U⟩ := uni1 b u1 hst hlt k1
            have H1 := hid_into U
            rw [k1] at hc0
            have HXW : Hid ((encL (fs.take (k + 1))).length ≤ C → x = fs[k].n % 256) := hxw
            generalize (encL (fs.take (k + 1))).length = p at *
            generalize fs[k].n = fn at *
            have hwr : IntKind.u8.wrap fn = fn % 256 := IntKind.wrap_u8' _
            clear U hxw hst hc2 hr3 hbys hends hBE hoks hok hbsm k1
            by_cases hxe : x = fn % 256
            · subst hxe
              go_wp2_with fail
              first
               | go_region_held (fun w' => w'.cell? ⟨gb, off + k * 35 + 1, none⟩ = some (.int .i64 fn)) (assumption)
                (first
                  | (go_at_call 8; refine (H1.out _ (by exact hrd)).mono ?_; rintro r w12 ⟨rfl, v12, hr12, hs12, hv12⟩; have hc12 : w12.cell? ⟨gb, off + k * 35 + 1, none⟩ = some (.int .i64 fn) := (by rw [World.cell?_of_block (w := wr) (hs12.block gb hgbw hgbb)]; exact hc1)))
               | fail
              have B12 : Below wz.heap.size wz w12 := Bq.drew.trans (hs12.below hb4 (by exact Bq.size))
              have hu12 : ∀ q, v12.ownBlock = some q → q < w12.heap.size := fun q hq => by
                rcases hv12 with h | h
                · exact Nat.lt_of_lt_of_le (hu1 q (by rw [← h]; exact hq)) hs12.size
                · rw [h] at hq; cases hq
              clear hs12 hrd H1
              go_wp2
              go_roundw
              case rel => exact ⟨k + 1, v12, ys2, e2, by omega, by go_num, hr12, hst2, hu12, B12⟩
              case measure => simp [intOf]; omega
            · have hpc : C < p := by
                rcases Nat.lt_or_ge C p with h | h
                · exact h
                · exact absurd (HXW.out h) hxe
              have hxn : (x == fn % 256) = false := by simp [hxe]
              clear HXW hxe
              go_wp2_with fail
              first
               | go_region_held (fun w' => w'.cell? ⟨gb, off + k * 35 + 1, none⟩ = some (.int .i64 fn)) (assumption)
                (first
                  | (go_at_call 8; refine (H1.out _ (by exact hrd)).mono ?_; rintro r w12 ⟨rfl, v12, hr12, hs12, hv12⟩; have hc12 : w12.cell? ⟨gb, off + k * 35 + 1, none⟩ = some (.int .i64 fn) := (by rw [World.cell?_of_block (w := wr) (hs12.block gb hgbw hgbb)]; exact hc1)))
               | fail
              have B12 : Below wz.heap.size wz w12 := Bq.drew.trans (hs12.below hb4 (by exact Bq.size))
              have hu12 : ∀ q, v12.ownBlock = some q → q < w12.heap.size := fun q hq => by
                rcases hv12 with h | h
                · exact Nat.lt_of_lt_of_le (hu1 q (by rw [← h]; exact hq)) hs12.size
                · rw [h] at hq; cases hq
              clear hs12 hrd H1
              go_wp2
              go_roundw
              case rel => exact ⟨k + 1, v12, ys2, e2, by omega, by go_num, hr12, hst2, hu12, B12⟩
              case measure => simp [intOf]; omega
          by_cases k2 : fs[k].kind = 2
          · obtain ⟨x, ys2, e2, hst2, hxw, U⟩ := uni2 b u1 hst hlt k2 hbys
            have H1 := hid_into U
            rw [k2] at hc0
            have HXW : Hid ((encL (fs.take (k + 1))).length ≤ C → x = fs[k].n % 65536) := hxw
            generalize (encL (fs.take (k + 1))).length = p at *
            generalize fs[k].n = fn at *
            have hwr : IntKind.u16.wrap fn = fn % 65536 := IntKind.wrap_u16 _
            clear U hxw hst hc2 hr3 hbys hends hBE hoks hok hbsm k2
            by_cases hxe : x = fn % 65536
            · subst hxe
              go_wp2_with fail
              first
               | go_region_held (fun w' => w'.cell? ⟨gb, off + k * 35 + 1, none⟩ = some (.int .i64 fn)) (assumption)
                (first
                  | (go_at_call 9; refine (H1.out _ (by exact hrd) (by exact hu1)).mono ?_; rintro r w12 ⟨rfl, v12, hr12, hs12, hv12⟩; have hc12 : w12.cell? ⟨gb, off + k * 35 + 1, none⟩ = some (.int .i64 fn) := (by rw [World.cell?_of_block (w := wr) (hs12.block gb hgbw hgbb)]; exact hc1)))
               | fail
              have B12 : Below wz.heap.size wz w12 := Bq.drew.trans (hs12.below hb4 (by exact Bq.size))
              have hu12 : ∀ q, v12.ownBlock = some q → q < w12.heap.size := fun q hq => by
                rcases hv12 with h | h
                · exact Nat.lt_of_lt_of_le (hu1 q (by rw [← h]; exact hq)) hs12.size
                · rw [h] at hq; cases hq
              clear hs12 hrd H1
              go_wp2
              go_roundw
              case rel => exact ⟨k + 1, v12, ys2, e2, by omega, by go_num, hr12, hst2, hu12, B12⟩
              case measure => simp [intOf]; omega
            · have hpc : C < p := by
                rcases Nat.lt_or_ge C p with h | h
                · exact h
                · exact absurd (HXW.out h) hxe
              have hxn : (x == fn % 65536) = false := by simp [hxe]
              clear HXW hxe
              go_wp2_with fail
              first
               | go_region_held (fun w' => w'.cell? ⟨gb, off + k * 35 + 1, none⟩ = some (.int .i64 fn)) (assumption)
                (first
                  | (go_at_call 9; refine (H1.out _ (by exact hrd) (by exact hu1)).mono ?_; rintro r w12 ⟨rfl, v12, hr12, hs12, hv12⟩; have hc12 : w12.cell? ⟨gb, off + k * 35 + 1, none⟩ = some (.int .i64 fn) := (by rw [World.cell?_of_block (w := wr) (hs12.block gb hgbw hgbb)]; exact hc1)))
               | fail
              have B12 : Below wz.heap.size wz w12 := Bq.drew.trans (hs12.below hb4 (by exact Bq.size))
              have hu12 : ∀ q, v12.ownBlock = some q → q < w12.heap.size := fun q hq => by
                rcases hv12 with h | h
                · exact Nat.lt_of_lt_of_le (hu1 q (by rw [← h]; exact hq)) hs12.size
                · rw [h] at hq; cases hq
              clear hs12 hrd H1
              go_wp2
              go_roundw
              case rel => exact ⟨k + 1, v12, ys2, e2, by omega, by go_num, hr12, hst2, hu12, B12⟩
              case measure => simp [intOf]; omega
          by_cases k3 : fs[k].kind = 3
          · obtain ⟨x, ys2, e2, hst2, hxw, U⟩ := uni3 b u1 hst hlt k3 hbys
            have H1 := hid_into U
            rw [k3] at hc0
            have HXW : Hid ((encL (fs.take (k + 1))).length ≤ C → x = fs[k].n % 4294967296) := hxw
            generalize (encL (fs.take (k + 1))).length = p at *
            generalize fs[k].n = fn at *
            have hwr : IntKind.u32.wrap fn = fn % 4294967296 := IntKind.wrap_u32' _
            clear U hxw hst hc2 hr3 hbys hends hBE hoks hok hbsm k3
            by_cases hxe : x = fn % 4294967296
            · subst hxe
              go_wp2_with fail
              first
               | go_region_held (fun w' => w'.cell? ⟨gb, off + k * 35 + 1, none⟩ = some (.int .i64 fn)) (assumption)
                (first
                  | (go_at_call 10; refine (H1.out _ (by exact hrd) (by exact hu1)).mono ?_; rintro r w12 ⟨rfl, v12, hr12, hs12, hv12⟩; have hc12 : w12.cell? ⟨gb, off + k * 35 + 1, none⟩ = some (.int .i64 fn) := (by rw [World.cell?_of_block (w := wr) (hs12.block gb hgbw hgbb)]; exact hc1)))
               | fail
              have B12 : Below wz.heap.size wz w12 := Bq.drew.trans (hs12.below hb4 (by exact Bq.size))
              have hu12 : ∀ q, v12.ownBlock = some q → q < w12.heap.size := fun q hq => by
                rcases hv12 with h | h
                · exact Nat.lt_of_lt_of_le (hu1 q (by rw [← h]; exact hq)) hs12.size
                · rw [h] at hq; cases hq
              clear hs12 hrd H1
              go_wp2
              go_roundw
              case rel => exact ⟨k + 1, v12, ys2, e2, by omega, by go_num, hr12, hst2, hu12, B12⟩
              case measure => simp [intOf]; omega
            · have hpc : C < p := by
                rcases Nat.lt_or_ge C p with h | h
                · exact h
                · exact absurd (HXW.out h) hxe
              have hxn : (x == fn % 4294967296) = false := by simp [hxe]
              clear HXW hxe
              go_wp2_with fail
              first
               | go_region_held (fun w' => w'.cell? ⟨gb, off + k * 35 + 1, none⟩ = some (.int .i64 fn)) (assumption)
                (first
                  | (go_at_call 10; refine (H1.out _ (by exact hrd) (by exact hu1)).mono ?_; rintro r w12 ⟨rfl, v12, hr12, hs12, hv12⟩; have hc12 : w12.cell? ⟨gb, off + k * 35 + 1, none⟩ = some (.int .i64 fn) := (by rw [World.cell?_of_block (w := wr) (hs12.block gb hgbw hgbb)]; exact hc1)))
               | fail
              have B12 : Below wz.heap.size wz w12 := Bq.drew.trans (hs12.below hb4 (by exact Bq.size))
              have hu12 : ∀ q, v12.ownBlock = some q → q < w12.heap.size := fun q hq => by
                rcases hv12 with h | h
                · exact Nat.lt_of_lt_of_le (hu1 q (by rw [← h]; exact hq)) hs12.size
                · rw [h] at hq; cases hq
              clear hs12 hrd H1
              go_wp2
              go_roundw
              case rel => exact ⟨k + 1, v12, ys2, e2, by omega, by go_num, hr12, hst2, hu12, B12⟩
              case measure => simp [intOf]; omega
          by_cases k4 : fs[k].kind = 4
          · obtain ⟨x, ys2, e2, hst2, hxw, U⟩ := uni4 b u1 hst hlt k4 hbys hok.n0 hok.n1
            have H1 := hid_into U
            rw [k4] at hc0
            have HXW : Hid ((encL (fs.take (k + 1))).length ≤ C → x = fs[k].n) := hxw
            generalize (encL (fs.take (k + 1))).length = p at *
            generalize fs[k].n = fn at *
            clear U hxw hst hc2 hr3 hbys hends hBE hoks hok hbsm k4
            by_cases hxe : x = fn
            · have hxf : fn = x := hxe.symm
              subst hxf
              clear hxe
              go_wp2_with fail
              first
               | go_region_held (fun w' => w'.cell? ⟨gb, off + k * 35 + 1, none⟩ = some (.int .i64 fn)) (assumption)
                (first
                  | (go_at_call 11; refine (H1.out _ (by exact hrd)).mono ?_; rintro r w12 ⟨rfl, v12, hr12, hs12, hv12⟩; have hc12 : w12.cell? ⟨gb, off + k * 35 + 1, none⟩ = some (.int .i64 fn) := (by rw [World.cell?_of_block (w := wr) (hs12.block gb hgbw hgbb)]; exact hc1)))
               | fail
              have B12 : Below wz.heap.size wz w12 := Bq.drew.trans (hs12.below hb4 (by exact Bq.size))
              have hu12 : ∀ q, v12.ownBlock = some q → q < w12.heap.size := fun q hq => by
                rcases hv12 with h | h
                · exact Nat.lt_of_lt_of_le (hu1 q (by rw [← h]; exact hq)) hs12.size
                · rw [h] at hq; cases hq
              clear hs12 hrd H1
              go_wp2
              go_roundw
              case rel => exact ⟨k + 1, v12, ys2, e2, by omega, by go_num, hr12, hst2, hu12, B12⟩
              case measure => simp [intOf]; omega
            · have hpc : C < p := by
                rcases Nat.lt_or_ge C p with h | h
                · exact h
                · exact absurd (HXW.out h) hxe
              have hxn : (x == fn) = false := by simp [hxe]
              clear HXW hxe
              go_wp2_with fail
              first
               | go_region_held (fun w' => w'.cell? ⟨gb, off + k * 35 + 1, none⟩ = some (.int .i64 fn)) (assumption)
                (first
                  | (go_at_call 11; refine (H1.out _ (by exact hrd)).mono ?_; rintro r w12 ⟨rfl, v12, hr12, hs12, hv12⟩; have hc12 : w12.cell? ⟨gb, off + k * 35 + 1, none⟩ = some (.int .i64 fn) := (by rw [World.cell?_of_block (w := wr) (hs12.block gb hgbw hgbb)]; exact hc1)))
               | fail
              have B12 : Below wz.heap.size wz w12 := Bq.drew.trans (hs12.below hb4 (by exact Bq.size))
              have hu12 : ∀ q, v12.ownBlock = some q → q < w12.heap.size := fun q hq => by
                rcases hv12 with h | h
                · exact Nat.lt_of_lt_of_le (hu1 q (by rw [← h]; exact hq)) hs12.size
                · rw [h] at hq; cases hq
              clear hs12 hrd H1
              go_wp2
              go_roundw
              case rel => exact ⟨k + 1, v12, ys2, e2, by omega, by go_num, hr12, hst2, hu12, B12⟩
              case measure => simp [intOf]; omega
          by_cases k5 : fs[k].kind = 5
          · obtain ⟨row, ys2, e2, hst2, hxw, U⟩ := uni5 b u1 hst hlt k5 hbys (by omega)
            have H1 := hid_into U
            rw [k5] at hc0
            have HXW : Hid ((encL (fs.take (k + 1))).length ≤ C → row = fs[k].bs) := hxw
            obtain ⟨abv, cbv, hbv, -⟩ := hok.b.len
            have hbq : Bs wr fs[k].bv fs[k].bs := hok.b.below Bw (Nat.le_refl _)
            have hbv2 : fs[k].bs ≠ [] → ∀ q, fs[k].bv.ownBlock = some q → q ≠ b := fun hne q hq => by
              have := hok.b.lt hne q hq
              have := Bk.size
              omega
            rw [hbv] at hc2 hbq hbv2
            generalize (encL (fs.take (k + 1))).length = p at *
            generalize fs[k].bs = fbs at *
            clear U hxw hst hc1 hr3 hbys hends hBE hoks hok hbsm k5 hbv
            by_cases hxe : row = fbs
            · have heq : eqB row fbs = true := eqB_true hxe
              clear hxe
              go_wp2_with fail
              first
               | go_region_held (fun w' => w'.cell? ⟨gb, off + k * 35 + 2, none⟩ = some (.slice abv fbs.length cbv)) (assumption)
                (first
                  | (go_at_call 13; refine (H1.out _ (by exact hrd)).mono ?_; rintro r w12 ⟨ao5, cap5, rfl, ho12, v12, hr12, hs12, hv12⟩; have hc12 : w12.cell? ⟨gb, off + k * 35 + 2, none⟩ = some (.slice abv fbs.length cbv) := (by rw [World.cell?_of_block (w := wr) (hs12.block gb hgbw hgbb)]; exact hc2); have hb12 : Bs w12 (.slice abv fbs.length cbv) fbs := keep_bs hbq (fun hne q hq hql => hs12.block q (by exact hql) (hbv2 hne q hq)))
                  | (go_at_call 12; refine (same_any _ _ row fbs _ (by exact ho12.bs) (by exact hb12)).mono ?_; rintro r w13 ⟨hr13, hsm13⟩; rw [heq] at hr13; subst hr13; have hc13 : w13.cell? ⟨gb, off + k * 35 + 2, none⟩ = some (.slice abv fbs.length cbv) := (by rw [World.cell?_of_block (w := w12) (by rw [hsm13.heap])]; exact hc12)))
               | fail
              have B12 : Below wz.heap.size wz w13 := (Bq.drew.trans (hs12.below hb4 (by exact Bq.size))).trans (hsm13.below _)
              have hu12 : ∀ q, v12.ownBlock = some q → q < w13.heap.size := fun q hq => by
                rcases hv12 with h | h
                · rw [hsm13.heap]; exact Nat.lt_of_lt_of_le (hu1 q (by rw [← h]; exact hq)) hs12.size
                · rw [h] at hq; cases hq
              clear hs12 hrd H1
              go_wp2
              go_roundw
              case rel => exact ⟨k + 1, v12, ys2, e2, by omega, by go_num, hr12.sm hsm13, hst2, hu12, B12⟩
              case measure => simp [intOf]; omega
            · have hpc : C < p := by
                rcases Nat.lt_or_ge C p with h | h
                · exact h
                · exact absurd (HXW.out h) hxe
              have heq : eqB row fbs = false := eqB_false hxe
              clear HXW hxe
              go_wp2_with fail
              first
               | go_region_held (fun w' => w'.cell? ⟨gb, off + k * 35 + 2, none⟩ = some (.slice abv fbs.length cbv)) (assumption)
                (first
                  | (go_at_call 13; refine (H1.out _ (by exact hrd)).mono ?_; rintro r w12 ⟨ao5, cap5, rfl, ho12, v12, hr12, hs12, hv12⟩; have hc12 : w12.cell? ⟨gb, off + k * 35 + 2, none⟩ = some (.slice abv fbs.length cbv) := (by rw [World.cell?_of_block (w := wr) (hs12.block gb hgbw hgbb)]; exact hc2); have hb12 : Bs w12 (.slice abv fbs.length cbv) fbs := keep_bs hbq (fun hne q hq hql => hs12.block q (by exact hql) (hbv2 hne q hq)))
                  | (go_at_call 12; refine (same_any _ _ row fbs _ (by exact ho12.bs) (by exact hb12)).mono ?_; rintro r w13 ⟨hr13, hsm13⟩; rw [heq] at hr13; subst hr13; have hc13 : w13.cell? ⟨gb, off + k * 35 + 2, none⟩ = some (.slice abv fbs.length cbv) := (by rw [World.cell?_of_block (w := w12) (by rw [hsm13.heap])]; exact hc12)))
               | fail
              have B12 : Below wz.heap.size wz w13 := (Bq.drew.trans (hs12.below hb4 (by exact Bq.size))).trans (hsm13.below _)
              have hu12 : ∀ q, v12.ownBlock = some q → q < w13.heap.size := fun q hq => by
                rcases hv12 with h | h
                · rw [hsm13.heap]; exact Nat.lt_of_lt_of_le (hu1 q (by rw [← h]; exact hq)) hs12.size
                · rw [h] at hq; cases hq
              clear hs12 hrd H1
              go_wp2
              go_roundw
              case rel => exact ⟨k + 1, v12, ys2, e2, by omega, by go_num, hr12.sm hsm13, hst2, hu12, B12⟩
              case measure => simp [intOf]; omega
          obtain ⟨row, ys2, e2, hrl, hst2, hxw, U⟩ := uni6 b u1 hst hlt ⟨k1, k2, k3, k4, k5⟩ hok.hl
          have H1 := hid_into U
          have HXW : Hid ((encL (fs.take (k + 1))).length ≤ C → row = fs[k].h) := hxw
          have hhl := hok.hl
          have q1 : (fs[k].kind == 1) = false := by simp [k1]
          have q2 : (fs[k].kind == 2) = false := by simp [k2]
          have q3 : (fs[k].kind == 3) = false := by simp [k3]
          have q4 : (fs[k].kind == 4) = false := by simp [k4]
          have q5 : (fs[k].kind == 5) = false := by simp [k5]
          generalize (encL (fs.take (k + 1))).length = p at *
          generalize fs[k].h = fh at *
          generalize fs[k].kind = fk at *
          clear U hxw hst hc1 hc2 hbys hends hBE hoks hok hbsm k1 k2 k3 k4 k5
          have hu := Tryd.underlying28
          have hi28 : (Tryd.prog.info? 28).map (·.size) = some (cellsOf fh).length := by rw [cellsOf_length, hhl]; exact Tryd.info28
          have hcl28 : (cellsOf fh).length = 32 := by rw [cellsOf_length, hhl]
          have hon28 := cellsOf_one fh
          by_cases hxe : row = fh
          · have heq : ∀ W, (Op.equalIn 10000 28 (.agg (cellsOf row).toArray) (.agg (cellsOf fh).toArray)).run Tryd.prog W = .ok true W := fun W => by rw [run_equal_hash row fh hrl hhl W, eqB_true hxe]
            clear hxe hrl hhl
            go_wp2_with fail
            first
             | go_region_held (fun w' => w'.rangeAt gb (off + k * 35 + 3) (cellsOf fh)) (assumption)
              (first
                | (go_at_call 14; refine (H1.out _ (by exact hrd) (by exact hu1)).mono ?_; rintro r w12 ⟨rfl, v12, hr12, hs12, hv12⟩; have hc12 : w12.rangeAt gb (off + k * 35 + 3) (cellsOf fh) := (by intro j u hu'; rw [World.cell?_of_block (w := wr) (hs12.block gb hgbw hgbb)]; exact hr3 j u hu')))
             | fail
            have B12 : Below wz.heap.size wz w12 := Bq.drew.trans (hs12.below hb4 (by exact Bq.size))
            have hu12 : ∀ q, v12.ownBlock = some q → q < w12.heap.size := fun q hq => by
              rcases hv12 with h | h
              · exact Nat.lt_of_lt_of_le (hu1 q (by rw [← h]; exact hq)) hs12.size
              · rw [h] at hq; cases hq
            clear hs12 hrd H1 hi28 hcl28 hon28
            go_wp2
            go_roundw
            case rel => exact ⟨k + 1, v12, ys2, e2, by omega, by go_num, hr12, hst2, hu12, B12⟩
            case measure => simp [intOf]; omega
          · have hpc : C < p := by
              rcases Nat.lt_or_ge C p with h | h
              · exact h
              · exact absurd (HXW.out h) hxe
            have heq : ∀ W, (Op.equalIn 10000 28 (.agg (cellsOf row).toArray) (.agg (cellsOf fh).toArray)).run Tryd.prog W = .ok false W := fun W => by rw [run_equal_hash row fh hrl hhl W, eqB_false hxe]
            clear HXW hxe hrl hhl
            go_wp2_with fail
            first
             | go_region_held (fun w' => w'.rangeAt gb (off + k * 35 + 3) (cellsOf fh)) (assumption)
              (first
                | (go_at_call 14; refine (H1.out _ (by exact hrd) (by exact hu1)).mono ?_; rintro r w12 ⟨rfl, v12, hr12, hs12, hv12⟩; have hc12 : w12.rangeAt gb (off + k * 35 + 3) (cellsOf fh) := (by intro j u hu'; rw [World.cell?_of_block (w := wr) (hs12.block gb hgbw hgbb)]; exact hr3 j u hu')))
             | fail
            have B12 : Below wz.heap.size wz w12 := Bq.drew.trans (hs12.below hb4 (by exact Bq.size))
            have hu12 : ∀ q, v12.ownBlock = some q → q < w12.heap.size := fun q hq => by
              rcases hv12 with h | h
              · exact Nat.lt_of_lt_of_le (hu1 q (by rw [← h]; exact hq)) hs12.size
              · rw [h] at hq; cases hq
            clear hs12 hrd H1 hi28 hcl28 hon28
            go_wp2
            go_roundw
            case rel => exact ⟨k + 1, v12, ys2, e2, by omega, by go_num, hr12, hst2, hu12, B12⟩
            case measure => simp [intOf]; omega
        · obtain ⟨rfl, rfl⟩ := hst.done (by omega) (by rw [HGL.out]; exact hC1)
          have htw := ht.below Bw htl
          clear hst hends hBE
          go_wp2_with fail
          refine (end_any b u1 _ _ _ hrd).mono ?_
          rintro r we ⟨rfl, rfl⟩
          rw [show endR [] 2 = 2 from rfl]
          go_wp2_with fail
          refine (left_any b u1 _ _ _ hrd).mono ?_
          rintro r we ⟨rfl, rfl⟩
          go_wp2_with fail
          refine (rnum_err b u1 [] 2 _ hrd (by decide)).mono ?_
          rintro r we ⟨rfl, rfl⟩
          go_wp2_with fail
          refine (known_any _ htw).mono ?_
          rintro r we ⟨rfl, Be⟩
          go_wp2
          go_ret
          exact ⟨rfl, Bw.trans (Be.mono Bw.size)⟩
end Go.Proofs.YtamifgaaalclcabDoor
