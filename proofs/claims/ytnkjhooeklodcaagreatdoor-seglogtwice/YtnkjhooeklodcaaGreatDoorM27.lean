/-
  Joined from: PlayPc, PlayW.
-/
import Derived.Test.YtnkjhooeklodcaaGreatDoorM26
import Derived.Maps.RangeWalk
section
/-
  DiskPlays: disk's own Copy, by contract: a range over the map, in whatever order.
-/
namespace Go.Proofs.YtnkjhooeklodcaaGreatDoor
open Go.RowKit Go.Maps Go.Sort
variable {w w' : World} {F : Nat → Prop} {sb : Nat} {mb : Option Nat} {room : Int} {fs : Fls} {lit : Bool} {left : Int}

theorem abs_lk (fs : Fls) (x : Nm) : lkU (abs fs) x = (lk fs x).map fun f => (f.zs, f.l) := by
  induction fs with
  | nil => rfl
  | cons p r ih =>
    have e : abs (p :: r) = (p.1, p.2.zs, p.2.l) :: abs r := rfl
    rw [e, lkU_cons, lk_cons]
    by_cases h : p.1 = x
    · simp [h]
    · simp [h, ih]
theorem abs_dl (fs : Fls) (x : Nm) : abs (dl fs x) = dlU (abs fs) x := by
  induction fs with
  | nil => rfl
  | cons p r ih =>
    have e : abs (p :: r) = (p.1, p.2.zs, p.2.l) :: abs r := rfl
    rw [e, dlU_cons, dl_cons]
    by_cases h : p.1 = x
    · simp [h, ih]
    · simp only [h, if_false, ← ih]
      rfl
theorem abs_ins (x : Nm) (f : Fl) (fs : Fls) : abs (ins x f fs) = insU x (f.zs, f.l) (abs fs) := by
  induction fs with
  | nil => rfl
  | cons p r ih =>
    have e : abs (p :: r) = (p.1, p.2.zs, p.2.l) :: abs r := rfl
    rw [e]
    simp only [ins, insU]
    by_cases h : bytesBefore x p.1 = true
    · simp [h]
      rfl
    · simp only [h, ← ih]
      rfl
theorem abs_pt (fs : Fls) (x : Nm) (f : Fl) : abs (pt fs x f) = ptU (abs fs) x (f.zs, f.l) := by
  unfold pt ptU
  rw [abs_ins, abs_dl]
theorem abs_tot (fs : Fls) : totU (abs fs) = tot fs := by
  unfold totU tot abs
  rw [List.map_map]
  rfl
theorem abs_ris {fs : Fls} (h : fs.Pairwise (fun p q => bytesBefore p.1 q.1 = true)) : RisU (abs fs) := by
  unfold RisU abs
  rw [List.pairwise_map]
  exact h
theorem filter_pt {keep : Nm → Bool} {x : Nm} {g : List Int × Nat} : ∀ {us : Us}, RisU us → lkU us x = some g → keep x = false → ptU (us.filter fun p => keep p.1) x g = us.filter fun p => keep p.1 || p.1 == x
  | [], _, h, _ => by simp [lkU] at h
  | q :: r, hr, h, hk => by
    obtain ⟨h1, h2⟩ := List.pairwise_cons.1 hr
    rw [lkU_cons] at h
    by_cases hq : q.1 = x
    · rw [if_pos hq] at h
      have hqe : q = (x, g) := by
        obtain ⟨a, b⟩ := q
        simp at h hq
        rw [hq, h]
      have hne : ∀ p ∈ r, p.1 ≠ x := fun p hp e => bef_ne (h1 p hp) (hq.trans e.symm)
      have e1 : ((q :: r).filter fun p => keep p.1) = r.filter fun p => keep p.1 := by simp [hq, hk]
      have e2 : ((q :: r).filter fun p => keep p.1 || p.1 == x) = q :: r.filter fun p => keep p.1 := by
        rw [List.filter_cons, if_pos (by simp [hq])]
        congr 1
        refine List.filter_congr fun p hp => ?_
        simp [hne p hp]
      rw [e1, e2]
      unfold ptU
      rw [dlU_none (fun p hp => hne p (List.mem_filter.1 hp).1), insU_front, hqe]
      intro p hp
      rw [← hq]
      exact h1 p (List.mem_filter.1 hp).1
    · rw [if_neg hq] at h
      have ih := filter_pt (keep := keep) h2 h hk
      have hlt : bytesBefore q.1 x = true := by
        have hm : (x, g) ∈ r := by
          simp only [lkU, Option.map_eq_some_iff] at h
          obtain ⟨p, hp, e⟩ := h
          have k1 := List.find?_some hp
          have k2 := List.mem_of_find?_eq_some hp
          simp only [beq_iff_eq] at k1
          obtain ⟨a, b⟩ := p
          simp at k1 e
          rw [← k1, ← e]
          exact k2
        exact h1 _ hm
      by_cases hkq : keep q.1 = true
      · have e1 : ((q :: r).filter fun p => keep p.1) = q :: r.filter fun p => keep p.1 := by rw [List.filter_cons, if_pos hkq]
        have e2 : ((q :: r).filter fun p => keep p.1 || p.1 == x) = q :: r.filter fun p => keep p.1 || p.1 == x := by rw [List.filter_cons, if_pos (by simp [hkq])]
        rw [e1, e2, ← ih]
        unfold ptU
        rw [dlU_cons, if_neg hq, insU, if_neg (by rw [bef_asymm hlt]; simp)]
      · have e1 : ((q :: r).filter fun p => keep p.1) = r.filter fun p => keep p.1 := by rw [List.filter_cons, if_neg (by simpa using hkq)]
        have e2 : ((q :: r).filter fun p => keep p.1 || p.1 == x) = r.filter fun p => keep p.1 || p.1 == x := by rw [List.filter_cons, if_neg (by simp [hq]; simpa using hkq)]
        rw [e1, e2, ih]
theorem totU_filter_le (p : List UInt8 × List Int × Nat → Bool) : ∀ us : Us, totU (us.filter p) ≤ totU us
  | [] => Nat.le_refl _
  | q :: r => by
    have ih := totU_filter_le p r
    rw [List.filter_cons]
    split
    · simp only [totU, List.map_cons, List.sum_cons] at ih ⊢
      omega
    · simp only [totU, List.map_cons, List.sum_cons] at ih ⊢
      omega
structure Cq (w : World) (b : Nat) (room : Int) (fs : Fls) (lf : Lit → Bool) (cnt : Nat) (mbC : Option Nat) (fsC : Fls) (wr : World) : Prop where
  rg : wr.ranges Tryz.prog 9 Rv b (w.heap.size + 1) fs.length (Dm fs) lf cnt
  dk : Dk wr (fun k => w.heap.size ≤ k ∧ k ≠ w.heap.size + 1) w.heap.size mbC room fsC false 0
  ab : abs fsC = (abs fs).filter fun p => !lf (.string p.1)
  bel : Below w.heap.size w wr
theorem cell_grows {G : Nat → Prop} {w w' : World} (hG : Grows G w w') {b i : Nat} {v : Value} (hc : w.cell? ⟨b, i, none⟩ = some v) (hn : ¬ G b) : w'.cell? ⟨b, i, none⟩ = some v := by
  rw [World.cell?_of_block (w := w) (hG.block b (World.block_lt_of_cell? w _ hc) hn)]
  exact hc
theorem put_copy {W w5 : World} {N0 R cb : Nat} {mbC : Option Nat} {fsC : Fls} {room : Int} {x : Nm} {zs : List Int} {l : Nat} {ao5 : Option Addr} {cap5 : Nat} (hsz : W.heap.size = R + 1) (hD : Dk W (fun k => (N0 ≤ k ∧ k ≠ N0 + 1 ∧ k < R) ∨ R + 1 ≤ k) cb mbC room fsC false 0)
    (hB : Below W.heap.size W w5) (ho : Ow w5 W.heap.size (.slice ao5 zs.length cap5) zs) (hx : x.length ≤ maxLen) (hl : l ≤ zs.length) (hb : Byt zs) (hfit : ((zs.length + tot (dl fsC x) : Nat) : Int) ≤ room) (hcnt : (pt fsC x ⟨.slice ao5 zs.length cap5, zs, l⟩).length ≤ 4096) :
    Calls Tryz.prog 59 #[.pointer (some ⟨cb, 0, none⟩), encStr x, .agg #[.slice ao5 zs.length cap5, .int .i64 (l : Int)]] w5 fun e w' => e = .returned (.tuple #[]) ∧ ∃ mb', Dk w' (fun k => ((N0 ≤ k ∧ k ≠ N0 + 1 ∧ k < R) ∨ R + 1 ≤ k) ∨ w5.heap.size ≤ k) cb mb' room (pt fsC x ⟨.slice ao5 zs.length cap5, zs, l⟩) false 0 ∧ Grows (fun k => (N0 ≤ k ∧ k ≠ N0 + 1 ∧ k < R) ∨ R + 1 ≤ k) w5 w' := by
  have hv : ∀ j, (Value.slice ao5 zs.length cap5).ownBlock = some j → R + 1 ≤ j := fun j hj => by
    have := (World.ownsRow.lt ho j hj).1
    omega
  exact put_any (f := ⟨.slice ao5 zs.length cap5, zs, l⟩) (x := x) ((hD.to hB).ex _) hx (ho.mono (Nat.zero_le _)) hl hb (fun j hj => Or.inr (hv j hj))
    (fun q hq _ => by
      cases he : (Value.slice ao5 zs.length cap5).ownBlock with
      | none => exact Or.inl rfl
      | some j =>
        refine Or.inr fun e => ?_
        have k1 := ((hD.rows q hq).1.lt e.symm).1
        have k2 := (World.ownsRow.lt ho j he).1
        omega) hfit hcnt
set_option maxHeartbeats 6400000 in
set_option maxRecDepth 20000 in
theorem Copy_some {b : Nat} (h : Dk w F sb (some b) room fs lit left) :
    Calls Tryz.prog 27 #[.pointer (some ⟨sb, 0, none⟩)] w fun e w' => e = .returned (.pointer (some ⟨w.heap.size, 0, none⟩)) ∧ ∃ mb' fs', Dk w' (fun k => w.heap.size ≤ k) w.heap.size mb' room fs' false 0 ∧ abs fs' = abs fs ∧ Below w.heap.size w w' := by
  obtain ⟨c0, c1, c2, c3, c4⟩ := h.cell
  have hown := (h.map b rfl).2
  have hsbl := h.cells.lt
  have hbl := hown.lt
  have hD0 := Dk_new w room h.room0
  have hB0 : Below w.heap.size w (w.alloc (.cells #[.int .i64 room, .int .i64 0, .map none, .bool false, .int .i64 0] 88)) := (Below.refl _ _).alloc (Nat.le_refl _) _
  have hown1 := ownsMap_keep (w' := w.alloc (.cells #[.int .i64 room, .int .i64 0, .map none, .bool false, .int .i64 0] 88)) hown (Below.heap_alloc _ _ _ hbl)
  have hsz1 : (w.alloc (.cells #[.int .i64 room, .int .i64 0, .map none, .bool false, .int .i64 0] 88)).heap.size = w.heap.size + 1 := by simp
  have HH := hid_into h
  clear h
  go_enter Tryz.func27, Tryz.ntmps27
  go_wp2_with (first
    | (at_range; refine wpList_range_own _ rfl _ 86 rfl 9 106 lawS Tryz.underlying86 Rv b fs.length (Dm fs) rfl hown1 ?_; intro w0 hrg0 hg0 hs0)
    | go_in)
  go_frame
  rw [hsz1] at hrg0 hs0 ⊢
  have hstart : Cq w b room fs (Maps.has (Dm fs)) (Maps.size (Dm fs)) none [] w0 := by
    have hnr : ∀ k, k < w.heap.size + 1 → w0.heap[k]? = (w.alloc (.cells #[.int .i64 room, .int .i64 0, .map none, .bool false, .int .i64 0] 88)).heap[k]? := fun k hk => hg0.block k (by omega) (by simp)
    refine ⟨hrg0, (hD0.keep (w' := w0) fun k hk hl => hnr k (by rw [hsz1] at hl; exact hl)).more fun k hk _ => ?_, ?_, ?_⟩
    · rw [hk]; omega
    · refine (List.filter_eq_nil_iff.2 fun p hp => ?_).symm
      have : (lk fs p.1).isSome = true := by
        rw [← Option.isSome_map (f := fun f : Fl => (f.zs, f.l)), ← abs_lk]
        cases hl : lkU (abs fs) p.1 with
        | some g => rfl
        | none => exact absurd rfl (lkU_none' hl p hp)
      rw [Dm_has, this]
      simp
    · exact hB0.trans ⟨hg0.os, hg0.tape, hg0.output, hg0.size, fun k hk => hnr k (by omega)⟩
  have HS := hid_into hstart
  clear hstart hrg0 hg0 hs0 hD0 hB0 hown1
  go_loopw [4, 5] (fun _ _ wr => ∃ lf cnt mbC fsC, Cq w b room fs lf cnt mbC fsC wr) (fun _ _ wr => wr.rangeLeft b (w.heap.size + 1))
  case atStart => exact ⟨_, _, _, _, HS.out⟩
  case round =>
    clear HS
    obtain ⟨lf, cnt, mbC, fsC, hq⟩ := hrel
    have hrg := hq.rg
    go_wp2_with (first
      | (at_next; refine wpList_next_ranges _ rfl _ rfl 9 lawS Rv encStr (fun v : Value => v) (fun key kl hk => by obtain ⟨x, e, _⟩ := Maps.keyOf_str Tryz.underlying9 hk; exact ⟨x, e⟩) (fun v y hv => ⟨v, rfl⟩) b (w.heap.size + 1) fs.length (Dm fs) lf cnt rfl hrg ?_ ?_)
      | go_in)
    · intro hc0 hl0
      have hfin : abs fsC = abs fs := by
        rw [hq.ab]
        refine List.filter_eq_self.2 fun p hp => ?_
        rw [hl0]
        rfl
      have HD := hid_into (hq.dk.more (G := fun k => w.heap.size ≤ k) fun k hk _ => hk.1)
      have HB := hid_into hq.bel
      clear hq hrg
      go_wp2_with fail
      go_ret
      exact ⟨rfl, mbC, fsC, HD.out, hfin, HB.out⟩
    · intro x c kl y ps w1 cnt1 hkey hlk hy hps hat hrg1 hlt hg1 hs1 hen
      clear hs1
      obtain ⟨x', ex, rfl, hxl⟩ := Maps.keyOf_str Tryz.underlying9 hkey
      have exx : x = x' := by
        have := congrArg (fun v => match v with | Value.string s => s.data.toList | _ => []) ex
        simpa [encStr] using this
      subst exx
      obtain ⟨f, hf, rfl⟩ : ∃ f, lk fs x = some f ∧ f.val = c := by
        have e1 := hat (.map [])
        rw [Dm_at, ← hy] at e1
        cases hl : lk fs x with
        | none => rw [hl] at e1; cases e1
        | some f =>
          rw [hl] at e1
          simp only [DataW.held.injEq] at e1
          exact ⟨f, rfl, e1⟩
      obtain ⟨ao, cap, hfv⟩ := HH.out.form _ (lk_mem hf)
      obtain ⟨r1, r2, r3, _⟩ := HH.out.rows _ (lk_mem hf)
      have hB1 : Below w.heap.size w w1 := hq.bel.trans ⟨hg1.os, hg1.tape, hg1.output, hg1.size, fun k hk => hg1.block k (by have := hq.bel.size; omega) (by simp; omega)⟩
      have hD1 : Dk w1 (fun k => w.heap.size ≤ k ∧ k ≠ w.heap.size + 1) w.heap.size mbC room fsC false 0 := hq.dk.keep fun k hk hl => hg1.block k hl (by simp; exact hk.2)
      have hzl : f.zs.length ≤ 1073741824 := by
        have := tot_at0 HH.out x
        simp only [at0, hf] at this
        exact this
      have hfil : ∀ v, abs (pt fsC x ⟨v, f.zs, f.l⟩) = (abs fs).filter fun p => !(lf (.string p.1) && !(Lit.string p.1).sameKey (.string x)) := fun v => by
        rw [abs_pt, hq.ab]
        have e1 := filter_pt (keep := fun n => !lf (.string n)) (x := x) (g := (f.zs, f.l)) (abs_ris HH.out.rising) (by rw [abs_lk, hf]; rfl) (by simp [hlk])
        rw [e1]
        refine List.filter_congr fun p _ => ?_
        have e2 : (Lit.string p.1).sameKey (.string x) = (p.1 == x) := rfl
        rw [e2]
        cases lf (.string p.1) <;> cases p.1 == x <;> rfl
      have hfit : ((f.zs.length + tot (dl fsC x) : Nat) : Int) ≤ room := by
        have e2 := totU_filter_le (fun p => !(lf (.string p.1) && !(Lit.string p.1).sameKey (.string x))) (abs fs)
        rw [abs_tot fs, ← hfil f.v, abs_tot, tot_pt] at e2
        simp only at e2
        have := HH.out.fits
        omega
      have hcnt : ∀ v, (pt fsC x ⟨v, f.zs, f.l⟩).length ≤ 4096 := fun v => by
        rw [← abs_length, hfil]
        have := List.length_filter_le (fun p => !(lf (.string p.1) && !(Lit.string p.1).sameKey (.string x))) (abs fs)
        rw [abs_length fs] at this
        have := HH.out.cnt
        omega
      have hbs1 : Bs w1 (.slice ao f.zs.length cap) f.zs := by
        have e1 := r1.bs
        rw [hfv] at e1
        exact e1.below hB1 (Nat.le_refl _)
      have hAR : Below w1.heap.size w1 (w1.alloc (.cells #[.slice ao f.zs.length cap, .int .i64 (f.l : Int)] 106)) := (Below.refl _ _).alloc (Nat.le_refl _) _
      have hbs2 := hbs1.below hAR (Nat.le_refl _)
      have hwR : Cw (w1.alloc (.cells #[.slice ao f.zs.length cap, .int .i64 (f.l : Int)] 106)) w1.heap.size [.slice ao f.zs.length cap, .int .i64 (f.l : Int)] 106 := Cw.new w1 _ _
      have hszW : (w1.alloc (.cells #[.slice ao f.zs.length cap, .int .i64 (f.l : Int)] 106)).heap.size = w1.heap.size + 1 := by simp
      have hD2 : Dk (w1.alloc (.cells #[.slice ao f.zs.length cap, .int .i64 (f.l : Int)] 106)) (fun k => (w.heap.size ≤ k ∧ k ≠ w.heap.size + 1 ∧ k < w1.heap.size) ∨ w1.heap.size + 1 ≤ k) w.heap.size mbC room fsC false 0 := (hD1.more fun k hk hl => Or.inl ⟨hk.1, hk.2, hl⟩).to hAR
      have hrgW := hrg1.alloc (.cells #[.slice ao f.zs.length cap, .int .i64 (f.l : Int)] 106)
      have hBW : Below w.heap.size w (w1.alloc (.cells #[.slice ao f.zs.length cap, .int .i64 (f.l : Int)] 106)) := hB1.trans (hAR.mono hB1.size)
      have hval : f.val = .agg #[.slice ao f.zs.length cap, .int .i64 (f.l : Int)] := by simp only [Fl.val]; rw [hfv]
      rw [hval] at hen ⊢
      have HFIL := hid_into hfil
      have HCNT := hid_into hcnt
      have HFIT := hid_into hfit
      have HD2 := hid_into hD2
      have hr2 := hrg1.lt
      have HLT : Hid (cnt1 < cnt) := hlt
      have HRG := hid_into hq.rg
      have HRW := hid_into hrgW
      have hw1 := hB1.size
      have hbw : b < w.heap.size := hbl
      clear hfil hcnt hfit hD2 hD1 hq hrg r1 hrgW hval hfv hy hat hAR hg1 hrg1 hbs1
      go_wp2_with fail
      generalize hWd : w1.alloc (.cells #[.slice ao f.zs.length cap, .int .i64 (f.l : Int)] 106) = W at *
      generalize hRd : w1.heap.size = R at *
      have hcR0 : W.cell? ⟨R, 0, none⟩ = some (.slice ao f.zs.length cap) := hwR.cell 0
      have hcR1 : W.cell? ⟨R, 1, none⟩ = some (.int .i64 (f.l : Int)) := hwR.cell 1
      have HSZ := hid_into hszW
      have HR2 : Hid (w.heap.size + 1 < R) := hr2
      clear hszW hWd hRd hwR hr2
      go_region_held3 (fun u => u.cell? ⟨R, 0, none⟩ = some (.slice ao f.zs.length cap) ∧ u.cell? ⟨R, 1, none⟩ = some (.int .i64 (f.l : Int))) (first | exact ⟨hcR0, hcR1⟩ | assumption)
        (first
          | (go_at_call 50; refine (clone_any (.slice ao f.zs.length cap) f.zs _ (by exact hbs2) (by omega)).mono ?_; rintro e w5 ⟨ao5, cap5, rfl, ho5, hB5⟩; replace hB5 : Below W.heap.size W w5 := ⟨hB5.os, hB5.tape, hB5.output, hB5.size, hB5.block⟩; replace ho5 : Ow w5 W.heap.size (.slice ao5 f.zs.length cap5) f.zs := ho5; have ht5 := And.intro (cell_below hB5 hcR0 (by have := HSZ.out; omega)) (cell_below hB5 hcR1 (by have := HSZ.out; omega)))
          | (go_at_call 59; refine (put_copy HSZ.out HD2.out hB5 ho5 hxl r2 r3 HFIT.out (HCNT.out _)).mono ?_; rintro e w6 ⟨rfl, mb6, hD6, hG6⟩; have ht6 := And.intro (cell_grows hG6 ht5.1 (by have := HR2.out; omega)) (cell_grows hG6 ht5.2 (by have := HR2.out; omega))))
      have hB6 : Below w.heap.size w w6 := by
        have k1 : Below w.heap.size w w5 := hBW.trans (hB5.mono hBW.size)
        exact k1.trans (hG6.below k1.size (fun k hk => by rcases hk with hk | hk; exact hk.1; have := HR2.out; omega))
      have hrg6 : w6.ranges Tryz.prog 9 Rv b (w.heap.size + 1) fs.length (Dm fs) (fun z => lf z && !z.sameKey (.string x)) cnt1 := by
        have e1 : ∀ k, k < R + 1 → ¬ ((w.heap.size ≤ k ∧ k ≠ w.heap.size + 1 ∧ k < R) ∨ R + 1 ≤ k) → w6.heap[k]? = W.heap[k]? := fun k hk hn => (hG6.block k (by have := hB5.size; have := HSZ.out; omega) hn).trans (hB5.block k (by have := HSZ.out; omega))
        obtain ⟨es, clock, since, seen, cc, q1, q2, q3, q4, q5, q6⟩ := HRW.out
        exact ⟨es, clock, since, seen, cc, (e1 b (by omega) (by omega)).trans q1, q2, q3, q4, (e1 (w.heap.size + 1) (by have := HR2.out; omega) (by have := HR2.out; omega)).trans q5, q6⟩
      have HN : Hid (Cq w b room fs (fun z => lf z && !z.sameKey (.string x)) cnt1 mb6 (pt fsC x ⟨.slice ao5 f.zs.length cap5, f.zs, f.l⟩) w6) :=
        ⟨hrg6, hD6.more fun k hk _ => by
          have h1 := HSZ.out
          have h2 := hB5.size
          have h3 := HR2.out
          rcases hk with (hk | hk) | hk
          · exact ⟨hk.1, hk.2.1⟩
          · omega
          · omega, HFIL.out _, hB6⟩
      clear hrg6 hB6 hD6 hG6 ht6 ht5 hB5 ho5 hcR0 hcR1 hbs2
      go_wp2_with fail
      go_roundw
      case rel => exact ⟨_, _, _, _, HN.out⟩
      case measure => rw [HN.out.rg.left_eq, HRG.out.left_eq]; exact HLT.out
set_option maxHeartbeats 1600000 in
theorem Copy_none (h : Dk w F sb none room fs lit left) :
    Calls Tryz.prog 27 #[.pointer (some ⟨sb, 0, none⟩)] w fun e w' => e = .returned (.pointer (some ⟨w.heap.size, 0, none⟩)) ∧ ∃ mb' fs', Dk w' (fun k => w.heap.size ≤ k) w.heap.size mb' room fs' false 0 ∧ abs fs' = abs fs ∧ Below w.heap.size w w' := by
  obtain ⟨c0, c1, c2, c3, c4⟩ := h.cell
  have hsbl := h.cells.lt
  have e0 := h.nn rfl
  have hD0 := Dk_new w room h.room0
  have hB0 : Below w.heap.size w (w.alloc (.cells #[.int .i64 room, .int .i64 0, .map none, .bool false, .int .i64 0] 88)) := (Below.refl _ _).alloc (Nat.le_refl _) _
  have hrg := run_range_nilMap (P := Tryz.prog) (w.alloc (.cells #[.int .i64 room, .int .i64 0, .map none, .bool false, .int .i64 0] 88)) 86 9 106 Tryz.underlying86
  have hnx : ∀ ty, (Instr.next (.pointer (some ⟨(w.alloc (.cells #[.int .i64 room, .int .i64 0, .map none, .bool false, .int .i64 0] 88)).heap.size, 0, none⟩)) false ty).run Tryz.prog ((w.alloc (.cells #[.int .i64 room, .int .i64 0, .map none, .bool false, .int .i64 0] 88)).alloc (.mapIter none 0 #[] 0)) = _ := fun ty => run_next_nilMap _ ty 0 0 #[]
  have e1 : (w.alloc (.cells #[.int .i64 room, .int .i64 0, .map none, .bool false, .int .i64 0] 88)).heap.size = w.heap.size + 1 := by simp
  have hR : Hid (∃ mb' fs', Dk ((w.alloc (.cells #[.int .i64 room, .int .i64 0, .map none, .bool false, .int .i64 0] 88)).alloc (.mapIter none 0 #[] 0)) (fun k => w.heap.size ≤ k) w.heap.size mb' room fs' false 0 ∧ abs fs' = abs fs ∧ Below w.heap.size w ((w.alloc (.cells #[.int .i64 room, .int .i64 0, .map none, .bool false, .int .i64 0] 88)).alloc (.mapIter none 0 #[] 0))) := by
    refine ⟨none, [], ?_, by rw [e0], hB0.alloc (by simp) _⟩
    exact (hD0.more fun k hk _ => by rw [hk]; exact Nat.le_refl _).to ((Below.refl _ _).alloc (Nat.le_refl _) _)
  rw [e1] at hrg hnx
  clear h hD0 hB0
  go_enter Tryz.func27, Tryz.ntmps27
  go_wp2_with fail
  go_loopw [4, 5] (fun _ _ wr => wr = (w.alloc (.cells #[.int .i64 room, .int .i64 0, .map none, .bool false, .int .i64 0] 88)).alloc (.mapIter none 0 #[] 0)) (fun _ _ _ => 0)
  case atStart => rfl
  case round =>
    subst hrel
    go_wp2_with fail
    go_ret
    exact ⟨rfl, hR.out⟩
theorem Copy_any (h : Dk w F sb mb room fs lit left) :
    Calls Tryz.prog 27 #[.pointer (some ⟨sb, 0, none⟩)] w fun e w' => e = .returned (.pointer (some ⟨w.heap.size, 0, none⟩)) ∧ ∃ mb' fs', Dk w' (fun k => w.heap.size ≤ k) w.heap.size mb' room fs' false 0 ∧ abs fs' = abs fs ∧ Below w.heap.size w w' := by
  cases mb with
  | none => exact Copy_none h
  | some b => exact Copy_some h
end Go.Proofs.YtnkjhooeklodcaaGreatDoor
end

section
/-
  DiskPlays: both disks held against one plain list: the program's (Pd). What each call answers and leaves, in plain words.
-/
namespace Go.Proofs.YtnkjhooeklodcaaGreatDoor
open Go.RowKit Go.Maps Go.Sort
variable {w w' : World} {F : Nat → Prop} {sb : Nat} {u : Ud}

structure Gd (u : Ud) : Prop where
  ris : RisU u.us
  room : 0 ≤ u.room ∧ u.room ≤ 1073741824
  fits : (totU u.us : Int) ≤ u.room
  left : -1 ≤ u.left ∧ u.left < 9223372036854775808
  cnt : u.us.length ≤ 4096
  each : ∀ p ∈ u.us, p.2.2 ≤ p.2.1.length ∧ (∀ z ∈ p.2.1, 0 ≤ z ∧ z < 256) ∧ p.1.length ≤ maxLen
def Pd (w : World) (F : Nat → Prop) (sb : Nat) (u : Ud) : Prop := ∃ mb fs lit lf, Dk w F sb mb u.room fs lit lf ∧ abs fs = u.us ∧ u.left = if lit then lf else -1
theorem Pd.good (h : Pd w F sb u) : Gd u := by
  obtain ⟨mb, fs, lit, lf, hd, ha, hl⟩ := h
  refine ⟨by rw [← ha]; exact abs_ris hd.rising, hd.room0, by rw [← ha, abs_tot]; exact hd.fits, ?_, by rw [← ha, abs_length]; exact hd.cnt, fun p hp => ?_⟩
  · have := hd.left0
    rw [hl]
    split <;> omega
  · rw [← ha] at hp
    simp only [abs, List.mem_map] at hp
    obtain ⟨q, hq, rfl⟩ := hp
    obtain ⟨_, r2, r3, _⟩ := hd.rows q hq
    exact ⟨r2, r3, hd.name_le hq⟩
theorem Pd.keep (h : Pd w F sb u) (hk : ∀ k, F k → k < w.heap.size → w'.heap[k]? = w.heap[k]?) : Pd w' F sb u := by
  obtain ⟨mb, fs, lit, lf, hd, ha, hl⟩ := h
  exact ⟨mb, fs, lit, lf, hd.keep hk, ha, hl⟩
theorem Pd.to (h : Pd w F sb u) (hb : Below w.heap.size w w') : Pd w' F sb u := h.keep fun k _ hk => hb.block k hk
theorem Pd.more {G : Nat → Prop} (h : Pd w F sb u) (hg : ∀ k, F k → k < w.heap.size → G k) : Pd w G sb u := by
  obtain ⟨mb, fs, lit, lf, hd, ha, hl⟩ := h
  exact ⟨mb, fs, lit, lf, hd.more hg, ha, hl⟩
def PRes (F : Nat → Prop) (sb : Nat) (u' : Ud) (w w' : World) : Prop := Pd w' (Pl F w.heap.size) sb u' ∧ Grows F w w'
theorem noneB_bad (x : Nm) : noneB x = badN x := by
  unfold noneB badN
  have e1 : decide ((x.length : Int) < 1) = decide (x.length < 1) := by
    by_cases h : x.length < 1
    · rw [decide_eq_true h, decide_eq_true (by omega)]
    · rw [decide_eq_false h, decide_eq_false (by omega)]
  have e2 : decide ((64 : Int) < (x.length : Int)) = decide (64 < x.length) := by
    by_cases h : 64 < x.length
    · rw [decide_eq_true h, decide_eq_true (by omega)]
    · rw [decide_eq_false h, decide_eq_false (by omega)]
  rw [e1, e2]
theorem five_conv {mb : Option Nat} {fs : Fls} {lit : Bool} {lf : Int} {P : Int → Fls → Prop} {e : Ending} (f : Us → Int × Us) (ns : List Nm) (nn : Bool) (hnn : nn = ns.any badN) (hP : ∀ ev fs', P ev fs' → ev = (f (abs fs)).1 ∧ abs fs' = (f (abs fs)).2)
    (hd : Dk w F sb mb u.room fs lit lf) (ha : abs fs = u.us) (hl : u.left = if lit then lf else -1) (hG : GRes (fiveP lit lf nn fs P) F sb u.room lit lf w e w') : e = .returned (.int .i64 (u.five ns f).1) ∧ PRes F sb (u.five ns f).2 w w' := by
  obtain ⟨ev, fs', hp, he, mb', hd', hg⟩ := hG
  have h0 := hd.left0
  have hb : burntB lit lf = decide (u.left = 0) := by
    unfold burntB
    rw [hl]
    cases lit with
    | true => by_cases h : lf = 0 <;> simp [h]
    | false => simp
  unfold fiveP at hp
  unfold Ud.five mayE
  by_cases hz : u.left = 0
  · rw [hb, decide_eq_true hz, if_pos rfl] at hp
    obtain ⟨rfl, hfs⟩ := hp
    simp only [hz, if_true]
    have e1 : burnL 9 lit lf = lf := by simp [burnL]
    rw [e1, hfs] at hd'
    exact ⟨by simpa using he, ⟨mb', fs, lit, lf, hd', ha, hl⟩, hg⟩
  · rw [hb, decide_eq_false hz, if_neg (by simp)] at hp
    simp only [hz, if_false]
    cases nn with
    | true =>
      rw [if_pos rfl] at hp
      obtain ⟨rfl, hfs⟩ := hp
      simp only [← hnn, if_true]
      have e1 : burnL 1 lit lf = lf := by simp [burnL]
      rw [e1, hfs] at hd'
      exact ⟨by simpa using he, ⟨mb', fs, lit, lf, hd', ha, hl⟩, hg⟩
    | false =>
      rw [if_neg (by simp)] at hp
      obtain ⟨h1, h2⟩ := hP ev fs' hp
      rw [ha] at h1 h2
      simp only [← hnn, Bool.false_eq_true, if_false, ne_eq, not_true_eq_false]
      refine ⟨by rw [he, h1], ⟨mb', fs', lit, burnL ev lit lf, hd', h2, ?_⟩, hg⟩
      show (if (f u.us).1 = 0 then didL u.left else u.left) = _
      rw [← h1, hl]
      unfold burnL didL
      by_cases hev : ev = 0
      · cases lit with
        | true =>
          have : lf ≠ 0 := fun e => hz (by rw [hl]; simpa using e)
          simp only [hev, if_true, and_true]
          rw [if_pos (by omega)]
        | false => simp [hev]
      · cases lit <;> simp [hev]
theorem syncP_u {fs : Fls} {x : Nm} : ∀ ev fs', syncP fs x ev fs' → ev = (syU x (abs fs)).1 ∧ abs fs' = (syU x (abs fs)).2 := by
  rintro ev fs' ⟨rfl, rfl⟩
  unfold syU syncF none7
  rw [abs_lk]
  cases hl : lk fs x with
  | none => exact ⟨rfl, rfl⟩
  | some f => exact ⟨rfl, by simp [abs_pt]⟩
theorem removeP_u {fs : Fls} {x : Nm} : ∀ ev fs', removeP fs x ev fs' → ev = (rmU x (abs fs)).1 ∧ abs fs' = (rmU x (abs fs)).2 := by
  rintro ev fs' ⟨rfl, rfl⟩
  unfold rmU none7
  rw [abs_lk]
  cases hl : lk fs x with
  | none => exact ⟨rfl, by rw [dl_of_none (lk_none hl)]; rfl⟩
  | some f => exact ⟨rfl, by simp [abs_dl]⟩
theorem renameP_u {fs : Fls} {x y : Nm} : ∀ ev fs', renameP fs x y ev fs' → ev = (rnU x y (abs fs)).1 ∧ abs fs' = (rnU x y (abs fs)).2 := by
  rintro ev fs' ⟨rfl, rfl⟩
  unfold rnU renF none7
  rw [abs_lk]
  cases hl : lk fs x with
  | none => exact ⟨rfl, rfl⟩
  | some f => exact ⟨rfl, by simp [abs_pt, abs_dl]⟩
theorem cutP_u {fs : Fls} {x : Nm} {m : Int} : ∀ ev fs', cutP fs x m ev fs' → ev = (cuU x m (abs fs)).1 ∧ abs fs' = (cuU x m (abs fs)).2 := by
  rintro ev fs' ⟨rfl, rfl⟩
  unfold cuU cutE cutF
  rw [abs_lk]
  cases hl : lk fs x with
  | none => exact ⟨rfl, rfl⟩
  | some f =>
    simp only [Option.map_some]
    by_cases hc : m < 0 ∨ (f.zs.length : Int) < m
    · simp only [if_pos hc]
      exact ⟨trivial, trivial⟩
    · simp only [if_neg hc]
      exact ⟨trivial, by rw [abs_pt]; rfl⟩
theorem at0_u (fs : Fls) (x : Nm) : ((at0 fs x).zs, (at0 fs x).l) = at0U (abs fs) x := by
  unfold at0 at0U
  rw [abs_lk]
  cases lk fs x <;> rfl
theorem wfull_u (fs : Fls) (x : Nm) (m : Nat) (room : Int) : wfull fs x m room = fullU (abs fs) x m room := by
  unfold wfull fullU
  rw [abs_tot, abs_lk, abs_length, Option.isSome_map]
theorem writeP_u {fs : Fls} {x : Nm} {ps : List Int} {room : Int} : ∀ ev fs', writeP fs x ps room ev fs' → ev = (wrU x ps room (abs fs)).1 ∧ abs fs' = (wrU x ps room (abs fs)).2 := by
  rintro ev fs' ⟨rfl, v, rfl⟩
  unfold wrU wrE wrF
  rw [wfull_u]
  cases fullU (abs fs) x ps.length room with
  | true => exact ⟨rfl, rfl⟩
  | false =>
    refine ⟨rfl, ?_⟩
    have := at0_u fs x
    simp only [Bool.false_eq_true, if_false, abs_pt]
    rw [← this]
theorem pSync (h : Pd w F sb u) (x : Nm) (hx : x.length ≤ maxLen) : Calls Tryz.prog 56 #[.pointer (some ⟨sb, 0, none⟩), encStr x] w fun e w' => e = .returned (.int .i64 (u.five [x] (syU x)).1) ∧ PRes F sb (u.five [x] (syU x)).2 w w' := by
  obtain ⟨mb, fs, lit, lf, hd, ha, hl⟩ := h
  exact (Sync_any hd x hx).mono fun e w' hG => five_conv (syU x) [x] (noneB x) (by simp [noneB_bad]) syncP_u hd ha hl hG
theorem pRemove (h : Pd w F sb u) (x : Nm) (hx : x.length ≤ maxLen) : Calls Tryz.prog 113 #[.pointer (some ⟨sb, 0, none⟩), encStr x] w fun e w' => e = .returned (.int .i64 (u.five [x] (rmU x)).1) ∧ PRes F sb (u.five [x] (rmU x)).2 w w' := by
  obtain ⟨mb, fs, lit, lf, hd, ha, hl⟩ := h
  exact (Remove_any hd x hx).mono fun e w' hG => five_conv (rmU x) [x] (noneB x) (by simp [noneB_bad]) removeP_u hd ha hl hG
theorem pCut (h : Pd w F sb u) (x : Nm) (hx : x.length ≤ maxLen) (m : Int) (hm : (Lit.int .i64 m).wf = true) : Calls Tryz.prog 41 #[.pointer (some ⟨sb, 0, none⟩), encStr x, .int .i64 m] w fun e w' => e = .returned (.int .i64 (u.five [x] (cuU x m)).1) ∧ PRes F sb (u.five [x] (cuU x m)).2 w w' := by
  obtain ⟨mb, fs, lit, lf, hd, ha, hl⟩ := h
  exact (Cut_any hd x hx m hm).mono fun e w' hG => five_conv (cuU x m) [x] (noneB x) (by simp [noneB_bad]) cutP_u hd ha hl hG
theorem pWrite (h : Pd w F sb u) (x : Nm) (hx : x.length ≤ maxLen) (ap : Option Addr) (cp : Nat) (ps : List Int) (hps : Bs w (.slice ap ps.length cp) ps) (hby : Byt ps) : Calls Tryz.prog 29 #[.pointer (some ⟨sb, 0, none⟩), encStr x, .slice ap ps.length cp] w fun e w' => e = .returned (.int .i64 (u.five [x] (wrU x ps u.room)).1) ∧ PRes F sb (u.five [x] (wrU x ps u.room)).2 w w' := by
  obtain ⟨mb, fs, lit, lf, hd, ha, hl⟩ := h
  exact (Write_any hd x hx ap cp ps hps hby).mono fun e w' hG => five_conv (wrU x ps u.room) [x] (noneB x) (by simp [noneB_bad]) writeP_u hd ha hl hG
def Ud.fuse (u : Ud) (n : Int) : Ud := ⟨u.room, u.us, max (-1) n⟩
def Ud.crash (u : Ud) (keep t : Int) : Ud := ⟨u.room, u.us.map (crA keep.toNat t), -1⟩
def Ud.copy (u : Ud) : Ud := ⟨u.room, u.us, -1⟩
theorem pFuse (h : Pd w F sb u) (n : Int) (hn : (Lit.int .i64 n).wf = true) : Calls Tryz.prog 14 #[.pointer (some ⟨sb, 0, none⟩), .int .i64 n] w fun e w' => e = .returned (.tuple #[]) ∧ Pd w' F sb (u.fuse n) ∧ Grows F w w' := by
  obtain ⟨mb, fs, lit, lf, hd, ha, hl⟩ := h
  refine (Fuse_any hd n hn).mono ?_
  rintro e w' ⟨he, hd', hg⟩
  refine ⟨he, ⟨mb, fs, _, _, hd', ha, ?_⟩, hg⟩
  show max (-1) n = _
  by_cases h0 : 0 ≤ n
  · rw [decide_eq_true h0, if_pos rfl]; omega
  · rw [decide_eq_false h0, if_neg (by simp)]; omega
theorem pCrash (h : Pd w F sb u) (keep t : Int) (hk : keep < 9223372036854775808) (ht : 0 ≤ t ∧ t < 256) : Calls Tryz.prog 20 #[.pointer (some ⟨sb, 0, none⟩), .int .i64 keep, .int .u8 t] w fun e w' => e = .returned (.tuple #[]) ∧ PRes F sb (u.crash keep t) w w' := by
  obtain ⟨mb, fs, lit, lf, hd, ha, hl⟩ := h
  refine (Crash_any hd keep t hk ht).mono ?_
  rintro e w' ⟨he, fs', ha', mb', hd', hg⟩
  exact ⟨he, ⟨mb', fs', false, 0, hd', by rw [ha', ha]; rfl, rfl⟩, hg⟩
theorem pCopy (h : Pd w F sb u) : Calls Tryz.prog 27 #[.pointer (some ⟨sb, 0, none⟩)] w fun e w' => e = .returned (.pointer (some ⟨w.heap.size, 0, none⟩)) ∧ Pd w' (fun k => w.heap.size ≤ k) w.heap.size u.copy ∧ Below w.heap.size w w' := by
  obtain ⟨mb, fs, lit, lf, hd, ha, hl⟩ := h
  refine (Copy_any hd).mono ?_
  rintro e w' ⟨he, mb', fs', hd', ha', hb⟩
  exact ⟨he, ⟨mb', fs', false, 0, hd', by rw [ha', ha]; rfl, rfl⟩, hb⟩
def rdE (us : Us) (x : Nm) : Int := if (lkU us x).isSome then 0 else 7
theorem pRead (h : Pd w F sb u) (x : Nm) (hx : x.length ≤ maxLen) : Calls Tryz.prog 34 #[.pointer (some ⟨sb, 0, none⟩), encStr x] w fun e w' => ∃ ao cap, e = .returned (.tuple #[.slice ao (at0U u.us x).1.length cap, .int .i64 (rdE u.us x)]) ∧ Ow w' w.heap.size (.slice ao (at0U u.us x).1.length cap) (at0U u.us x).1 ∧ Below w.heap.size w w' := by
  obtain ⟨mb, fs, lit, lf, hd, ha, hl⟩ := h
  have e1 := at0_u fs x
  have e2 : rdE u.us x = none7 fs x := by
    unfold rdE none7
    rw [← ha, abs_lk, Option.isSome_map]
  rw [ha] at e1
  rw [← e1, e2]
  exact Read_any hd x hx
theorem pNames (h : Pd w F sb u) : Calls Tryz.prog 44 #[.pointer (some ⟨sb, 0, none⟩)] w fun e w' => ∃ v, e = .returned v ∧ Ot w' w.heap.size v (u.us.map (·.1)) ∧ Below w.heap.size w w' := by
  obtain ⟨mb, fs, lit, lf, hd, ha, hl⟩ := h
  refine (Names_any hd).mono ?_
  rintro e w' ⟨v, he, hr, hb⟩
  refine ⟨v, he, ?_, hb⟩
  rw [← ha, abs_names]
  unfold Ot
  rw [show (nms fs).length = fs.length by simp [nms]]
  exact hr
theorem pNew (room : Int) (w : World) (h : 0 ≤ room ∧ room ≤ 1073741824) : Calls Tryz.prog 32 #[.int .i64 room] w fun e w' => e = .returned (.tuple #[.pointer (some ⟨w.heap.size, 0, none⟩), .int .i64 0]) ∧ Pd w' (fun k => k = w.heap.size) w.heap.size ⟨room, [], -1⟩ ∧ Below w.heap.size w w' := by
  refine (New_any room w h).mono ?_
  rintro e w' ⟨he, hd, hb⟩
  exact ⟨he, ⟨none, [], false, 0, hd, rfl, rfl⟩, hb⟩
end Go.Proofs.YtnkjhooeklodcaaGreatDoor
end
