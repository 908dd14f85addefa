/-
  The law DiskRoom, walked: true for every room and all rows.
-/
import Derived.Test.YthkgmnmdojmfgaaKeepsWalk
import Derived.Laws.BytesArg
namespace Go.Proofs.Ythkgmnmdojmfgaa
open Go.RowKit Go.Maps
variable {w w' w0 w1 : World} {F : Nat → Prop} {sb : Nat} {mb : Option Nat} {room : Int} {fs : Fls} {lit : Bool} {left : Int}

theorem Ss.diff (h : Ss w0 w sb room fs lit left) : fs.Pairwise (fun p q => p.1 ≠ q.1) := by
  obtain ⟨F, mb, h1, _, _⟩ := h
  exact h1.diff
theorem Ss.used (h : Ss w0 w sb room fs lit left) : Calls Try.prog 26 #[.pointer (some ⟨sb, 0, none⟩)] w fun e w' => e = .returned (.int .i64 (tot fs : Int)) ∧ w' = w := by
  obtain ⟨F, mb, h1, _, _⟩ := h
  exact Used_any h1
/-- A write that leaves what the call has made since. -/
theorem Ss.write_beside (h : Ss w0 w sb room fs lit left) (hb : Below w.heap.size w w1) (x : Nm) (hx : x.length ≤ maxLen) (ap : Option Addr) (cp : Nat) (ps : List Int) (hps : Bs w1 (.slice ap ps.length cp) ps) (hby : Byt ps) :
    Calls Try.prog 15 #[.pointer (some ⟨sb, 0, none⟩), encStr x, .slice ap ps.length cp] w1 fun e w' => SRes (fiveP lit left (noneB x) fs (writeP fs x ps room)) w0 sb room lit left e w' ∧ ∀ v zs, Ow w1 w.heap.size v zs → Ow w' w.heap.size v zs := by
  obtain ⟨F, mb, h1, hF, hB⟩ := h
  have h2 : Dk w1 (fun k => F k ∧ k < w.heap.size) sb mb room fs lit left := (h1.more fun k hk hl => ⟨hk, hl⟩).to hb
  refine (Write_any h2 x hx ap cp ps hps hby).mono ?_
  intro e w' hr
  have hG : Grows (fun k => F k ∧ k < w.heap.size) w1 w' := by
    obtain ⟨_, _, _, _, _, _, hG⟩ := hr
    exact hG
  refine ⟨GRes.ss (fun k hk => hF k hk.1) (hB.trans (hb.mono hB.size)) hr, fun v zs ho => ho.keep fun k hk => hG.block k (ho.lt hk).1 fun hf => ?_⟩
  have := ho.base_le hk
  omega
/-- A write for which there is no room. -/
theorem write_no {x : Nm} {ps : List Int} {ev : Int} {fs' : Fls} (ht : room < (tot fs : Int) + (ps.length : Int)) (h : writeP fs x ps room ev fs') : ev = 6 ∧ fs = fs' := by
  obtain ⟨h1, v, h2⟩ := h
  have h3 : room - (tot fs : Int) < (ps.length : Int) := by omega
  have e : wfull fs x ps.length room = true := by simp [wfull, h3]
  exact ⟨by rw [h1]; simp [wrE, e], by rw [h2]; simp [wrF, e]⟩
theorem lk_pt {x : Nm} {f : Fl} (h : (pt fs x f).Pairwise (fun p q => p.1 ≠ q.1)) : lk (pt fs x f) x = some f := lk_of_mem h (pt_mem.2 (Or.inl rfl))
/-- The name of a round. -/
def nmI (i : Nat) : Nm := [102, UInt8.ofNat (i % 3)]
section
variable {o : Oper} {a : Act} {w : World} {K : Act → World → Prop} {Q : Exit → Act → World → Prop}
theorem wp_app (s x : Operand) (ho : o.op = .call { callee := .builtin .append, args := #[s, x], argTypes := #[32, 32] })
    (base : Nat) (v : Value) (xs : List Int) (hs : a.eval s = v) (hown : Ow w base v xs) (vx : Value) (zs : List Int) (hx : a.eval x = vx) (hb : Bs w vx zs)
    (h63 : xs.length + zs.length ≤ 140737488355328) (hbase : base ≤ w.heap.size)
    (h : ∀ ao cap w', Ow w' base (.slice ao (xs.length + zs.length) cap) (xs ++ zs) → w.grownBy w' v.ownBlock →
      ((Value.slice ao (xs.length + zs.length) cap).ownBlock = v.ownBlock ∨ (Value.slice ao (xs.length + zs.length) cap).ownBlock = some w.heap.size) →
      K (a.put o.dst (.slice ao (xs.length + zs.length) cap)) w') : Oper.wp Try.prog o a w K Q := by
  obtain ⟨ao, cap, w', hr, h2, h3, h4⟩ := run_append_bs w base o.type v xs hown vx zs hb h63 hbase
  unfold Oper.wp execOp
  simp only [ho, resolve, invoke, builtin, Sem.run_bind, Sem.run_pure, Result.andThen_ok, List.map_toArray, List.map_cons, List.map_nil, hs, hx, hr]
  exact h ao cap w' h2 h3 h4
theorem wp_made_nil (ho : o.op = .buildSlice 32 0 #[])
    (h : ∀ W, Hid (Ow W w.heap.size (.slice (some ⟨w.heap.size, 0, none⟩) 0 0) []) → Below w.heap.size w W → K (a.put o.dst (.slice (some ⟨w.heap.size, 0, none⟩) 0 0)) W) : Oper.wp Try.prog o a w K Q := by
  have ho0 : Ow (w.alloc (.cells #[] 5)) w.heap.size (.slice (some ⟨w.heap.size, 0, none⟩) 0 0) [] := Ow_of_block (heap_alloc_new w _) (by simp) (Nat.le_refl _)
  have h1 := h _ ho0 ((Below.refl _ _).alloc (Nat.le_refl _) _)
  obtain ⟨dst, op, ty, ps, af, gd⟩ := o
  subst ho
  go_simp
  exact h1
end
theorem Below.drew_left {w w' : World} (h : Below w.drew.heap.size w.drew w') : Below w.heap.size w w' := ⟨h.os, h.tape, h.output, h.size, h.block⟩
theorem name_run (i : Nat) (w : World) : (convert 32 9 (.slice (some ⟨w.heap.size, 0, none⟩) 2 2)).run Try.prog (w.alloc (.cells #[.int .u8 102, .int .u8 ((i : Int) % 3)] 5)) = .ok (encStr (nmI i)) (w.alloc (.cells #[.int .u8 102, .int .u8 ((i : Int) % 3)] 5)) := by
  have h := run_convert_bytes_arg (P := Try.prog) (w := w.alloc (.cells #[.int .u8 102, .int .u8 ((i : Int) % 3)] 5)) 32 5 Try.underlying32 Try.underlying5 w.heap.size 0 2 2 [102, (i : Int) % 3] rfl
    (fun j hj => by
      rw [show (0 + j) = j by omega]
      rcases (show j = 0 ∨ j = 1 by omega) with rfl | rfl
      · simp
      · simp) 9 Try.underlying9
  rw [h]
  have e : strOfNums [102, (i : Int) % 3] = ⟨(nmI i).toArray⟩ := by
    simp [strOfNums, nmI]
    congr 1
  rw [e]
theorem nmI_ok (i : Nat) : noneB (nmI i) = false := by simp [noneB, nmI]
set_option maxRecDepth 20000 in
set_option maxHeartbeats 6400000 in
theorem room_walk (n : Int) (v : Value) (rs : List Rw) (W : World) (hrs : Rs W v rs) :
    Calls Try.prog 7 #[.int .i64 n, v] W fun e w' => e = .returned (.bool true) ∧ Below W.heap.size W w' := by
  obtain ⟨ao, cap, rfl, hl47, -⟩ := hrs.form
  go_enter Try.func7, Try.ntmps7
  go_wp2_with fail
  go_loopw [5, 6] (fun kv iv wx => ∃ (i k : Nat), i ≤ rs.length ∧ iv = .int .i64 (i : Int) ∧ kv = .int .i64 (k : Int) ∧ Hid (k = i + sl (rs.take i)) ∧ k ≤ 140737488400000 ∧ wx = W) (fun _ iv _ => rs.length - (intOf iv).toNat)
  case atStart => exact ⟨0, 0, Nat.zero_le _, rfl, rfl, by simp [Hid, sl], Nat.zero_le _, rfl⟩
  case round =>
    obtain ⟨i, k, hi, rfl, rfl, HK, hk47, rfl⟩ := hrel
    by_cases hk8 : k ≤ 8000
    · by_cases hlt : i < rs.length
      · obtain ⟨b, off, ap, cp, zs, rfl, hget, hcell, _, _, hz⟩ := hrs.get hlt
        have HS := hid_into (sl_take hget)
        clear hget
        go_wp2_with fail
        go_roundw
        case rel => exact ⟨i + 1, k + 1 + zs.length, by omega, by go_num, by go_num, (by have h1 := HS.out; have h2 := HK.out; simp only at h1; show _ = _; omega), by omega, by trivial⟩
        case measure => simp [intOf]; omega
      · have HI : Hid (i = rs.length) := by show _ = _; omega
        have HSL : Hid (sl rs ≤ 8000 ∧ rs.length ≤ 8000) := by
          have h1 := HK.out
          have h2 := HI.out
          have h3 := sl_all rs
          rw [h2, h3] at h1
          show _ ∧ _
          omega
        have hk8' : ¬ (8000 : Int) < (k : Int) := by omega
        by_cases hbad : n < 0 ∨ 5000 < n ∨ 60 < rs.length
        · have hgo : ∀ w, Calls Try.prog 10 #[] w fun e w' => e = .returned (.bool true) ∧ Below w.heap.size w w' := known_any
          by_cases hn0 : n < 0
          · go_wp2_with fail
            refine (known_any _).mono ?_
            rintro e W1 ⟨rfl, B1⟩
            go_wp2_with fail
            go_ret
            exact ⟨rfl, B1⟩
          · by_cases hn1 : 5000 < n
            · go_wp2_with fail
              refine (known_any _).mono ?_
              rintro e W1 ⟨rfl, B1⟩
              go_wp2_with fail
              go_ret
              exact ⟨rfl, B1⟩
            · have hl60 : (60 : Int) < (rs.length : Int) := by omega
              clear hbad
              go_wp2_with fail
              refine (known_any _).mono ?_
              rintro e W1 ⟨rfl, B1⟩
              go_wp2_with fail
              go_ret
              exact ⟨rfl, B1⟩
        · have hn0 : ¬ n < 0 := fun h => hbad (Or.inl h)
          have hn1 : ¬ 5000 < n := fun h => hbad (Or.inr (Or.inl h))
          have hl60 : ¬ (60 : Int) < (rs.length : Int) := fun h => hbad (Or.inr (Or.inr (by omega)))
          clear hbad HK HI hi hk47
          go_wp2_with fail
          refine (Ss.new wr n (by omega)).mono ?_
          rintro e W1 ⟨rfl, h1⟩
          clear hk8 hlt hk8'
          go_wp2_with fail
          go_loopw [9] (fun iv wx => ∃ (i : Nat) (fs : Fls), i ≤ rs.length ∧ iv = .int .i64 (i : Int) ∧ fs.length ≤ i ∧ Ss wr wx wr.heap.size n fs false 0) (fun iv _ => rs.length - (intOf iv).toNat)
          case atStart => exact ⟨0, [], Nat.zero_le _, rfl, Nat.zero_le _, h1⟩
          case round =>
            clear h1
            rename World => Wx
            obtain ⟨i, fs, hi, rfl, hfl, h2⟩ := hrel
            by_cases hlt : i < rs.length
            · obtain ⟨b, off, ap, cp, zs, rfl, hget, hcell, hbs, hby, hz⟩ := hrs.get hlt
              have hnr := name_run i Wx
              have hxl : (nmI i).length ≤ maxLen := by simp [nmI, maxLen]
              have h3 := h2.below ((Below.refl _ Wx).alloc (Nat.le_refl _) (.cells #[.int .u8 102, .int .u8 ((i : Int) % 3)] 5))
              have HZL : Hid ((at0 fs (nmI i)).zs.length + zs.length ≤ 20000) := by
                have h1 := sl_take hget
                have h2' := sl_take_le rs (i + 1)
                have h3' := h2.fits
                have h4' := ln_le h2.diff (nmI i)
                rw [ln_at0] at h4'
                have := HSL.out
                simp only at h1
                show _ ≤ _
                omega
              obtain ⟨z0, hz0⟩ : ∃ z0, z0 = (at0 fs (nmI i)).zs := ⟨_, rfl⟩
              have HZ0 := hid_into hz0
              have hrd := h3.read (nmI i) hxl
              rw [← hz0] at hrd HZL
              clear hz0 hget
              go_wp2_with fail
              refine hrd.mono ?_
              rintro e W3 ⟨a3, c3, rfl, ho3, B3⟩
              have hu := (h3.below B3).used
              have hb3 := hbs.below (h3.below B3).bel (Nat.le_refl _)
              have hc3 := cell_below (h3.below B3).bel hcell
              have hw := h3.write_beside B3 (nmI i) hxl ap cp zs hb3 hby
              clear hrd hnr
              go_wp2_with fail
              refine hu.mono ?_
              rintro e W4 ⟨rfl, rfl⟩
              clear hu
              go_wp2_with fail
              refine hw.mono ?_
              rintro e W4 ⟨⟨ev, fs4, hP, rfl, h4⟩, hkeep⟩
              replace hP := hid_into (fiveP_go hP rfl (nmI_ok i))
              have ho4 := hkeep _ _ ho3
              have hrd := h4.read (nmI i) hxl
              have hfi := h2.fits
              have HB4 := hid_into h4.bel
              clear hw hkeep ho3 hb3 hc3 h3 B3
              by_cases hfit : (tot fs : Int) + (zs.length : Int) ≤ n
              · obtain ⟨rfl, v4, rfl⟩ := write_ok (by omega) hfit hP.out
                have hat := lk_pt h4.diff
                have hz1 : (at0 (pt fs (nmI i) ⟨v4, (at0 fs (nmI i)).zs ++ zs, (at0 fs (nmI i)).l⟩) (nmI i)).zs = z0 ++ zs := by rw [at0, hat, HZ0.out]
                rw [hz1] at hrd
                have htt : tot (pt fs (nmI i) ⟨v4, (at0 fs (nmI i)).zs ++ zs, (at0 fs (nmI i)).l⟩) = tot fs + zs.length := by
                  have := tot_dl (x := nmI i) h2.diff
                  rw [ln_at0] at this
                  rw [tot_pt]
                  simp
                  omega
                have hfl4 : (pt fs (nmI i) ⟨v4, (at0 fs (nmI i)).zs ++ zs, (at0 fs (nmI i)).l⟩).length ≤ i + 1 := Nat.le_trans (len_pt_le _ _ _) (by omega)
                generalize pt fs (nmI i) ⟨v4, (at0 fs (nmI i)).zs ++ zs, (at0 fs (nmI i)).l⟩ = fs4 at *
                obtain ⟨z1, HZ⟩ : ∃ z1, Hid (z1 = z0 ++ zs) := ⟨_, rfl⟩
                rw [← HZ.out] at hrd
                have htt2 : (tot fs4 : Int) ≤ n := by omega
                clear hat hz1 hP
                go_wp2_with fail
                refine hrd.mono ?_
                rintro e W5 ⟨a5, c5, rfl, ho5, B5⟩
                have h5 := h4.below B5
                have hbB := ho5.bs
                have hbW := ho4.bs.below B5 (Nat.le_refl _)
                have hbR := hbs.below h5.bel (Nat.le_refl _)
                have hc5 := cell_below h5.bel hcell
                clear hrd ho5 ho4 B5 h4 h2
                go_upto_region 20 with fail
                go_cut [145] (fun bv wx => bv = .bool false ∧ Below W5.heap.size W5 wx)
                case first =>
                    refine wp_region_held (S := fun w' => w'.cell? ⟨b, off + i, none⟩ = some (.slice ap zs.length cp)) (by kernel_rfl) ?_
                    change wpAnyH _ _ _ _ _ _ _ _ (World.drew _)
                    have hS5 : W5.drew.cell? ⟨b, off + i, none⟩ = some (.slice ap zs.length cp) := hc5
                    have h6 := h5.below (Below.refl _ W5).drew
                    refine wpAnyH_take (i := 0) (v := .int .i64 0) rfl (by kernel_rfl) (by kernel_rfl) (by kernel_rfl) (fun _ _ _ h => h) (Or.inl ⟨by kernel_rfl, by intro w _; go_simp⟩) hS5 ?_
                    refine wpAnyH_take (i := 1) (v := .bool true) rfl (by kernel_rfl) (by kernel_rfl) (by kernel_rfl) (fun _ _ _ h => h) (Or.inl ⟨by kernel_rfl, by intro w _; go_simp⟩) hS5 ?_
                    refine wpAnyH_take (i := 2) (v := .bool true) rfl (by kernel_rfl) (by kernel_rfl) (by kernel_rfl) (fun _ _ _ h => h) (Or.inl ⟨by kernel_rfl, by intro w _; go_simp⟩) hS5 ?_
                    refine wpAnyH_take (i := 3) (v := .bool false) rfl (by kernel_rfl) (by kernel_rfl) (by kernel_rfl) (fun _ _ _ h => h) (Or.inl ⟨by kernel_rfl, by intro w _; go_simp⟩) hS5 ?_
                    refine wpAnyH_take (i := 4) (v := .bool false) rfl (by kernel_rfl) (by kernel_rfl) (by kernel_rfl) (fun _ _ _ h => h) (Or.inl ⟨by kernel_rfl, by intro w _; go_simp⟩) hS5 ?_
                    refine wpAnyH_take (i := 5) (v := .pointer (some ⟨wr.heap.size, 0, none⟩)) rfl (by kernel_rfl) (by kernel_rfl) (by kernel_rfl) (fun _ _ _ h => h) (Or.inl ⟨by kernel_rfl, by intro w _; go_simp⟩) hS5 ?_
                    refine wpAnyH_take (i := 7) (v := .int .i64 n) rfl (by kernel_rfl) (by kernel_rfl) (by kernel_rfl) (fun _ _ _ h => h) (Or.inl ⟨by kernel_rfl, by intro w _; go_simp⟩) hS5 ?_
                    refine wpAnyH_ready (rs := [6]) (by kernel_rfl) (by simp) ?_
                    refine AllReadyH.cons rfl (fun KK hK => ?_) AllReadyH.nil
                    go_simp
                    refine (h6.used).mono ?_
                    rintro e w' ⟨rfl, rfl⟩
                    dsimp only
                    refine hK.out _ _ (by exact hS5) (fun _ => ?_)
                    clear hK KK
                    refine wpAnyH_take (i := 8) (v := .bool false) rfl (by kernel_rfl) (by kernel_rfl) (by kernel_rfl) (fun _ _ _ h => h) (Or.inl ⟨by kernel_rfl, by intro w _; go_simp⟩) hS5 ?_
                    refine wpAnyH_take (i := 9) (v := .bool false) rfl (by kernel_rfl) (by kernel_rfl) (by kernel_rfl) (fun _ _ _ h => h) (Or.inl ⟨by kernel_rfl, by intro w _; go_simp⟩) hS5 ?_
                    refine wpAnyH_take (i := 10) (v := .bool false) rfl (by kernel_rfl) (by kernel_rfl) (by kernel_rfl) (fun _ _ _ h => h) (Or.inl ⟨by kernel_rfl, by intro w _; go_simp⟩) hS5 ?_
                    refine wpAnyH_take (i := 11) (v := .bool true) rfl (by kernel_rfl) (by kernel_rfl) (by kernel_rfl) (fun _ _ _ h => h) (Or.inl ⟨by kernel_rfl, by intro w _; go_simp⟩) hS5 ?_
                    refine wpAnyH_take (i := 12) (v := .bool false) rfl (by kernel_rfl) (by kernel_rfl) (by kernel_rfl) (fun _ _ _ h => h) (Or.inl ⟨by kernel_rfl, by intro w _; go_simp⟩) hS5 ?_
                    refine wpAnyH_take (i := 13) (v := .bool false) rfl (by kernel_rfl) (by kernel_rfl) (by kernel_rfl) (fun _ _ _ h => h) (Or.inl ⟨by kernel_rfl, by intro w _; go_simp⟩) hS5 ?_
                    refine wpAnyH_take (i := 14) (v := undef) rfl (by kernel_rfl) (by kernel_rfl) (by kernel_rfl) (fun _ _ _ h => h) (Or.inr ⟨by kernel_rfl, rfl⟩) hS5 ?_
                    refine wpAnyH_take (i := 15) (v := undef) rfl (by kernel_rfl) (by kernel_rfl) (by kernel_rfl) (fun _ _ _ h => h) (Or.inr ⟨by kernel_rfl, rfl⟩) hS5 ?_
                    refine wpAnyH_take (i := 16) (v := undef) rfl (by kernel_rfl) (by kernel_rfl) (by kernel_rfl) (fun _ _ _ h => h) (Or.inr ⟨by kernel_rfl, rfl⟩) hS5 ?_
                    refine wpAnyH_take (i := 17) (v := undef) rfl (by kernel_rfl) (by kernel_rfl) (by kernel_rfl) (fun _ _ _ h => h) (Or.inr ⟨by kernel_rfl, rfl⟩) hS5 ?_
                    refine wpAnyH_take (i := 18) (v := undef) rfl (by kernel_rfl) (by kernel_rfl) (by kernel_rfl) (fun _ _ _ h => h) (Or.inr ⟨by kernel_rfl, rfl⟩) hS5 ?_
                    refine wpAnyH_take (i := 19) (v := undef) rfl (by kernel_rfl) (by kernel_rfl) (by kernel_rfl) (fun _ _ _ h => h) (Or.inr ⟨by kernel_rfl, rfl⟩) hS5 ?_
                    refine wpAnyH_take (i := 20) (v := undef) rfl (by kernel_rfl) (by kernel_rfl) (by kernel_rfl) (fun _ _ _ h => h) (Or.inr ⟨by kernel_rfl, rfl⟩) hS5 ?_
                    refine wpAnyH_take (i := 21) (v := undef) rfl (by kernel_rfl) (by kernel_rfl) (by kernel_rfl) (fun _ _ _ h => h) (Or.inr ⟨by kernel_rfl, rfl⟩) hS5 ?_
                    refine wpAnyH_take (i := 22) (v := undef) rfl (by kernel_rfl) (by kernel_rfl) (by kernel_rfl) (fun _ _ _ h => h) (Or.inr ⟨by kernel_rfl, rfl⟩) hS5 ?_
                    refine wpAnyH_take (i := 23) (v := undef) rfl (by kernel_rfl) (by kernel_rfl) (by kernel_rfl) (fun _ _ _ h => h) (Or.inr ⟨by kernel_rfl, rfl⟩) hS5 ?_
                    refine wpAnyH_take (i := 24) (v := .bool false) rfl (by kernel_rfl) (by kernel_rfl) (by kernel_rfl) (fun _ _ _ h => h) (Or.inl ⟨by kernel_rfl, by intro w _; go_simp⟩) hS5 ?_
                    refine wpAnyH_take (i := 25) (v := .bool false) rfl (by kernel_rfl) (by kernel_rfl) (by kernel_rfl) (fun _ _ _ h => h) (Or.inl ⟨by kernel_rfl, by intro w _; go_simp⟩) hS5 ?_
                    refine wpAnyH_take (i := 26) (v := .bool false) rfl (by kernel_rfl) (by kernel_rfl) (by kernel_rfl) (fun _ _ _ h => h) (Or.inl ⟨by kernel_rfl, by intro w _; go_simp⟩) hS5 ?_
                    refine wpAnyH_take (i := 27) (v := .bool true) rfl (by kernel_rfl) (by kernel_rfl) (by kernel_rfl) (fun _ _ _ h => h) (Or.inl ⟨by kernel_rfl, by intro w _; go_simp⟩) hS5 ?_
                    refine wpAnyH_take (i := 28) (v := .bool true) rfl (by kernel_rfl) (by kernel_rfl) (by kernel_rfl) (fun _ _ _ h => h) (Or.inl ⟨by kernel_rfl, by intro w _; go_simp⟩) hS5 ?_
                    refine wpAnyH_take (i := 29) (v := .slice a5 z1.length c5) rfl (by kernel_rfl) (by kernel_rfl) (by kernel_rfl) (fun _ _ _ h => h) (Or.inl ⟨by kernel_rfl, by intro w _; go_simp⟩) hS5 ?_
                    refine wpAnyH_take (i := 31) (v := .slice a3 z0.length c3) rfl (by kernel_rfl) (by kernel_rfl) (by kernel_rfl) (fun _ _ _ h => h) (Or.inl ⟨by kernel_rfl, by intro w _; go_simp⟩) hS5 ?_
                    refine wpAnyH_take (i := 33) (v := .slice (some ⟨b, off, none⟩) rs.length cap) rfl (by kernel_rfl) (by kernel_rfl) (by kernel_rfl) (fun _ _ _ h => h) (Or.inl ⟨by kernel_rfl, by intro w _; go_simp⟩) hS5 ?_
                    refine wpAnyH_take (i := 34) (v := .int .i64 (i : Int)) rfl (by kernel_rfl) (by kernel_rfl) (by kernel_rfl) (fun _ _ _ h => h) (Or.inl ⟨by kernel_rfl, by intro w _; go_simp⟩) hS5 ?_
                    refine wpAnyH_take (i := 35) (v := .pointer (some ⟨b, off + i, none⟩)) rfl (by kernel_rfl) (by kernel_rfl) (by kernel_rfl) (fun _ _ _ h => h) (Or.inl ⟨by kernel_rfl, by intro w _; go_simp⟩) hS5 ?_
                    refine wpAnyH_take (i := 36) (v := .slice ap zs.length cp) rfl (by kernel_rfl) (by kernel_rfl) (by kernel_rfl) (fun _ _ _ h => h) (Or.inl ⟨by kernel_rfl, by intro w hSw; go_simp⟩) hS5 ?_
                    refine wpAnyH_ready (rs := [30]) (by kernel_rfl) (by simp) ?_
                    refine AllReadyH.cons rfl (fun KK hK => ?_) AllReadyH.nil
                    rw [if_pos (by kernel_rfl)]
                    refine wp_made_nil rfl ?_
                    intro W6 ho6 B6d
                    have B6 : Below W5.heap.size W5 W6 := Below.drew_left B6d
                    have hS6 : W6.cell? ⟨b, off + i, none⟩ = some (.slice ap zs.length cp) := cell_below B6 hc5
                    refine hK.out _ _ (by exact hS6) (fun _ => ?_)
                    clear hK KK
                    refine wpAnyH_ready (rs := [32]) (by kernel_rfl) (by simp) ?_
                    refine AllReadyH.cons rfl (fun KK hK => ?_) AllReadyH.nil
                    rw [if_pos (by kernel_rfl)]
                    have ho6p : Ow W6 W5.heap.size (.slice (some ⟨W5.heap.size, 0, none⟩) 0 0) [] := ho6.out
                    have hbW6 : Bs W6 (.slice a3 z0.length c3) z0 := hbW.below B6 (Nat.le_refl _)
                    refine wp_app (.tmp 134) (.tmp 135) rfl W5.heap.size (.slice (some ⟨W5.heap.size, 0, none⟩) 0 0) [] (by kernel_rfl) ho6p (.slice a3 z0.length c3) z0 (by kernel_rfl) hbW6 (by simp; have := HZL.out; omega) B6.size ?_
                    intro a7 c7 W7 ho7 hg7 hat7
                    simp only [List.length_nil, Nat.zero_add, List.nil_append] at ho7 ⊢
                    have B7 : Below W5.heap.size W5 W7 := B6.trans (grown_below hg7 ho6p B6.size)
                    have hS7 : W7.cell? ⟨b, off + i, none⟩ = some (.slice ap zs.length cp) := cell_below B7 hc5
                    clear hg7 hat7
                    refine hK.out _ _ (by exact hS7) (fun _ => ?_)
                    clear hK KK
                    refine wpAnyH_ready (rs := [37]) (by kernel_rfl) (by simp) ?_
                    refine AllReadyH.cons rfl (fun KK hK => ?_) AllReadyH.nil
                    rw [if_pos (by kernel_rfl)]
                    have hbR7 : Bs W7 (.slice ap zs.length cp) zs := hbR.below B7 (Nat.le_refl _)
                    refine wp_app (.tmp 136) (.tmp 140) rfl W5.heap.size (.slice a7 z0.length c7) z0 (by kernel_rfl) ho7 (.slice ap zs.length cp) zs (by kernel_rfl) hbR7 (by have := HZL.out; omega) B7.size ?_
                    intro a8 c8 W8 ho8 hg8 hat8
                    have B8 : Below W5.heap.size W5 W8 := B7.trans (grown_below hg8 ho7 B7.size)
                    have hS8 : W8.cell? ⟨b, off + i, none⟩ = some (.slice ap zs.length cp) := cell_below B8 hc5
                    have hb8 : Bs W8 (.slice a8 (z0.length + zs.length) c8) (z0 ++ zs) := ho8.bs
                    clear hg8 hat8
                    refine hK.out _ _ (by exact hS8) (fun _ => ?_)
                    clear hK KK
                    refine wpAnyH_ready (rs := [38]) (by kernel_rfl) (by simp) ?_
                    refine AllReadyH.cons rfl (fun KK hK => ?_) AllReadyH.nil
                    go_simp
                    refine (same_any _ _ _ _ _ (by exact hbB.below B8 (Nat.le_refl _)) (by exact hb8)).mono ?_
                    rintro e W9 ⟨rfl, hsm⟩
                    dsimp only
                    rw [eqB_true HZ.out]
                    have hS9 : W9.cell? ⟨b, off + i, none⟩ = some (.slice ap zs.length cp) := cell_below (hsm.below _) hS8
                    have B9 : Below W5.heap.size W5 W9 := B8.trans (hsm.below _)
                    refine hK.out _ _ (by exact hS9) (fun _ => ?_)
                    clear hK KK
                    refine wpAnyH_take (i := 39) (v := .bool false) rfl (by kernel_rfl) (by kernel_rfl) (by kernel_rfl) (fun _ _ _ h => h) (Or.inl ⟨by kernel_rfl, by intro w _; go_simp⟩) hS9 ?_
                    refine wpAnyH_take (i := 40) (v := .bool false) rfl (by kernel_rfl) (by kernel_rfl) (by kernel_rfl) (fun _ _ _ h => h) (Or.inl ⟨by kernel_rfl, by intro w _; go_simp⟩) hS9 ?_
                    refine wpAnyH_take (i := 41) (v := .bool false) rfl (by kernel_rfl) (by kernel_rfl) (by kernel_rfl) (fun _ _ _ h => h) (Or.inl ⟨by kernel_rfl, by intro w _; go_simp⟩) hS9 ?_
                    refine wpAnyH_done (by kernel_rfl) ?_ _
                    go_wp2_with fail
                    go_meet
                    exact ⟨rfl, B9⟩
                case rest =>
                  obtain ⟨rfl, B6⟩ := hcut
                  have h6 : Ss wr _ wr.heap.size n fs4 false 0 := h5.below B6
                  clear h5 hbB hbW hbR hc5 B6
                  go_wp2_with fail
                  go_roundw
                  case rel => exact ⟨i + 1, fs4, by omega, by go_num, hfl4, h6⟩
                  case measure => simp [intOf]; omega
              · obtain ⟨rfl, rfl⟩ := write_no (by omega) hP.out
                rw [← HZ0.out] at hrd
                obtain ⟨z1, HZ⟩ : ∃ z1, Hid (z1 = z0) := ⟨_, rfl⟩
                rw [← HZ.out] at hrd
                have htt2 : (tot fs : Int) ≤ n := hfi.1
                have hfd : decide ((tot fs : Int) + (zs.length : Int) ≤ n) = false := decide_eq_false hfit
                clear hP
                go_wp2_with fail
                refine hrd.mono ?_
                rintro e W5 ⟨a5, c5, rfl, ho5, B5⟩
                have h5 := h4.below B5
                have hbB := ho5.bs
                have hbW := ho4.bs.below B5 (Nat.le_refl _)
                have hbR := hbs.below h5.bel (Nat.le_refl _)
                have hc5 := cell_below h5.bel hcell
                clear hrd ho5 ho4 B5 h4 h2
                go_upto_region 20 with fail
                go_cut [17, 145] (fun fv bv wx => fv = .bool false ∧ bv = .bool false ∧ Below W5.heap.size W5 wx)
                case first =>
                    refine wp_region_held (S := fun w' => w'.cell? ⟨b, off + i, none⟩ = some (.slice ap zs.length cp)) (by kernel_rfl) ?_
                    change wpAnyH _ _ _ _ _ _ _ _ (World.drew _)
                    have hS5 : W5.drew.cell? ⟨b, off + i, none⟩ = some (.slice ap zs.length cp) := hc5
                    have h6 := h5.below (Below.refl _ W5).drew
                    refine wpAnyH_take (i := 0) (v := .int .i64 6) rfl (by kernel_rfl) (by kernel_rfl) (by kernel_rfl) (fun _ _ _ h => h) (Or.inl ⟨by kernel_rfl, by intro w _; go_simp⟩) hS5 ?_
                    refine wpAnyH_take (i := 1) (v := .bool false) rfl (by kernel_rfl) (by kernel_rfl) (by kernel_rfl) (fun _ _ _ h => h) (Or.inl ⟨by kernel_rfl, by intro w _; go_simp⟩) hS5 ?_
                    refine wpAnyH_take (i := 2) (v := .bool false) rfl (by kernel_rfl) (by kernel_rfl) (by kernel_rfl) (fun _ _ _ h => h) (Or.inl ⟨by kernel_rfl, by intro w _; go_simp⟩) hS5 ?_
                    refine wpAnyH_take (i := 3) (v := .bool false) rfl (by kernel_rfl) (by kernel_rfl) (by kernel_rfl) (fun _ _ _ h => h) (Or.inl ⟨by kernel_rfl, by intro w _; go_simp⟩) hS5 ?_
                    refine wpAnyH_take (i := 4) (v := .bool false) rfl (by kernel_rfl) (by kernel_rfl) (by kernel_rfl) (fun _ _ _ h => h) (Or.inl ⟨by kernel_rfl, by intro w _; go_simp⟩) hS5 ?_
                    refine wpAnyH_take (i := 5) (v := .pointer (some ⟨wr.heap.size, 0, none⟩)) rfl (by kernel_rfl) (by kernel_rfl) (by kernel_rfl) (fun _ _ _ h => h) (Or.inl ⟨by kernel_rfl, by intro w _; go_simp⟩) hS5 ?_
                    refine wpAnyH_take (i := 7) (v := .int .i64 n) rfl (by kernel_rfl) (by kernel_rfl) (by kernel_rfl) (fun _ _ _ h => h) (Or.inl ⟨by kernel_rfl, by intro w _; go_simp⟩) hS5 ?_
                    refine wpAnyH_ready (rs := [6]) (by kernel_rfl) (by simp) ?_
                    refine AllReadyH.cons rfl (fun KK hK => ?_) AllReadyH.nil
                    go_simp
                    refine (h6.used).mono ?_
                    rintro e w' ⟨rfl, rfl⟩
                    dsimp only
                    refine hK.out _ _ (by exact hS5) (fun _ => ?_)
                    clear hK KK
                    refine wpAnyH_take (i := 8) (v := .bool false) rfl (by kernel_rfl) (by kernel_rfl) (by kernel_rfl) (fun _ _ _ h => h) (Or.inl ⟨by kernel_rfl, by intro w _; go_simp⟩) hS5 ?_
                    refine wpAnyH_take (i := 9) (v := .bool false) rfl (by kernel_rfl) (by kernel_rfl) (by kernel_rfl) (fun _ _ _ h => h) (Or.inl ⟨by kernel_rfl, by intro w _; go_simp⟩) hS5 ?_
                    refine wpAnyH_take (i := 10) (v := .bool false) rfl (by kernel_rfl) (by kernel_rfl) (by kernel_rfl) (fun _ _ _ h => h) (Or.inl ⟨by kernel_rfl, by intro w _; go_simp⟩) hS5 ?_
                    refine wpAnyH_take (i := 11) (v := .bool false) rfl (by kernel_rfl) (by kernel_rfl) (by kernel_rfl) (fun _ _ _ h => h) (Or.inl ⟨by kernel_rfl, by intro w _; go_simp⟩) hS5 ?_
                    refine wpAnyH_take (i := 12) (v := .bool true) rfl (by kernel_rfl) (by kernel_rfl) (by kernel_rfl) (fun _ _ _ h => h) (Or.inl ⟨by kernel_rfl, by intro w _; go_simp⟩) hS5 ?_
                    refine wpAnyH_take (i := 13) (v := .bool true) rfl (by kernel_rfl) (by kernel_rfl) (by kernel_rfl) (fun _ _ _ h => h) (Or.inl ⟨by kernel_rfl, by intro w _; go_simp⟩) hS5 ?_
                    refine wpAnyH_take (i := 14) (v := .slice a5 z1.length c5) rfl (by kernel_rfl) (by kernel_rfl) (by kernel_rfl) (fun _ _ _ h => h) (Or.inl ⟨by kernel_rfl, by intro w _; go_simp⟩) hS5 ?_
                    refine wpAnyH_take (i := 15) (v := .slice a3 z0.length c3) rfl (by kernel_rfl) (by kernel_rfl) (by kernel_rfl) (fun _ _ _ h => h) (Or.inl ⟨by kernel_rfl, by intro w _; go_simp⟩) hS5 ?_
                    refine wpAnyH_ready (rs := [16]) (by kernel_rfl) (by simp) ?_
                    refine AllReadyH.cons rfl (fun KK hK => ?_) AllReadyH.nil
                    go_simp
                    refine (same_any _ _ _ _ _ (by exact hbB) (by exact hbW)).mono ?_
                    rintro e W6 ⟨rfl, hsm⟩
                    dsimp only
                    rw [eqB_true HZ.out]
                    have hS6 : W6.cell? ⟨b, off + i, none⟩ = some (.slice ap zs.length cp) := cell_below (hsm.below _) hS5
                    have h7 := h6.below (hsm.below _)
                    have B7 : Below W5.heap.size W5 W6 := (Below.refl _ W5).drew.trans (hsm.below _)
                    refine hK.out _ _ (by exact hS6) (fun _ => ?_)
                    clear hK KK
                    refine wpAnyH_take (i := 17) (v := .bool false) rfl (by kernel_rfl) (by kernel_rfl) (by kernel_rfl) (fun _ _ _ h => h) (Or.inl ⟨by kernel_rfl, by intro w _; go_simp⟩) hS6 ?_
                    refine wpAnyH_take (i := 18) (v := .bool false) rfl (by kernel_rfl) (by kernel_rfl) (by kernel_rfl) (fun _ _ _ h => h) (Or.inl ⟨by kernel_rfl, by intro w _; go_simp⟩) hS6 ?_
                    refine wpAnyH_take (i := 19) (v := .pointer (some ⟨wr.heap.size, 0, none⟩)) rfl (by kernel_rfl) (by kernel_rfl) (by kernel_rfl) (fun _ _ _ h => h) (Or.inl ⟨by kernel_rfl, by intro w _; go_simp⟩) hS6 ?_
                    refine wpAnyH_take (i := 21) (v := .int .i64 (tot fs : Int)) rfl (by kernel_rfl) (by kernel_rfl) (by kernel_rfl) (fun _ _ _ h => h) (Or.inl ⟨by kernel_rfl, by intro w _; go_simp⟩) hS6 ?_
                    refine wpAnyH_ready (rs := [20]) (by kernel_rfl) (by simp) ?_
                    refine AllReadyH.cons rfl (fun KK hK => ?_) AllReadyH.nil
                    go_simp
                    refine (h7.used).mono ?_
                    rintro e w' ⟨rfl, rfl⟩
                    dsimp only
                    refine hK.out _ _ (by exact hS6) (fun _ => ?_)
                    clear hK KK
                    refine wpAnyH_take (i := 22) (v := .bool false) rfl (by kernel_rfl) (by kernel_rfl) (by kernel_rfl) (fun _ _ _ h => h) (Or.inl ⟨by kernel_rfl, by intro w _; go_simp⟩) hS6 ?_
                    refine wpAnyH_take (i := 23) (v := .bool false) rfl (by kernel_rfl) (by kernel_rfl) (by kernel_rfl) (fun _ _ _ h => h) (Or.inl ⟨by kernel_rfl, by intro w _; go_simp⟩) hS6 ?_
                    refine wpAnyH_take (i := 24) (v := .bool false) rfl (by kernel_rfl) (by kernel_rfl) (by kernel_rfl) (fun _ _ _ h => h) (Or.inl ⟨by kernel_rfl, by intro w _; go_simp⟩) hS6 ?_
                    refine wpAnyH_take (i := 25) (v := .bool false) rfl (by kernel_rfl) (by kernel_rfl) (by kernel_rfl) (fun _ _ _ h => h) (Or.inl ⟨by kernel_rfl, by intro w _; go_simp⟩) hS6 ?_
                    refine wpAnyH_take (i := 26) (v := .bool false) rfl (by kernel_rfl) (by kernel_rfl) (by kernel_rfl) (fun _ _ _ h => h) (Or.inl ⟨by kernel_rfl, by intro w _; go_simp⟩) hS6 ?_
                    refine wpAnyH_take (i := 27) (v := .bool false) rfl (by kernel_rfl) (by kernel_rfl) (by kernel_rfl) (fun _ _ _ h => h) (Or.inl ⟨by kernel_rfl, by intro w _; go_simp⟩) hS6 ?_
                    refine wpAnyH_take (i := 28) (v := .bool false) rfl (by kernel_rfl) (by kernel_rfl) (by kernel_rfl) (fun _ _ _ h => h) (Or.inl ⟨by kernel_rfl, by intro w _; go_simp⟩) hS6 ?_
                    refine wpAnyH_take (i := 29) (v := undef) rfl (by kernel_rfl) (by kernel_rfl) (by kernel_rfl) (fun _ _ _ h => h) (Or.inr ⟨by kernel_rfl, rfl⟩) hS6 ?_
                    refine wpAnyH_take (i := 30) (v := undef) rfl (by kernel_rfl) (by kernel_rfl) (by kernel_rfl) (fun _ _ _ h => h) (Or.inr ⟨by kernel_rfl, rfl⟩) hS6 ?_
                    refine wpAnyH_take (i := 31) (v := undef) rfl (by kernel_rfl) (by kernel_rfl) (by kernel_rfl) (fun _ _ _ h => h) (Or.inr ⟨by kernel_rfl, rfl⟩) hS6 ?_
                    refine wpAnyH_take (i := 32) (v := undef) rfl (by kernel_rfl) (by kernel_rfl) (by kernel_rfl) (fun _ _ _ h => h) (Or.inr ⟨by kernel_rfl, rfl⟩) hS6 ?_
                    refine wpAnyH_take (i := 33) (v := undef) rfl (by kernel_rfl) (by kernel_rfl) (by kernel_rfl) (fun _ _ _ h => h) (Or.inr ⟨by kernel_rfl, rfl⟩) hS6 ?_
                    refine wpAnyH_take (i := 34) (v := undef) rfl (by kernel_rfl) (by kernel_rfl) (by kernel_rfl) (fun _ _ _ h => h) (Or.inr ⟨by kernel_rfl, rfl⟩) hS6 ?_
                    refine wpAnyH_take (i := 35) (v := undef) rfl (by kernel_rfl) (by kernel_rfl) (by kernel_rfl) (fun _ _ _ h => h) (Or.inr ⟨by kernel_rfl, rfl⟩) hS6 ?_
                    refine wpAnyH_take (i := 36) (v := undef) rfl (by kernel_rfl) (by kernel_rfl) (by kernel_rfl) (fun _ _ _ h => h) (Or.inr ⟨by kernel_rfl, rfl⟩) hS6 ?_
                    refine wpAnyH_take (i := 37) (v := undef) rfl (by kernel_rfl) (by kernel_rfl) (by kernel_rfl) (fun _ _ _ h => h) (Or.inr ⟨by kernel_rfl, rfl⟩) hS6 ?_
                    refine wpAnyH_take (i := 38) (v := undef) rfl (by kernel_rfl) (by kernel_rfl) (by kernel_rfl) (fun _ _ _ h => h) (Or.inr ⟨by kernel_rfl, rfl⟩) hS6 ?_
                    refine wpAnyH_take (i := 39) (v := undef) rfl (by kernel_rfl) (by kernel_rfl) (by kernel_rfl) (fun _ _ _ h => h) (Or.inr ⟨by kernel_rfl, rfl⟩) hS6 ?_
                    refine wpAnyH_take (i := 40) (v := .bool false) rfl (by kernel_rfl) (by kernel_rfl) (by kernel_rfl) (fun _ _ _ h => h) (Or.inl ⟨by kernel_rfl, by intro w _; go_simp⟩) hS6 ?_
                    refine wpAnyH_take (i := 41) (v := .bool false) rfl (by kernel_rfl) (by kernel_rfl) (by kernel_rfl) (fun _ _ _ h => h) (Or.inl ⟨by kernel_rfl, by intro w _; go_simp⟩) hS6 ?_
                    simp only [List.getElem_toArray, List.getElem_cons_zero, List.getElem_cons_succ, Act.put, List.setIfInBounds_toArray, List.set_cons_zero, List.set_cons_succ]
                    refine wpAnyH_done (by kernel_rfl) ?_ _
                    go_wp2_with fail
                    go_meet
                    exact ⟨by first | rfl | simp [hfd], rfl, B7⟩
                case rest =>
                  obtain ⟨rfl, rfl, B6⟩ := hcut
                  have h6 : Ss wr _ wr.heap.size n fs false 0 := h5.below B6
                  clear h5 hbB hbW hbR hc5 B6
                  go_wp2_with fail
                  go_roundw
                  case rel => exact ⟨i + 1, fs, by omega, by go_num, by omega, h6⟩
                  case measure => simp [intOf]; omega
            · go_wp2_with fail
              refine (known_any _).mono ?_
              rintro e W3 ⟨rfl, B3⟩
              replace B3 := h2.bel.trans (B3.mono h2.bel.size)
              go_wp2_with fail
              go_ret
              exact ⟨rfl, B3⟩
    · by_cases hlt : i < rs.length
      · go_wp2_with fail
        refine (known_any _).mono ?_
        rintro e W1 ⟨rfl, B1⟩
        go_wp2_with fail
        go_ret
        exact ⟨rfl, B1⟩
      · go_wp2_with fail
        refine (known_any _).mono ?_
        rintro e W1 ⟨rfl, B1⟩
        go_wp2_with fail
        go_ret
        exact ⟨rfl, B1⟩
end Go.Proofs.Ythkgmnmdojmfgaa
