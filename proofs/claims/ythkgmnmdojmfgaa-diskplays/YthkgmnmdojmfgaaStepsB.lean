/-
  disk's five as steps: cut, write, by contracts.
-/
import Derived.Test.YthkgmnmdojmfgaaSteps
namespace Go.Proofs.Ythkgmnmdojmfgaa
open Go.RowKit Go.Maps
variable {w w' : World} {F : Nat → Prop} {sb : Nat} {mb : Option Nat} {room : Int} {fs : Fls} {lit : Bool} {left : Int}

/-- What one of the five leaves: the disk with these files; all else is as it was. -/
def Res (F : Nat → Prop) (sb : Nat) (room : Int) (fs : Fls) (lit : Bool) (left : Int) (w w' : World) : Prop := ∃ mb', Dk w' (Pl F w.heap.size) sb mb' room fs lit left ∧ Grows F w w'
theorem Ow.cut {v : Value} {zs : List Int} {ao : Option Addr} {cap : Nat} (h : Ow w 0 v zs) (hv : v = .slice ao zs.length cap) (m : Nat) (hm : m ≤ zs.length) : Ow w 0 (.slice ao m cap) (zs.take m) := by
  have hl : (zs.take m).length = m := by simp [hm]
  refine ⟨by rw [hl]; simp [cellsOf, hm], ?_⟩
  rw [hl]
  rcases h.2 with ⟨h1, h2⟩ | ⟨g, c, cur, h1, h2, h3, h4, h5, h6, h7⟩
  · rw [h1] at hv
    simp only [Value.slice.injEq] at hv
    obtain ⟨rfl, _, rfl⟩ := hv
    exact Or.inl ⟨by rw [show m = 0 by omega], by omega⟩
  · rw [h1] at hv
    simp only [Value.slice.injEq] at hv
    obtain ⟨rfl, _, rfl⟩ := hv
    refine Or.inr ⟨g, c, cur, rfl, h2, h3, by omega, h5, h6, ?_⟩
    have := congrArg (List.take m) h7
    simp only [Nat.mul_one, List.take_take] at this ⊢
    rw [Nat.min_eq_left hm] at this
    rw [this]
    simp [cellsOf, List.map_take]
theorem Ow.cap_ge {v : Value} {zs : List Int} {ao : Option Addr} {cap : Nat} (h : Ow w 0 v zs) (hv : v = .slice ao zs.length cap) : zs.length ≤ cap := by
  rcases h.2 with ⟨h1, h2⟩ | ⟨g, c, cur, h1, h2, h3, h4, _⟩
  · rw [h1] at hv
    simp only [Value.slice.injEq] at hv
    omega
  · rw [h1] at hv
    simp only [Value.slice.injEq] at hv
    omega
theorem Byt.take {zs : List Int} (h : Byt zs) (m : Nat) : Byt (zs.take m) := fun z hz => h z (List.mem_of_mem_take hz)
theorem own_len (ao : Option Addr) (a b c : Nat) : (Value.slice ao a c).ownBlock = (Value.slice ao b c).ownBlock := by cases ao <;> rfl
def cutE (fs : Fls) (x : Nm) (n : Int) : Int := match lk fs x with | none => 7 | some f => if n < 0 ∨ (f.zs.length : Int) < n then 1 else 0
/-- The file behind Cut: its slice is cut. -/
def cutV (f : Fl) (n : Nat) : Fl := ⟨match f.v with | .slice ao _ cap => .slice ao n cap | v => v, f.zs.take n, min f.l n⟩
def cutF (fs : Fls) (x : Nm) (n : Int) : Fls := match lk fs x with | none => fs | some f => if n < 0 ∨ (f.zs.length : Int) < n then fs else pt fs x (cutV f n.toNat)
set_option maxRecDepth 20000 in
set_option maxHeartbeats 1600000 in
theorem cut_any (h : Dk w F sb mb room fs lit left) (x : Nm) (hx : x.length ≤ maxLen) (o p : Value) (m : Int) (hm : (Lit.int .i64 m).wf = true) :
    Calls Try.prog 49 #[.agg #[.pointer (some ⟨sb, 0, none⟩), encStr x, o, p, .int .i64 m]] w fun e w' => e = .returned (.int .i64 (cutE fs x m)) ∧ Res F sb room (cutF fs x m) lit left w w' := by
  obtain ⟨ao, cap, hf⟩ := at0_form' h x
  obtain ⟨n, hn⟩ : ∃ n, n = Value.int .i64 m := ⟨_, rfl⟩
  rw [← hn]
  go_enter Try.func49, Try.ntmps49
  refine wp_seq (wp_region_lit (wpList_box_row rfl 75 (.tmp 0) rfl [.pointer (some ⟨sb, 0, none⟩), encStr x, o, p, n] rfl ?_))
  intro W1 hc1 B1 HS1
  have h1 : Dk W1 (Pl F w.heap.size) sb mb room fs lit left := (h.to B1).pl _
  have HLS : Hid (∀ W, Below W1.heap.size W1 W → LookS w.heap.size sb mb x (.agg #[.slice ao (at0 fs x).zs.length cap, .int .i64 ((at0 fs x).l : Int)]) (lk fs x).isSome W) := fun W hW => by
    have := LookS.of h1 hx hc1 hW
    rw [Fl.val, hf] at this
    exact this
  have hz67 := zero67
  go_upto_region 1 with fail
  go_cut [3, 4] (fun pv tv wx => pv = .pointer (some ⟨W1.heap.size, 0, none⟩) ∧ tv = .bool (lk fs x).isSome ∧ Cw wx W1.heap.size [.slice ao (at0 fs x).zs.length cap, .int .i64 ((at0 fs x).l : Int)] 67 ∧ Below W1.heap.size W1 wx)
  case first =>
    go_region_held3 (fun W => W.cell? ⟨w.heap.size, 0, none⟩ = some (.pointer (some ⟨sb, 0, none⟩)) ∧ W.cell? ⟨w.heap.size, 1, none⟩ = some (encStr x) ∧ W.cell? ⟨sb, 2, none⟩ = some (.map mb) ∧
      (Instr.lookup 58 (.map mb) (encStr x) true).run Try.prog W = .ok (.tuple #[.agg #[.slice ao (at0 fs x).zs.length cap, .int .i64 ((at0 fs x).l : Int)], .bool (lk fs x).isSome]) W)
      (first | exact HLS.out _ (Below.refl _ _).drew | exact HLS.out _ ((Below.refl _ _).drew.alloc (Nat.le_refl _) _))
      (fail)
    all_goals
      go_wp2_with fail
      go_meet
      exact ⟨rfl, rfl, Cw.new _ _ _, ((Below.refl _ _).alloc (Nat.le_refl _) _).drew⟩
  case rest =>
    rename World => W2
    obtain ⟨rfl, rfl, hc2, B2⟩ := hcut
    have hc12 := hc1.below B2 hc1.lt
    have h2 := h1.to B2
    have d0 : W2.cell? ⟨w.heap.size, 0, none⟩ = some (.pointer (some ⟨sb, 0, none⟩)) := by rw [hc12.cell]; rfl
    have d1 : W2.cell? ⟨w.heap.size, 1, none⟩ = some (encStr x) := by rw [hc12.cell]; rfl
    have d2 : W2.cell? ⟨w.heap.size, 2, none⟩ = some o := by rw [hc12.cell]; rfl
    have d3 : W2.cell? ⟨w.heap.size, 3, none⟩ = some p := by rw [hc12.cell]; rfl
    have d4 : W2.cell? ⟨w.heap.size, 4, none⟩ = some n := by rw [hc12.cell]; rfl
    have g0 : W2.cell? ⟨W1.heap.size, 0, none⟩ = some (.slice ao (at0 fs x).zs.length cap) := by rw [hc2.cell]; rfl
    have g1 : W2.cell? ⟨W1.heap.size, 1, none⟩ = some (.int .i64 ((at0 fs x).l : Int)) := by rw [hc2.cell]; rfl
    have HG2 : Hid (Grows F w W2) := ((Grows.refl F w).bel B1).bel B2
    have hlt := hc1.lt
    subst hn
    clear HLS hz67 h hc1 B1
    cases hl : lk fs x with
    | none =>
      go_wp2_with fail
      go_ret
      exact ⟨by simp [cutE, hl], mb, by simp only [cutF, hl]; exact h2, HG2.out⟩
    | some f =>
      have hat : at0 fs x = f := by simp only [at0, hl]
      rw [hat] at hf hc2 g0 g1
      by_cases hm0 : m < 0
      · go_wp2_with fail
        go_ret
        exact ⟨by simp [cutE, hl, hm0], mb, by simp only [cutF, hl, hm0, true_or, if_true]; exact h2, HG2.out⟩
      · by_cases hm1 : (f.zs.length : Int) < m
        · go_wp2_with fail
          go_ret
          exact ⟨by simp [cutE, hl, hm1], mb, by simp only [cutF, hl, hm1, or_true, if_true]; exact h2, HG2.out⟩
        · obtain ⟨k, rfl⟩ := Int.eq_ofNat_of_zero_le (by omega : 0 ≤ m)
          obtain ⟨r1, r2, r3, r4⟩ := h2.rows _ (lk_mem hl)
          have hk : k ≤ f.zs.length := by omega
          have hkc : k ≤ cap := Nat.le_trans hk (r1.cap_ge hf)
          have hcv : cutV f k = ⟨.slice ao k cap, f.zs.take k, min f.l k⟩ := by simp only [cutV, hf]
          have hp := put_any (f := ⟨.slice ao k cap, f.zs.take k, min f.l k⟩) (x := x) ((h2.to (Below.refl _ _).drew).ex _) hx ((r1.cut hf k hk).keep fun _ _ => rfl) (by simp; omega) (r3.take k) (fun j hj => r4 j (by rw [hf, own_len ao _ k cap]; exact hj)) (fun q hq hne => by have := own_apart (f := f) h2 hl q hq hne; rw [hf, own_len ao _ k cap] at this; exact this) (h2.fits_same hl (by simp; omega)) (Nat.le_trans (len_pt_of hl) h2.cnt)
          simp only [Fl.val] at hp
          have hmin : ((min f.l k : Nat) : Int) = min (f.l : Int) (k : Int) := by omega
          rw [hmin] at hp
          have HCV := hid_into hcv
          have HPP := hid_into hp
          have HSZ : Hid (w.heap.size ≤ W2.heap.size) := Nat.le_trans (Nat.le_of_lt hlt) B2.size
          clear hp hcv r1 r2 r3 r4 h2
          go_wp2_with fail
          refine wp_region_still_tail 15 (by kernel_rfl) (by kernel_rfl) ?_
          simp only [List.take_succ_cons, List.take_zero, List.drop_succ_cons, List.drop_zero]
          change wpStill _ _ (World.drew _) _ _ _
          repeat still_step
          refine wpStill_nil ?_
          change wpList _ _ _ _ _ (World.drew _)
          go_wp2_with fail
          refine HPP.out.mono ?_
          rintro e W4 ⟨rfl, mb', h4, hG4⟩
          have HG4 : Hid (Grows F w W4) := HG2.out.pl ((Grows.drew _ _).trans hG4 fun _ hk => Or.inl hk)
          clear hG4
          go_wp2_with fail
          go_ret
          have e7 : cutE fs x (k : Int) = 0 := by simp only [cutE, hl]; exact if_neg (by omega)
          refine ⟨by simp [e7], mb', ?_, HG4.out⟩
          have e : cutF fs x (k : Int) = pt fs x ⟨.slice ao k cap, f.zs.take k, min f.l k⟩ := by
            simp only [cutF, hl]
            rw [if_neg (by omega), ← HCV.out]
            rfl
          rw [e]
          exact h4.plpl HSZ.out
end Go.Proofs.Ythkgmnmdojmfgaa
