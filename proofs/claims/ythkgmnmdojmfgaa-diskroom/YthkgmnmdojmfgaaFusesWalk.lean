/-
  The law DiskFuses, walked: true for every number and all rows.
-/
import Derived.Test.YthkgmnmdojmfgaaRowsW
namespace Go.Proofs.Ythkgmnmdojmfgaa
open Go.RowKit Go.Maps
variable {w w' w0 : World} {sb : Nat} {room : Int} {fs : Fls} {lit : Bool} {left : Int}

/-- At most one file, of that name. -/
def Of (fs : Fls) (x : Nm) : Prop := fs = [] ∨ ∃ f, fs = [(x, f)]
theorem Of.put {x : Nm} (h : Of fs x) (f : Fl) : pt fs x f = [(x, f)] := by
  rcases h with rfl | ⟨g, rfl⟩
  · rfl
  · exact one_put x f g
theorem Of.len {x : Nm} (h : Of fs x) : fs.length ≤ 1 := by
  rcases h with rfl | ⟨g, rfl⟩ <;> simp
theorem Of.at {x : Nm} (h : Of fs x) : (at0 fs x).zs.length = tot fs := by
  rcases h with rfl | ⟨g, rfl⟩
  · rfl
  · rw [one_at]; simp [tot]
theorem wfull_small {x : Nm} {m : Nat} (hl : fs.length < 4096) (ht : (tot fs : Int) + (m : Int) ≤ room) : wfull fs x m room = false := by
  have h1 : ¬ (room - (tot fs : Int) < (m : Int)) := by omega
  have h2 : ¬ (4096 ≤ fs.length) := by omega
  simp only [wfull, decide_eq_false h1, decide_eq_false h2, Bool.and_false, Bool.or_false]
/-- A write for which there is room. -/
theorem write_ok {x : Nm} {ps : List Int} {ev : Int} {fs' : Fls} (hl : fs.length < 4096) (ht : (tot fs : Int) + (ps.length : Int) ≤ room) (h : writeP fs x ps room ev fs') : ev = 0 ∧ ∃ v, fs' = pt fs x ⟨v, (at0 fs x).zs ++ ps, (at0 fs x).l⟩ := by
  obtain ⟨h1, v, h2⟩ := h
  have e := wfull_small (x := x) hl ht
  exact ⟨by rw [h1]; simp [wrE, e], v, by rw [h2]; simp [wrF, e]⟩
theorem fiveP_dead {nn : Bool} {P : Int → Fls → Prop} {ev : Int} {fs' : Fls} (h : fiveP lit left nn fs P ev fs') (h1 : burntB lit left = true) : ev = 9 ∧ fs' = fs := by
  simp only [fiveP, h1, if_true] at h
  exact h
theorem none_f : noneB [102] = false := by decide
theorem none_z : noneB [122] = false := by decide
theorem none_none : noneB [110, 111, 110, 101] = false := by decide
theorem tot_abs (fs : Fls) : tot fs = ((abs fs).map fun q => q.2.1.length).sum := by simp [tot, abs, List.map_map, Function.comp_def]
set_option maxHeartbeats 3200000 in
theorem fuses_walk (n : Int) (hn : (Lit.int .i64 n).wf = true) (v : Value) (rs : List Rw) (W : World) (hrs : Rs W v rs) :
    Calls Try.prog 5 #[.int .i64 n, v] W fun e w' => e = .returned (.bool true) ∧ Below W.heap.size W w' := by
  obtain ⟨ao, cap, rfl, hl47, _⟩ := hrs.form
  go_enter Try.func5, Try.ntmps5
  go_wp2_with fail
  go_loopw [5, 6] (fun kv iv wx => ∃ (i k : Nat), i ≤ rs.length ∧ iv = .int .i64 (i : Int) ∧ kv = .int .i64 (k : Int) ∧ Hid (k = i + sl (rs.take i)) ∧ k ≤ 140737488400000 ∧ wx = W) (fun _ iv _ => rs.length - (intOf iv).toNat)
  case atStart => exact ⟨0, 0, Nat.zero_le _, rfl, rfl, by simp [Hid, sl], Nat.zero_le _, rfl⟩
  case round =>
    obtain ⟨i, k, hi, rfl, rfl, HK, hk47, rfl⟩ := hrel
    by_cases hk8 : k ≤ 8000
    · by_cases hlt : i < rs.length
      · obtain ⟨b, off, ap, cp, zs, rfl, hget, hcell, _, _, hz⟩ := hrs.get hlt
        have HS := hid_into (sl_take hget)
        clear hget
        go_wp2_with fail
        go_roundw
        case rel => exact ⟨i + 1, k + 1 + zs.length, by omega, by go_num, by go_num, (by have h1 := HS.out; have h2 := HK.out; simp only at h1; show _ = _; omega), by omega, by trivial⟩
        case measure => simp [intOf]; omega
      · have HI : Hid (i = rs.length) := by show _ = _; omega
        by_cases hn0 : n < 0
        · go_wp2_with fail
          refine (known_any _).mono ?_
          rintro e W1 ⟨rfl, B1⟩
          go_wp2_with fail
          go_ret
          exact ⟨rfl, B1⟩
        · by_cases hn1 : 1000 < n
          · go_wp2_with fail
            refine (known_any _).mono ?_
            rintro e W1 ⟨rfl, B1⟩
            go_wp2_with fail
            go_ret
            exact ⟨rfl, B1⟩
          · go_wp2_with fail
            refine (Ss.new wr 1048576 (by decide)).mono ?_
            rintro e W1 ⟨rfl, h1⟩
            go_wp2_with fail
            refine (h1.fuse n hn).mono ?_
            rintro e W2 ⟨rfl, h2⟩
            rw [decide_eq_true (by omega : 0 ≤ n)] at h2
            clear h1
            have HSL : Hid (sl rs ≤ 8000 ∧ rs.length ≤ 8000) := by
              have h1 := HK.out
              have h2 := HI.out
              have h3 := sl_all rs
              rw [h2, h3] at h1
              show _ ∧ _
              omega
            have HN : Hid (0 ≤ n ∧ n ≤ 1000) := by show _ ∧ _; omega
            clear HK HI hi hk47 hk8 hlt
            go_wp2_with fail
            go_loopw [9] (fun iv wx => ∃ (i : Nat) (fs : Fls), i ≤ rs.length ∧ iv = .int .i64 (i : Int) ∧ Of fs [102] ∧ tot fs ≤ sl (rs.take i) ∧ Ss wr wx wr.heap.size 1048576 fs true (max (n - (i : Int)) 0)) (fun iv _ => rs.length - (intOf iv).toNat)
            case atStart => exact ⟨0, [], Nat.zero_le _, rfl, Or.inl rfl, by simp [tot], by simpa using h2⟩
            case round =>
              clear h2
              rename World => Wx
              obtain ⟨i, fs, hi, rfl, hof, htot, hss⟩ := hrel
              by_cases hlt : i < rs.length
              · obtain ⟨b, off, ap, cp, zs, rfl, hget, hcell, hbs, hby, hz⟩ := (hrs.below hss.bel).get hlt
                have hsl := sl_take hget
                have hle := sl_take_le rs (i + 1)
                have htl := hof.len
                simp only at hsl
                have HTB : Hid (tot fs + zs.length ≤ sl (rs.take (i + 1)) ∧ sl (rs.take (i + 1)) ≤ 8000) := by have := HSL.out; show _ ∧ _; omega
                clear hget hsl hle htot
                have hwr := hss.write [102] (by decide) ap cp zs hbs hby
                by_cases hin : (i : Int) < n
                · have HLT := hid_into htl
                  go_wp2_with fail
                  refine hwr.mono ?_
                  rintro e W3 ⟨ev, fs3, hP, rfl, h3⟩
                  obtain ⟨rfl, v3, rfl⟩ := write_ok (by omega) (by have := HTB.out; omega) (fiveP_go hP (by have := HN.out; simp [burntB]; omega) none_f)
                  have e3 : burnL 0 true (max (n - (i : Int)) 0) = max (n - ((i + 1 : Nat) : Int)) 0 := by simp [burnL]; omega
                  rw [e3, hof.put] at h3
                  have HT3 : Hid (tot [(([102] : Nm), (⟨v3, (at0 fs [102]).zs ++ zs, (at0 fs [102]).l⟩ : Fl))] ≤ sl (rs.take (i + 1))) := by
                    have := HTB.out
                    have := hof.at
                    show _ ≤ _
                    simp [tot]
                    omega
                  clear hP e3
                  go_wp2_with fail
                  go_roundw
                  case rel => exact ⟨i + 1, _, by omega, by go_num, Or.inr ⟨_, rfl⟩, HT3.out, h3⟩
                  case measure => simp [intOf]; omega
                · go_wp2_with fail
                  refine hwr.mono ?_
                  rintro e W3 ⟨ev, fs3, hP, rfl, h3⟩
                  obtain ⟨rfl, rfl⟩ := fiveP_dead hP (by simp [burntB]; omega)
                  have e3 : burnL 9 true (max (n - (i : Int)) 0) = max (n - ((i + 1 : Nat) : Int)) 0 := by simp [burnL]; omega
                  rw [e3] at h3
                  have HT3 : Hid (tot fs3 ≤ sl (rs.take (i + 1))) := by have := HTB.out; show _ ≤ _; omega
                  clear hP e3
                  go_wp2_with fail
                  go_roundw
                  case rel => exact ⟨i + 1, _, by omega, by go_num, hof, HT3.out, h3⟩
                  case measure => simp [intOf]; omega
              · have hir : i = rs.length := by omega
                subst hir
                clear hi
                have hnd : lk fs [110, 111, 110, 101] = none := by
                  rcases hof with rfl | ⟨f, rfl⟩
                  · rfl
                  · simp [lk]
                have hdl : dl fs [110, 111, 110, 101] = fs := dl_of_none (lk_none hnd)
                have HOF := hid_into hof
                have hrm := hss.remove [110, 111, 110, 101] (by decide)
                clear hof htot
                by_cases hin : (rs.length : Int) < n
                · go_wp2_with fail
                  refine hrm.mono ?_
                  rintro e W3 ⟨ev, fs3, hP, rfl, h3⟩
                  obtain ⟨he, hf⟩ := fiveP_go hP (by have := HN.out; simp [burntB]; omega) none_none
                  have he7 : ev = 7 := by rw [he]; simp [none7, hnd]
                  have hf3 : fs3 = fs := by rw [hf, hdl]
                  subst he7; subst hf3
                  clear hP he hf hrm
                  go_wp2_with fail
                  refine (h3.crash 0 0 (by decide) (by decide)).mono ?_
                  rintro e W4 ⟨rfl, fs4, ha, h4⟩
                  have hl4 : fs4.length ≤ 1 := by
                    have := congrArg List.length ha
                    have := HOF.out.len
                    simp [abs] at *
                    omega
                  have hft := h4.fits
                  have h4w := h4.write [122] (by decide) none 0 [] (Or.inl ⟨rfl, none, 0, rfl, by simp [maxLen], fun _ => rfl⟩) (fun z hz => by cases hz)
                  clear ha h3
                  go_wp2_with fail
                  refine h4w.mono ?_
                  rintro e W5 ⟨ev, fs5, hP, rfl, h5⟩
                  obtain ⟨rfl, _⟩ := write_ok (by omega) (by simp; omega) (fiveP_go hP rfl none_z)
                  have B5 := h5.bel
                  clear hP h5 h4w h4
                  go_wp2_with fail
                  refine (known_any _).mono ?_
                  rintro e W6 ⟨rfl, B6⟩
                  replace B6 := B5.trans (B6.mono B5.size)
                  go_wp2_with fail
                  go_ret
                  exact ⟨rfl, B6⟩
                · go_wp2_with fail
                  refine hrm.mono ?_
                  rintro e W3 ⟨ev, fs3, hP, rfl, h3⟩
                  obtain ⟨rfl, rfl⟩ := fiveP_dead hP (by simp [burntB]; omega)
                  clear hP hrm
                  go_wp2_with fail
                  refine (h3.crash 0 0 (by decide) (by decide)).mono ?_
                  rintro e W4 ⟨rfl, fs4, ha, h4⟩
                  have hl4 : fs4.length ≤ 1 := by
                    have := congrArg List.length ha
                    have := HOF.out.len
                    simp [abs] at *
                    omega
                  have hft := h4.fits
                  have h4w := h4.write [122] (by decide) none 0 [] (Or.inl ⟨rfl, none, 0, rfl, by simp [maxLen], fun _ => rfl⟩) (fun z hz => by cases hz)
                  clear ha h3
                  go_wp2_with fail
                  refine h4w.mono ?_
                  rintro e W5 ⟨ev, fs5, hP, rfl, h5⟩
                  obtain ⟨rfl, _⟩ := write_ok (by omega) (by simp; omega) (fiveP_go hP rfl none_z)
                  have B5 := h5.bel
                  clear hP h5 h4w h4
                  go_wp2_with fail
                  refine (known_any _).mono ?_
                  rintro e W6 ⟨rfl, B6⟩
                  replace B6 := B5.trans (B6.mono B5.size)
                  go_wp2_with fail
                  go_ret
                  exact ⟨rfl, B6⟩
    · by_cases hlt : i < rs.length
      · go_wp2_with fail
        refine (known_any _).mono ?_
        rintro e W1 ⟨rfl, B1⟩
        go_wp2_with fail
        go_ret
        exact ⟨rfl, B1⟩
      · go_wp2_with fail
        refine (known_any _).mono ?_
        rintro e W1 ⟨rfl, B1⟩
        go_wp2_with fail
        go_ret
        exact ⟨rfl, B1⟩
end Go.Proofs.Ythkgmnmdojmfgaa
