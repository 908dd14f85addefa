/-
  DiskPlays: both disks held against one plain list: the program's (Pd). What each call answers and leaves, in plain words.
-/
import Derived.Test.YthkgmnmdojmfgaaPlayPc
namespace Go.Proofs.Ythkgmnmdojmfgaa
open Go.RowKit Go.Maps Go.Sort
variable {w w' : World} {F : Nat → Prop} {sb : Nat} {u : Ud}

/-- What holds of every disk in plain words. -/
structure Gd (u : Ud) : Prop where
  ris : RisU u.us
  room : 0 ≤ u.room ∧ u.room ≤ 1073741824
  fits : (totU u.us : Int) ≤ u.room
  left : -1 ≤ u.left ∧ u.left < 9223372036854775808
  cnt : u.us.length ≤ 4096
  each : ∀ p ∈ u.us, p.2.2 ≤ p.2.1.length ∧ (∀ z ∈ p.2.1, 0 ≤ z ∧ z < 256) ∧ p.1.length ≤ maxLen
/-- The program's disk at block sb, all its blocks in F. -/
def Pd (w : World) (F : Nat → Prop) (sb : Nat) (u : Ud) : Prop := ∃ mb fs lit lf, Dk w F sb mb u.room fs lit lf ∧ abs fs = u.us ∧ u.left = if lit then lf else -1
theorem Pd.good (h : Pd w F sb u) : Gd u := by
  obtain ⟨mb, fs, lit, lf, hd, ha, hl⟩ := h
  refine ⟨by rw [← ha]; exact abs_ris hd.rising, hd.room0, by rw [← ha, abs_tot]; exact hd.fits, ?_, by rw [← ha, abs_length]; exact hd.cnt, fun p hp => ?_⟩
  · have := hd.left0
    rw [hl]
    split <;> omega
  · rw [← ha] at hp
    simp only [abs, List.mem_map] at hp
    obtain ⟨q, hq, rfl⟩ := hp
    obtain ⟨_, r2, r3, _⟩ := hd.rows q hq
    exact ⟨r2, r3, hd.name_le hq⟩
theorem Pd.keep (h : Pd w F sb u) (hk : ∀ k, F k → k < w.heap.size → w'.heap[k]? = w.heap[k]?) : Pd w' F sb u := by
  obtain ⟨mb, fs, lit, lf, hd, ha, hl⟩ := h
  exact ⟨mb, fs, lit, lf, hd.keep hk, ha, hl⟩
theorem Pd.to (h : Pd w F sb u) (hb : Below w.heap.size w w') : Pd w' F sb u := h.keep fun k _ hk => hb.block k hk
theorem Pd.more {G : Nat → Prop} (h : Pd w F sb u) (hg : ∀ k, F k → k < w.heap.size → G k) : Pd w G sb u := by
  obtain ⟨mb, fs, lit, lf, hd, ha, hl⟩ := h
  exact ⟨mb, fs, lit, lf, hd.more hg, ha, hl⟩
/-- What a call that may change the disk leaves. -/
def PRes (F : Nat → Prop) (sb : Nat) (u' : Ud) (w w' : World) : Prop := Pd w' (Pl F w.heap.size) sb u' ∧ Grows F w w'
theorem noneB_bad (x : Nm) : noneB x = badN x := by
  unfold noneB badN
  have e1 : decide ((x.length : Int) < 1) = decide (x.length < 1) := by
    by_cases h : x.length < 1
    · rw [decide_eq_true h, decide_eq_true (by omega)]
    · rw [decide_eq_false h, decide_eq_false (by omega)]
  have e2 : decide ((64 : Int) < (x.length : Int)) = decide (64 < x.length) := by
    by_cases h : 64 < x.length
    · rw [decide_eq_true h, decide_eq_true (by omega)]
    · rw [decide_eq_false h, decide_eq_false (by omega)]
  rw [e1, e2]
theorem five_conv {mb : Option Nat} {fs : Fls} {lit : Bool} {lf : Int} {P : Int → Fls → Prop} {e : Ending} (f : Us → Int × Us) (ns : List Nm) (nn : Bool) (hnn : nn = ns.any badN) (hP : ∀ ev fs', P ev fs' → ev = (f (abs fs)).1 ∧ abs fs' = (f (abs fs)).2)
    (hd : Dk w F sb mb u.room fs lit lf) (ha : abs fs = u.us) (hl : u.left = if lit then lf else -1) (hG : GRes (fiveP lit lf nn fs P) F sb u.room lit lf w e w') : e = .returned (.int .i64 (u.five ns f).1) ∧ PRes F sb (u.five ns f).2 w w' := by
  obtain ⟨ev, fs', hp, he, mb', hd', hg⟩ := hG
  have h0 := hd.left0
  have hb : burntB lit lf = decide (u.left = 0) := by
    unfold burntB
    rw [hl]
    cases lit with
    | true => by_cases h : lf = 0 <;> simp [h]
    | false => simp
  unfold fiveP at hp
  unfold Ud.five mayE
  by_cases hz : u.left = 0
  · rw [hb, decide_eq_true hz, if_pos rfl] at hp
    obtain ⟨rfl, hfs⟩ := hp
    simp only [hz, if_true]
    have e1 : burnL 9 lit lf = lf := by simp [burnL]
    rw [e1, hfs] at hd'
    exact ⟨by simpa using he, ⟨mb', fs, lit, lf, hd', ha, hl⟩, hg⟩
  · rw [hb, decide_eq_false hz, if_neg (by simp)] at hp
    simp only [hz, if_false]
    cases nn with
    | true =>
      rw [if_pos rfl] at hp
      obtain ⟨rfl, hfs⟩ := hp
      simp only [← hnn, if_true]
      have e1 : burnL 1 lit lf = lf := by simp [burnL]
      rw [e1, hfs] at hd'
      exact ⟨by simpa using he, ⟨mb', fs, lit, lf, hd', ha, hl⟩, hg⟩
    | false =>
      rw [if_neg (by simp)] at hp
      obtain ⟨h1, h2⟩ := hP ev fs' hp
      rw [ha] at h1 h2
      simp only [← hnn, Bool.false_eq_true, if_false, ne_eq, not_true_eq_false]
      refine ⟨by rw [he, h1], ⟨mb', fs', lit, burnL ev lit lf, hd', h2, ?_⟩, hg⟩
      show (if (f u.us).1 = 0 then didL u.left else u.left) = _
      rw [← h1, hl]
      unfold burnL didL
      by_cases hev : ev = 0
      · cases lit with
        | true =>
          have : lf ≠ 0 := fun e => hz (by rw [hl]; simpa using e)
          simp only [hev, if_true, and_true]
          rw [if_pos (by omega)]
        | false => simp [hev]
      · cases lit <;> simp [hev]
theorem syncP_u {fs : Fls} {x : Nm} : ∀ ev fs', syncP fs x ev fs' → ev = (syU x (abs fs)).1 ∧ abs fs' = (syU x (abs fs)).2 := by
  rintro ev fs' ⟨rfl, rfl⟩
  unfold syU syncF none7
  rw [abs_lk]
  cases hl : lk fs x with
  | none => exact ⟨rfl, rfl⟩
  | some f => exact ⟨rfl, by simp [abs_pt]⟩
theorem removeP_u {fs : Fls} {x : Nm} : ∀ ev fs', removeP fs x ev fs' → ev = (rmU x (abs fs)).1 ∧ abs fs' = (rmU x (abs fs)).2 := by
  rintro ev fs' ⟨rfl, rfl⟩
  unfold rmU none7
  rw [abs_lk]
  cases hl : lk fs x with
  | none => exact ⟨rfl, by rw [dl_of_none (lk_none hl)]; rfl⟩
  | some f => exact ⟨rfl, by simp [abs_dl]⟩
theorem renameP_u {fs : Fls} {x y : Nm} : ∀ ev fs', renameP fs x y ev fs' → ev = (rnU x y (abs fs)).1 ∧ abs fs' = (rnU x y (abs fs)).2 := by
  rintro ev fs' ⟨rfl, rfl⟩
  unfold rnU renF none7
  rw [abs_lk]
  cases hl : lk fs x with
  | none => exact ⟨rfl, rfl⟩
  | some f => exact ⟨rfl, by simp [abs_pt, abs_dl]⟩
theorem cutP_u {fs : Fls} {x : Nm} {m : Int} : ∀ ev fs', cutP fs x m ev fs' → ev = (cuU x m (abs fs)).1 ∧ abs fs' = (cuU x m (abs fs)).2 := by
  rintro ev fs' ⟨rfl, rfl⟩
  unfold cuU cutE cutF
  rw [abs_lk]
  cases hl : lk fs x with
  | none => exact ⟨rfl, rfl⟩
  | some f =>
    simp only [Option.map_some]
    by_cases hc : m < 0 ∨ (f.zs.length : Int) < m
    · simp only [if_pos hc]
      exact ⟨trivial, trivial⟩
    · simp only [if_neg hc]
      exact ⟨trivial, by rw [abs_pt]; rfl⟩
theorem at0_u (fs : Fls) (x : Nm) : ((at0 fs x).zs, (at0 fs x).l) = at0U (abs fs) x := by
  unfold at0 at0U
  rw [abs_lk]
  cases lk fs x <;> rfl
theorem wfull_u (fs : Fls) (x : Nm) (m : Nat) (room : Int) : wfull fs x m room = fullU (abs fs) x m room := by
  unfold wfull fullU
  rw [abs_tot, abs_lk, abs_length, Option.isSome_map]
theorem writeP_u {fs : Fls} {x : Nm} {ps : List Int} {room : Int} : ∀ ev fs', writeP fs x ps room ev fs' → ev = (wrU x ps room (abs fs)).1 ∧ abs fs' = (wrU x ps room (abs fs)).2 := by
  rintro ev fs' ⟨rfl, v, rfl⟩
  unfold wrU wrE wrF
  rw [wfull_u]
  cases fullU (abs fs) x ps.length room with
  | true => exact ⟨rfl, rfl⟩
  | false =>
    refine ⟨rfl, ?_⟩
    have := at0_u fs x
    simp only [Bool.false_eq_true, if_false, abs_pt]
    rw [← this]
/-- The five. -/
theorem pSync (h : Pd w F sb u) (x : Nm) (hx : x.length ≤ maxLen) : Calls Try.prog 19 #[.pointer (some ⟨sb, 0, none⟩), encStr x] w fun e w' => e = .returned (.int .i64 (u.five [x] (syU x)).1) ∧ PRes F sb (u.five [x] (syU x)).2 w w' := by
  obtain ⟨mb, fs, lit, lf, hd, ha, hl⟩ := h
  exact (Sync_any hd x hx).mono fun e w' hG => five_conv (syU x) [x] (noneB x) (by simp [noneB_bad]) syncP_u hd ha hl hG
theorem pRemove (h : Pd w F sb u) (x : Nm) (hx : x.length ≤ maxLen) : Calls Try.prog 22 #[.pointer (some ⟨sb, 0, none⟩), encStr x] w fun e w' => e = .returned (.int .i64 (u.five [x] (rmU x)).1) ∧ PRes F sb (u.five [x] (rmU x)).2 w w' := by
  obtain ⟨mb, fs, lit, lf, hd, ha, hl⟩ := h
  exact (Remove_any hd x hx).mono fun e w' hG => five_conv (rmU x) [x] (noneB x) (by simp [noneB_bad]) removeP_u hd ha hl hG
theorem pCut (h : Pd w F sb u) (x : Nm) (hx : x.length ≤ maxLen) (m : Int) (hm : (Lit.int .i64 m).wf = true) : Calls Try.prog 23 #[.pointer (some ⟨sb, 0, none⟩), encStr x, .int .i64 m] w fun e w' => e = .returned (.int .i64 (u.five [x] (cuU x m)).1) ∧ PRes F sb (u.five [x] (cuU x m)).2 w w' := by
  obtain ⟨mb, fs, lit, lf, hd, ha, hl⟩ := h
  exact (Cut_any hd x hx m hm).mono fun e w' hG => five_conv (cuU x m) [x] (noneB x) (by simp [noneB_bad]) cutP_u hd ha hl hG
theorem pRename (h : Pd w F sb u) (x y : Nm) (hx : x.length ≤ maxLen) (hy : y.length ≤ maxLen) : Calls Try.prog 24 #[.pointer (some ⟨sb, 0, none⟩), encStr x, encStr y] w fun e w' => e = .returned (.int .i64 (u.five [x, y] (rnU x y)).1) ∧ PRes F sb (u.five [x, y] (rnU x y)).2 w w' := by
  obtain ⟨mb, fs, lit, lf, hd, ha, hl⟩ := h
  exact (Rename_any hd x y hx hy).mono fun e w' hG => five_conv (rnU x y) [x, y] (noneB x || noneB y) (by simp [noneB_bad]) renameP_u hd ha hl hG
theorem pWrite (h : Pd w F sb u) (x : Nm) (hx : x.length ≤ maxLen) (ap : Option Addr) (cp : Nat) (ps : List Int) (hps : Bs w (.slice ap ps.length cp) ps) (hby : Byt ps) : Calls Try.prog 15 #[.pointer (some ⟨sb, 0, none⟩), encStr x, .slice ap ps.length cp] w fun e w' => e = .returned (.int .i64 (u.five [x] (wrU x ps u.room)).1) ∧ PRes F sb (u.five [x] (wrU x ps u.room)).2 w w' := by
  obtain ⟨mb, fs, lit, lf, hd, ha, hl⟩ := h
  exact (Write_any hd x hx ap cp ps hps hby).mono fun e w' hG => five_conv (wrU x ps u.room) [x] (noneB x) (by simp [noneB_bad]) writeP_u hd ha hl hG
def Ud.fuse (u : Ud) (n : Int) : Ud := ⟨u.room, u.us, max (-1) n⟩
def Ud.crash (u : Ud) (keep t : Int) : Ud := ⟨u.room, u.us.map (crA keep.toNat t), -1⟩
def Ud.copy (u : Ud) : Ud := ⟨u.room, u.us, -1⟩
theorem pFuse (h : Pd w F sb u) (n : Int) (hn : (Lit.int .i64 n).wf = true) : Calls Try.prog 21 #[.pointer (some ⟨sb, 0, none⟩), .int .i64 n] w fun e w' => e = .returned (.tuple #[]) ∧ Pd w' F sb (u.fuse n) ∧ Grows F w w' := by
  obtain ⟨mb, fs, lit, lf, hd, ha, hl⟩ := h
  refine (Fuse_any hd n hn).mono ?_
  rintro e w' ⟨he, hd', hg⟩
  refine ⟨he, ⟨mb, fs, _, _, hd', ha, ?_⟩, hg⟩
  show max (-1) n = _
  by_cases h0 : 0 ≤ n
  · rw [decide_eq_true h0, if_pos rfl]; omega
  · rw [decide_eq_false h0, if_neg (by simp)]; omega
theorem pCrash (h : Pd w F sb u) (keep t : Int) (hk : keep < 9223372036854775808) (ht : 0 ≤ t ∧ t < 256) : Calls Try.prog 16 #[.pointer (some ⟨sb, 0, none⟩), .int .i64 keep, .int .u8 t] w fun e w' => e = .returned (.tuple #[]) ∧ PRes F sb (u.crash keep t) w w' := by
  obtain ⟨mb, fs, lit, lf, hd, ha, hl⟩ := h
  refine (Crash_any hd keep t hk ht).mono ?_
  rintro e w' ⟨he, fs', ha', mb', hd', hg⟩
  exact ⟨he, ⟨mb', fs', false, 0, hd', by rw [ha', ha]; rfl, rfl⟩, hg⟩
theorem pCopy (h : Pd w F sb u) : Calls Try.prog 13 #[.pointer (some ⟨sb, 0, none⟩)] w fun e w' => e = .returned (.pointer (some ⟨w.heap.size, 0, none⟩)) ∧ Pd w' (fun k => w.heap.size ≤ k) w.heap.size u.copy ∧ Below w.heap.size w w' := by
  obtain ⟨mb, fs, lit, lf, hd, ha, hl⟩ := h
  refine (Copy_any hd).mono ?_
  rintro e w' ⟨he, mb', fs', hd', ha', hb⟩
  exact ⟨he, ⟨mb', fs', false, 0, hd', by rw [ha', ha]; rfl, rfl⟩, hb⟩
theorem pUsed (h : Pd w F sb u) : Calls Try.prog 26 #[.pointer (some ⟨sb, 0, none⟩)] w fun e w' => e = .returned (.int .i64 (totU u.us : Int)) ∧ w' = w := by
  obtain ⟨mb, fs, lit, lf, hd, ha, hl⟩ := h
  rw [← ha, abs_tot]
  exact Used_any hd
def rdE (us : Us) (x : Nm) : Int := if (lkU us x).isSome then 0 else 7
theorem pRead (h : Pd w F sb u) (x : Nm) (hx : x.length ≤ maxLen) : Calls Try.prog 20 #[.pointer (some ⟨sb, 0, none⟩), encStr x] w fun e w' => ∃ ao cap, e = .returned (.tuple #[.slice ao (at0U u.us x).1.length cap, .int .i64 (rdE u.us x)]) ∧ Ow w' w.heap.size (.slice ao (at0U u.us x).1.length cap) (at0U u.us x).1 ∧ Below w.heap.size w w' := by
  obtain ⟨mb, fs, lit, lf, hd, ha, hl⟩ := h
  have e1 := at0_u fs x
  have e2 : rdE u.us x = none7 fs x := by
    unfold rdE none7
    rw [← ha, abs_lk, Option.isSome_map]
  rw [ha] at e1
  rw [← e1, e2]
  exact Read_any hd x hx
theorem pNames (h : Pd w F sb u) : Calls Try.prog 25 #[.pointer (some ⟨sb, 0, none⟩)] w fun e w' => ∃ v, e = .returned v ∧ Ot w' w.heap.size v (u.us.map (·.1)) ∧ Below w.heap.size w w' := by
  obtain ⟨mb, fs, lit, lf, hd, ha, hl⟩ := h
  refine (Names_any hd).mono ?_
  rintro e w' ⟨v, he, hr, hb⟩
  refine ⟨v, he, ?_, hb⟩
  rw [← ha, abs_names]
  unfold Ot
  rw [show (nms fs).length = fs.length by simp [nms]]
  exact hr
theorem pNew (room : Int) (w : World) (h : 0 ≤ room ∧ room ≤ 1073741824) : Calls Try.prog 11 #[.int .i64 room] w fun e w' => e = .returned (.tuple #[.pointer (some ⟨w.heap.size, 0, none⟩), .int .i64 0]) ∧ Pd w' (fun k => k = w.heap.size) w.heap.size ⟨room, [], -1⟩ ∧ Below w.heap.size w w' := by
  refine (New_any room w h).mono ?_
  rintro e w' ⟨he, hd, hb⟩
  exact ⟨he, ⟨none, [], false, 0, hd, rfl, rfl⟩, hb⟩
end Go.Proofs.Ythkgmnmdojmfgaa
