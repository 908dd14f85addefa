/-
  Joined from: SegKnow, SegNo.
-/
import Derived.Test.YtnkjhooeklodcaaGreatDoorM47
import Derived.Lib.SlBytesConst
import Derived.Laws.IdiomStrings
section
/-
  The law's known: what was synced, and not more. It answers true, and writes nothing that was there.
-/
namespace Go.Proofs.YtnkjhooeklodcaaGreatDoor
open Go.RowKit Go.Maps Go.Sort
open Fr (entN takeR decE)

variable {w w' : World}
theorem xq_take (m i : Nat) (t : Int) (ys : List Int) (l : Nat) (h : l ≤ m) : (xq m i t ys).take l = ys.take l := by
  apply List.ext_getElem
  · simp [xq]
  · intro j h1 h2
    have hj : j < l := by rw [List.length_take] at h1; omega
    simp only [List.getElem_take, xq, List.getElem_mapIdx]
    rw [if_neg (by omega)]
/-- What lasted is there behind a crash, and some bytes behind it. -/
theorem crB_form (zs : List Int) (l k : Nat) (t : Int) (hl : l ≤ zs.length) : ∃ tail, crB zs l k t = zs.take l ++ tail ∧ tail.length = k % (zs.length - l + 1) := by
  have hn := crN_le zs l k hl
  have hlen : (crB zs l k t).length = crN zs l k := by
    unfold crB
    rw [xq_length, List.length_take]
    omega
  have h1 : (crB zs l k t).take l = zs.take l := by
    unfold crB crM
    rw [xq_take _ _ _ _ _ (Nat.le_max_left _ _), List.take_take, Nat.min_eq_left]
    unfold crN
    omega
  refine ⟨(crB zs l k t).drop l, ?_, ?_⟩
  · rw [← h1, List.take_append_drop]
  · rw [List.length_drop, hlen]
    unfold crN
    omega
theorem takeR_short {zs : List Int} (n : Int) (h : zs.length < 8) : takeR n zs = none := by
  unfold Fr.takeR
  rw [if_neg]
  intro e
  have h1 := Fr.headE_short h
  rw [Fr.decE_head (by rw [h1]; decide), h1] at e
  exact absurd e.1 (by decide)
/-- The name of the first segment. -/
def nm1 : Nm := nameN [97] 1
theorem nm1_bad : badN nm1 = false := by
  unfold badN nm1
  rw [nameN_len [97] 1 (by decide)]
  decide
theorem full_no {us : Us} {x : Nm} {m : Nat} {room : Int} (h1 : (totU us : Int) + (m : Int) ≤ room) (h2 : us.length < 4096) : fullU us x m room = false := by
  unfold fullU
  rw [decide_eq_false (by omega), decide_eq_false (by omega)]
  simp
theorem wr_free {u : Ud} (hl : u.left = -1) {x : Nm} (hb : badN x = false) (b : List Int) (h1 : (totU u.us : Int) + (b.length : Int) ≤ u.room) (h2 : u.us.length < 4096) : u.five [x] (wrU x b u.room) = (0, ⟨u.room, ptU u.us x ((at0U u.us x).1 ++ b, (at0U u.us x).2), -1⟩) := by
  rw [five_free hl hb]
  unfold wrU
  rw [if_neg (by rw [full_no h1 h2]; decide)]
theorem ap_first (p : List Int) (sz : Nat) (hp : p.length ≤ 1000) : apO [97] ⟨10000, [], -1⟩ [] 0 [] sz false p = ⟨1, 0, ⟨10000, [(nm1, entN 1 p, 0)], -1⟩, [p], 0, [1], (entN 1 p).length, false⟩ := by
  have hb := (ent_le 0 p).2
  have e1 : (((([] : List (List Int)).length : Nat) : Int) + 1) = 1 := rfl
  rw [show (((0 : Nat) : Int) + 1) = 1 from rfl] at hb
  unfold apO
  rw [if_neg (by decide), if_neg (by omega), if_neg (fun e => e.1 rfl)]
  have e2 : syS ⟨10000, [], -1⟩ ([] : List (List Int)).length 0 (nameN [97] (lastS [])) [] = (0, ⟨10000, [], -1⟩, 0, false) := if_pos rfl
  rw [e2, if_neg (fun e => e rfl), e1]
  have e3 := wr_free (u := ⟨10000, [], -1⟩) rfl nm1_bad (entN 1 p) (by show ((0 : Nat) : Int) + ((entN 1 p).length : Int) ≤ 10000; omega) (by decide)
  have e4 : (⟨10000, [], -1⟩ : Ud).five [nm1] (wrU nm1 (entN 1 p) 10000) = (0, ⟨10000, [(nm1, entN 1 p, 0)], -1⟩) := e3
  show apW ((⟨10000, [], -1⟩ : Ud).five [nm1] (wrU nm1 (entN 1 p) 10000)) [] p 0 [] [1] sz (entN 1 p).length = _
  rw [e4]
  rfl
theorem ap_more (zs : List Int) (l : Nat) (ps : List (List Int)) (las sz : Nat) (p : List Int) (hp : p.length ≤ 1000) (hz : sz < 512) (hzs : zs.length ≤ 5000) : apO [97] ⟨10000, [(nm1, zs, l)], -1⟩ ps las [1] sz false p = ⟨(ps.length : Int) + 1, 0, ⟨10000, [(nm1, zs ++ entN ((ps.length : Int) + 1) p, l)], -1⟩, ps ++ [p], las, [1], sz + (entN ((ps.length : Int) + 1) p).length, false⟩ := by
  have hb := (ent_le ps.length p).2
  unfold apO
  rw [if_neg (by decide), if_neg (by omega), if_pos ⟨by simp, hz⟩]
  have e3 := wr_free (u := ⟨10000, [(nm1, zs, l)], -1⟩) rfl nm1_bad (entN ((ps.length : Int) + 1) p) (by show ((totU [(nm1, zs, l)] : Nat) : Int) + _ ≤ 10000; simp [totU]; omega) (by show 1 < 4096; decide)
  have e4 : ptU [(nm1, zs, l)] nm1 ((at0U [(nm1, zs, l)] nm1).1 ++ entN ((ps.length : Int) + 1) p, (at0U [(nm1, zs, l)] nm1).2) = [(nm1, zs ++ entN ((ps.length : Int) + 1) p, l)] := by
    simp [ptU, dlU, insU, at0U, lkU]
  have e5 : (⟨10000, [(nm1, zs, l)], -1⟩ : Ud).five [nm1] (wrU nm1 (entN ((ps.length : Int) + 1) p) 10000) = (0, ⟨10000, [(nm1, zs ++ entN ((ps.length : Int) + 1) p, l)], -1⟩) := by
    rw [← e4]; exact e3
  show apW ((⟨10000, [(nm1, zs, l)], -1⟩ : Ud).five [nm1] (wrU nm1 (entN ((ps.length : Int) + 1) p) 10000)) ps p las [1] [1] sz (sz + (entN ((ps.length : Int) + 1) p).length) = _
  rw [e5]
  rfl
theorem sy_one (zs : List Int) (l : Nat) (ps : List (List Int)) (las sz : Nat) (h : las ≠ ps.length) : syO [97] ⟨10000, [(nm1, zs, l)], -1⟩ ps las [1] sz false = ⟨0, 0, ⟨10000, [(nm1, zs, zs.length)], -1⟩, ps, ps.length, [1], sz, false⟩ := by
  have e1 : (⟨10000, [(nm1, zs, l)], -1⟩ : Ud).five [nm1] (syU nm1) = (0, ⟨10000, [(nm1, zs, zs.length)], -1⟩) := by
    rw [five_free rfl nm1_bad]
    simp [syU, lkU, ptU, dlU, insU]
  have e2 : syL ⟨10000, [(nm1, zs, l)], -1⟩ ps.length las nm1 false = (0, ⟨10000, [(nm1, zs, zs.length)], -1⟩, ps.length, false) := by
    unfold syL
    rw [if_neg (by decide), if_neg h, e1]
    simp
  unfold syO
  rw [show nameN [97] (lastS [1]) = nm1 from rfl, e2]
/-- What an opening reads behind the crash. -/
theorem know_read (ps : List (List Int)) (hps : ∀ q ∈ ps, Epl q) (hne : ps ≠ []) (hl : ps.length ≤ 1000) (b3 : List Int) (hb3 : 13 ≤ b3.length) (t : Int) :
    (openF [97] ((⟨10000, [(nm1, entsN 0 ps ++ b3, (entsN 0 ps).length)], -1⟩ : Ud).crash 3 t)).2.1 = ps := by
  obtain ⟨tail, e1, e2⟩ := crB_form (entsN 0 ps ++ b3) (entsN 0 ps).length 3 t (by rw [List.length_append]; omega)
  rw [List.take_left] at e1
  rw [List.length_append, Nat.add_sub_cancel_left, Nat.mod_eq_of_lt (by omega)] at e2
  have hc : (⟨10000, [(nm1, entsN 0 ps ++ b3, (entsN 0 ps).length)], -1⟩ : Ud).crash 3 t = ⟨10000, [(nm1, entsN 0 ps ++ tail, crN (entsN 0 ps ++ b3) (entsN 0 ps).length 3)], -1⟩ := by
    show (⟨10000, [crA 3 t (nm1, entsN 0 ps ++ b3, (entsN 0 ps).length)], -1⟩ : Ud) = _
    unfold crA
    simp only [e1]
  rw [hc]
  generalize crN (entsN 0 ps ++ b3) (entsN 0 ps).length 3 = l
  have hseg : isSeg nm1 [97] = true := isSeg_name [97] (by decide)
  have hL : segsN (([(nm1, entsN 0 ps ++ tail, l)] : Us).map (·.1)) [97] = [nm1] := by simp [segsN, hseg]
  have hnum : numV (nm1.drop [97].length) = 1 := (seg_name hseg (by decide)).1 rfl
  have hat : (at0U [(nm1, entsN 0 ps ++ tail, l)] nm1).1 = entsN 0 ps ++ tail := by simp [at0U, lkU]
  have hrd := rdF_ents ps 0 tail hps (by omega) (takeR_short _ (by omega))
  have hlen0 : (entsN 0 ps).length ≠ 0 := by
    cases ps with
    | nil => exact absurd rfl hne
    | cons q qs =>
      have := (ent_le 0 q).1
      simp only [entsN, List.length_append]
      omega
  have hop : (opF [97] ⟨10000, [(nm1, entsN 0 ps ++ tail, l)], -1⟩ [nm1] 1).2.1 = ps := by
    simp only [opF, hat, Nat.sub_self, hrd]
    rw [if_neg (by rw [List.length_append]; omega), if_neg (by simp [allU]), if_neg (fun e => e.elim (fun h => h hnum) hlen0)]
  unfold openF
  simp only [hL]
  split
  · exact hop
  · exact hop
theorem DoP.cx {B pb sb wb lb xb k : Nat} {o : ApO} {e : Ending} (h : DoP w B pb sb wb lb xb o k e w') (hc : Cx w B) : Cx w' B := hc.grows h.2.1 fun _ e => e
theorem byt1 (z : Int) (h : 0 ≤ z ∧ z < 256) : Byt [z] := fun y hy => by rw [List.mem_singleton.1 hy]; exact h
/-- A state that is kept on and on. -/
def Kn (w : World) (B pb : Nat) (u : Ud) (ps : List (List Int)) (las : Nat) (ss : List Nat) (k : Nat) (w' : World) : Prop :=
  Grows (fun j => B ≤ j) w w' ∧ Cx w' B ∧ ∃ sb wb lb xb sz, Hs w' B (fun j => j < w'.heap.size) pb sb wb lb xb u ps las ss sz false k ∧ (ss ≠ [] → lenU u.us (nameN [97] (lastS ss)) = sz)
theorem Kn.mk {w0 : World} {B pb sb wb lb xb las sz k : Nat} {u : Ud} {ps : List (List Int)} {ss : List Nat} (hg : Grows (fun j => B ≤ j) w0 w) (hc : Cx w B) (h : Hs w B (fun j => j < w.heap.size) pb sb wb lb xb u ps las ss sz false k) : Kn w0 B pb u ps las ss k w := by
  refine ⟨hg, hc, sb, wb, lb, xb, sz, h, ?_⟩
  obtain ⟨_, _, _, _, _, _, _, _, _, h4, _⟩ := h
  exact h4.szq
theorem kn_append {w0 w1 : World} {B pb las k : Nat} {u u' : Ud} {ps ps' : List (List Int)} {ss ss' : List Nat} {las' : Nat} (h : Kn w0 B pb u ps las ss k w1) (hk : k ≤ 1000) (z : Int) (hz : 0 ≤ z ∧ z < 256) (ho : ∀ sz, (ss ≠ [] → lenU u.us (nameN [97] (lastS ss)) = sz) → ∃ sz' n, apO [97] u ps las ss sz false [z] = ⟨n, 0, u', ps', las', ss', sz', false⟩) :
    Calls Tryz.prog 12 #[.pointer (some ⟨pb, 0, none⟩), .agg #[.int .i64 1, .int .i64 0, .slice (some ⟨w1.heap.size, 0, none⟩) 1 1, .int .u8 0]] (w1.alloc (.cells #[.int .u8 z] 5 (1, 2))) fun e w' => e = .returned (.bool true) ∧ Kn w0 B pb u' ps' las' ss' (k + 1) w' := by
  obtain ⟨hg, hc, sb, wb, lb, xb, sz, hH, hsz⟩ := h
  obtain ⟨sz', n, e⟩ := ho sz hsz
  have hA : Below w1.heap.size w1 (w1.alloc (.cells #[.int .u8 z] 5 (1, 2))) := (Below.refl _ _).alloc (Nat.le_refl _) _
  have hbs : Bs (w1.alloc (.cells #[.int .u8 z] 5 (1, 2))) (.slice (some ⟨w1.heap.size, 0, none⟩) [z].length 1) [z] := Bs_of_block (zs := [z]) (heap_alloc_new w1 _) (by simp [maxLen])
  have hcA : Cx (w1.alloc (.cells #[.int .u8 z] 5 (1, 2))) B := hc.below (hA.mono hc.bw)
  have C := does1 (hH.below hA) hk hcA (fun j hj => Nat.lt_of_lt_of_le hj hA.size) 0 (some ⟨w1.heap.size, 0, none⟩) 1 [z] hbs (byt1 z hz) (by simp) (fun j hj => Or.inr fun e => by
    simp only [Value.ownBlock, Option.some.injEq] at hj
    have e' : j < w1.heap.size := e
    omega) 0
  rw [e] at C
  refine C.mono fun e w' hD => ?_
  have hcx := hD.cx hcA
  obtain ⟨rfl, hg2, hH2⟩ := hD
  refine ⟨rfl, Kn.mk ⟨hg2.os.trans (hA.os.trans hg.os), hg2.tape.trans (hA.tape.trans hg.tape), hg2.output.trans (hA.output.trans hg.output), Nat.le_trans hg.size (Nat.le_trans hA.size hg2.size), fun j hj hn => ?_⟩ hcx hH2⟩
  have h1 := hg.size
  have h2 := hA.size
  rw [hg2.block j (by omega) hn, hA.block j (by omega)]
  exact hg.block j hj hn
theorem kn_sync {w0 w1 : World} {B pb las k : Nat} {u u' : Ud} {ps : List (List Int)} {ss : List Nat} {las' : Nat} (h : Kn w0 B pb u ps las ss k w1) (hk : k ≤ 1000) (ho : ∀ sz, syO [97] u ps las ss sz false = ⟨0, 0, u', ps, las', ss, sz, false⟩) :
    Calls Tryz.prog 12 #[.pointer (some ⟨pb, 0, none⟩), .agg #[.int .i64 2, .int .i64 0, .slice none 0 0, .int .u8 0]] w1 fun e w' => e = .returned (.bool true) ∧ Kn w0 B pb u' ps las' ss (k + 1) w' := by
  obtain ⟨hg, hc, sb, wb, lb, xb, sz, hH, hsz⟩ := h
  have C := does2 hH hk hc 0 (.slice none 0 0) ⟨_, _, _, rfl⟩ 0
  rw [ho] at C
  refine C.mono fun e w' hD => ?_
  have hcx := hD.cx hc
  obtain ⟨rfl, hg2, hH2⟩ := hD
  exact ⟨rfl, Kn.mk (hg.trans hg2 fun j hj => Or.inl hj) hcx hH2⟩
theorem kn_crash {w0 w1 : World} {B pb las k : Nat} {u : Ud} {ps ps' : List (List Int)} {ss : List Nat} (h : Kn w0 B pb u ps las ss k w1) (n : Int) (hn : (Lit.int .i64 n).wf = true) (ho : (openF [97] (u.crash n 0)).2.1 = ps') :
    Calls Tryz.prog 12 #[.pointer (some ⟨pb, 0, none⟩), .agg #[.int .i64 3, .int .i64 n, .slice none 0 0, .int .u8 0]] w1 fun e w' => e = .returned (.bool true) ∧ ∃ u' ss', Kn w0 B pb u' ps' ps'.length ss' 0 w' := by
  obtain ⟨hg, hc, sb, wb, lb, xb, sz, hH, hsz⟩ := h
  refine (does3 hH hc n hn (.slice none 0 0) ⟨_, _, _, rfl⟩ 0 (by decide)).mono ?_
  rintro e w' ⟨rfl, hg2, _, lb2, xb2, sz2, hH2⟩
  rw [ho] at hH2
  exact ⟨rfl, _, _, Kn.mk (hg.trans hg2 fun j hj => Or.inl hj) (hc.grows hg2 fun _ e => e) hH2⟩
set_option maxHeartbeats 8000000 in
set_option maxRecDepth 100000 in
theorem known_any (w : World) (hc : Cx w w.heap.size) : Calls Tryz.prog 10 #[] w fun e w' => e = .returned (.bool true) ∧ Below w.heap.size w w' := by
  have kc := fun (w : World) (C : Array Value) (n c : Nat) => Lib.run_convert_bytes_const (P := Tryz.prog) w 38 5 C n c Tryz.underlying38 Tryz.underlying5
  have CS := start_any 10000 (by decide) w hc
  have HC := hid_into hc
  clear hc
  go_enter Tryz.func10, Tryz.ntmps10
  go_wp2_with fail
  refine CS.mono ?_
  rintro e w1 ⟨pb, rfl, hb1, sb, wb, lb, xb, sz, hH1⟩
  have hK1 : Kn w w.heap.size pb ⟨10000, [], -1⟩ [] 0 [] 0 w1 := Kn.mk ⟨hb1.os, hb1.tape, hb1.output, hb1.size, fun j _ hn => hb1.block j (by omega)⟩ (HC.out.below hb1) hH1
  have el1 : (entN 1 [97]).length = 14 := by rw [show (1 : Int) = ((0 : Nat) : Int) + 1 from rfl, ent_len]; rfl
  have el2 : (entN 2 [98]).length = 14 := by rw [show (2 : Int) = ((1 : Nat) : Int) + 1 from rfl, ent_len]; rfl
  have el3 : (entN 3 [99]).length = 14 := by rw [show (3 : Int) = ((2 : Nat) : Int) + 1 from rfl, ent_len]; rfl
  have C1 := kn_append hK1 (by decide) 97 (by decide) fun sz _ => ⟨_, _, ap_first [97] sz (by decide)⟩
  clear CS hH1 hK1
  go_wp2_with fail
  refine C1.mono ?_
  rintro e w2 ⟨rfl, hK2⟩
  have at1 : ∀ (zs : List Int) (l : Nat), lenU [(nm1, zs, l)] (nameN [97] (lastS [1])) = zs.length := fun zs l => by
    show lenU [(nm1, zs, l)] nm1 = _
    simp [lenU, at0U, lkU]
  have C2 := kn_append (u' := ⟨10000, [(nm1, entN 1 [97] ++ entN 2 [98], 0)], -1⟩) (ps' := [[97], [98]]) (ss' := [1]) (las' := 0) hK2 (by decide) 98 (by decide) fun sz hsz => by
    have := hsz (by simp)
    rw [at1, el1] at this
    exact ⟨_, _, ap_more (entN 1 [97]) 0 [[97]] 0 sz [98] (by decide) (by omega) (by omega)⟩
  clear C1 hK2
  go_wp2_with fail
  refine C2.mono ?_
  rintro e w3 ⟨rfl, hK3⟩
  have C3 := kn_sync (u' := ⟨10000, [(nm1, entN 1 [97] ++ entN 2 [98], 28)], -1⟩) (las' := 2) hK3 (by decide) fun sz => by
    have := sy_one (entN 1 [97] ++ entN 2 [98]) 0 [[97], [98]] 0 sz (by decide)
    rw [List.length_append, el1, el2] at this
    exact this
  clear C2 hK3
  go_wp2_with fail
  refine C3.mono ?_
  rintro e w4 ⟨rfl, hK4⟩
  have C4 := kn_append (u' := ⟨10000, [(nm1, entN 1 [97] ++ entN 2 [98] ++ entN 3 [99], 28)], -1⟩) (ps' := [[97], [98], [99]]) (ss' := [1]) (las' := 2) hK4 (by decide) 99 (by decide) fun sz hsz => by
    have := hsz (by simp)
    rw [at1, List.length_append, el1, el2] at this
    exact ⟨_, _, ap_more (entN 1 [97] ++ entN 2 [98]) 28 [[97], [98]] 2 sz [99] (by decide) (by omega) (by rw [List.length_append]; omega)⟩
  clear C3 hK4
  go_wp2_with fail
  refine C4.mono ?_
  rintro e w5 ⟨rfl, hK5⟩
  have e12 : entsN 0 [[97], [98]] = entN 1 [97] ++ entN 2 [98] := by
    show entN _ _ ++ (entN _ _ ++ []) = _
    rw [List.append_nil]
    rfl
  have hE : ∀ q ∈ ([[97], [98]] : List (List Int)), Epl q := by
    intro q hq
    rcases List.mem_cons.1 hq with rfl | hq
    · exact ⟨byt1 97 (by decide), by decide⟩
    · rw [List.mem_singleton.1 hq]
      exact ⟨byt1 98 (by decide), by decide⟩
  have hkr := know_read [[97], [98]] hE (by simp) (by decide) (entN 3 [99]) (by omega) 0
  rw [e12, List.length_append, el1, el2] at hkr
  have C5 := kn_crash hK5 3 (by decide) hkr
  clear C4 hK5
  go_wp2_with fail
  refine C5.mono ?_
  rintro e w6 ⟨rfl, u6, ss6, hg6, hc6, sb6, wb6, lb6, xb6, sz6, hH6, _⟩
  have hb6 : Below w.heap.size w w6 := ⟨hg6.os, hg6.tape, hg6.output, hg6.size, fun j hj => hg6.block j hj (by omega)⟩
  have cp6 : w6.cell? ⟨pb, 2, none⟩ = some (.pointer (some ⟨lb6, 0, none⟩)) := hH6.pair.cell 2
  obtain ⟨D6, F6, G6, H6, es6, fs6, hT6, he6, _, _, _⟩ := hH6
  obtain ⟨ev6, nv6, hl6⟩ := hT6.l.l
  have hel6 : es6.length = 2 := by
    have := congrArg List.length he6
    simpa using this
  have CN := LNext_any w6 hl6
  have hpb6 := hT6.p.lt
  rw [hel6] at CN
  obtain ⟨r, hr⟩ : ∃ r, es6[1]? = some r := ⟨_, List.getElem?_eq_getElem (by omega)⟩
  have hr2 : r.2 = [98] := by
    have h1 : (es6.map (·.2))[1]? = some r.2 := by rw [List.getElem?_map, hr]; rfl
    rw [he6] at h1
    simpa using h1.symm
  have CE := fun (w7 : World) (hs : Sm w6 w7) => LEntry_any 1 r w7 (hl6.sm hs) hr
  rw [hr2] at CE
  clear C5 hT6 hl6 hr he6
  go_wp2_with fail
  refine CN.mono ?_
  rintro e w7 ⟨rfl, hs7⟩
  have cp7 : w7.cell? ⟨pb, 2, none⟩ = some (.pointer (some ⟨lb6, 0, none⟩)) := hs7.cellH cp6
  clear CN
  go_wp2_with fail
  refine (CE w7 hs7).mono ?_
  rintro e w8 ⟨ao8, cap8, rfl, ho8, hb8⟩
  have b9 : Bs (w8.alloc (.cells #[.int .u8 98] 5 (1, 2))) (.slice (some ⟨w8.heap.size, 0, none⟩) 1 1) [98] := Bs_of_block (zs := [98]) (heap_alloc_new w8 _) (by simp [maxLen])
  have b8 : Bs (w8.alloc (.cells #[.int .u8 98] 5 (1, 2))) (.slice ao8 [98].length cap8) [98] := ho8.bs.below ((Below.refl _ w8).alloc (Nat.le_refl _) _) (Nat.le_refl _)
  have CQ := same_any _ _ _ _ _ b8 b9
  have hz7 := hs7.size
  have hb89 : Below w.heap.size w w8 := (hb6.trans (hs7.below _)).trans (hb8.mono (by rw [hz7]; exact hb6.size))
  clear CE ho8 b8 b9
  go_wp2_with fail
  refine CQ.mono ?_
  rintro e w9 ⟨rfl, hs9⟩
  rw [eqB_true rfl]
  have HB9 : Hid (Below w.heap.size w w9) := (hb89.alloc hb89.size _).trans (hs9.below _)
  clear hs9 CQ hb89
  go_wp2_with fail
  go_ret
  exact ⟨rfl, HB9.out⟩
end Go.Proofs.YtnkjhooeklodcaaGreatDoor
end

section
/-
  The law SeglogOfNothing, walked.
-/
namespace Go.Proofs.YtnkjhooeklodcaaGreatDoor
open Go.RowKit Go.Maps Go.Sort

variable {w w' : World}
set_option maxHeartbeats 2000000 in
set_option maxRecDepth 100000 in
theorem LOpen_nil (pre : List UInt8) (w : World) : Calls Tryz.prog 22 #[.pointer none, encStr pre] w fun e w' => e = .returned (.tuple #[.pointer none, .int .i64 1]) ∧ w' = w := by
  go_enter Tryz.func22, Tryz.ntmps22
  go_wp2
  go_ret2
  exact ⟨rfl, rfl⟩
set_option maxHeartbeats 2000000 in
set_option maxRecDepth 100000 in
theorem LOpen_bad (a : Addr) (pre : List UInt8) (h : pre.length < 1 ∨ 50 < pre.length) (w : World) : Calls Tryz.prog 22 #[.pointer (some a), encStr pre] w fun e w' => e = .returned (.tuple #[.pointer none, .int .i64 1]) ∧ w' = w := by
  have hz : (⟨pre.toArray⟩ : ByteArray).size = pre.length := by simp [ByteArray.size]
  by_cases h1 : pre.length < 1
  · have f1 : (pre.length : Int) < 1 := by omega
    go_enter Tryz.func22, Tryz.ntmps22
    go_wp2
    go_ret2
    exact ⟨rfl, rfl⟩
  · have f1 : ¬ (pre.length : Int) < 1 := by omega
    have f2 : (50 : Int) < (pre.length : Int) := by omega
    go_enter Tryz.func22, Tryz.ntmps22
    go_wp2
    go_ret2
    exact ⟨rfl, rfl⟩
theorem made_zero (n : Nat) : madeCells #[Value.int .u8 0] n = (cellsOf (List.replicate n 0)).toArray := by
  apply Array.ext
  · simp [madeCells, cellsOf]
  · intro i h1 h2
    simp [madeCells, cellsOf, Nat.mod_one]
theorem make_b (n : Nat) (hn : n ≤ 1000) (w : World) : (Instr.makeSlice 38 (.int .i64 (n : Int)) (.int .i64 (n : Int))).run Tryz.prog w = .ok (.slice (some ⟨w.heap.size, 0, none⟩) n n) (w.alloc (.cells (cellsOf (List.replicate n 0)).toArray 5)) := by
  obtain ⟨i0, hi, hz0, hz1, hz2⟩ := info_parts Tryz.info5
  have h := run_make (P := Tryz.prog) w 38 5 i0 (.int .u8 0) Tryz.underlying38 hi hz0 .i64 .i64 (n : Int) (n : Int) (by omega) (Int.le_refl _) (by rw [hz2]; omega) (by omega)
  rw [hz1] at h
  simp only [Int.toNat_natCast, Nat.mul_one] at h
  rw [h, show (Value.int .u8 0).cells = #[Value.int .u8 0] from rfl, made_zero]
theorem wpList_make_b (w : World) {ops : Array Oper} {rest : List Oper} {o : Oper} {a : Act} {Q : Exit → Act → World → Prop} (hgd : o.guard = none) (l c : Operand) (ho : o.op = .makeSlice 38 l c) (n : Nat) (hl : a.eval l = .int .i64 (n : Int)) (hc : a.eval c = .int .i64 (n : Int)) (hn : n ≤ 1000)
    (h : ∀ W, Cw W w.heap.size (cellsOf (List.replicate n 0)) 5 → Below w.heap.size w W → W.heap.size = w.heap.size + 1 → wpList Tryz.prog ops Q rest (a.put o.dst (.slice (some ⟨w.heap.size, 0, none⟩) n n)) W) : wpList Tryz.prog ops Q (o :: rest) a w := by
  have hrun := make_b n hn w
  refine wpList_plain hgd fun _ hK => ?_
  unfold Oper.wp execOp
  simp only [ho, hl, hc, hrun, Sem.run_bind, Sem.run_pure, Result.andThen_ok]
  exact hK _ _ (h _ (Cw.new w _ 5) ((Below.refl _ _).alloc (Nat.le_refl _) _) (World.size_alloc _ _))
theorem wpList_str_b (w : World) {ops : Array Oper} {rest : List Oper} {o : Oper} {a : Act} {Q : Exit → Act → World → Prop} (hgd : o.guard = none) (x : Operand) (ho : o.op = .convert 38 9 x) (n g : Nat) (hx : a.eval x = .slice (some ⟨g, 0, none⟩) n n) (hc : Cw w g (cellsOf (List.replicate n 0)) 5)
    (h : wpList Tryz.prog ops Q rest (a.put o.dst (encStr (List.replicate n 0))) w) : wpList Tryz.prog ops Q (o :: rest) a w := by
  have hrun : (convert 38 9 (.slice (some ⟨g, 0, none⟩) n n)).run Tryz.prog w = .ok (.string ⟨(List.replicate n (0 : UInt8)).toArray⟩) w := by
    have := run_convert_bytes_back (P := Tryz.prog) w 38 9 5 ⟨g, 0, none⟩ n (List.replicate n (0 : UInt8)) Tryz.underlying38 Tryz.underlying5 Tryz.underlying9 (fun j hj => by
      rw [Addr.add_lit, hc.cell]
      simp only [List.length_replicate] at hj
      simp [cellsOf, hj])
    rw [List.length_replicate] at this
    exact this
  refine wpList_plain hgd fun _ hK => ?_
  unfold Oper.wp execOp
  simp only [ho, hx, hrun, Sem.run_bind, Sem.run_pure, Result.andThen_ok]
  exact hK _ _ h
set_option maxHeartbeats 8000000 in
set_option maxRecDepth 100000 in
theorem nothing_walk (ao : Option Addr) (m cap : Nat) (n long : Int) (w : World) (hc : Cx w w.heap.size) : Calls Tryz.prog 7 #[.slice ao m cap, .int .i64 n, .int .i64 long] w fun e w' => e = .returned (.bool true) ∧ Below w.heap.size w w' := by
  by_cases hm : (1000 : Int) < (m : Int)
  · go_enter Tryz.func7, Tryz.ntmps7
    go_wp2_with fail
    go_ret
    exact ⟨rfl, Below.refl _ _⟩
  by_cases hl0 : long < 0
  · go_enter Tryz.func7, Tryz.ntmps7
    go_wp2_with fail
    go_ret
    exact ⟨rfl, Below.refl _ _⟩
  by_cases hl1 : (100 : Int) < long
  · go_enter Tryz.func7, Tryz.ntmps7
    go_wp2_with fail
    go_ret
    exact ⟨rfl, Below.refl _ _⟩
  obtain ⟨k, rfl⟩ : ∃ k : Nat, long = (k : Int) := ⟨long.toNat, by omega⟩
  have HK := fun (W : World) (hb : Below w.heap.size w W) => known_any W ⟨(hc.below hb).tab, (hc.below hb).pw, Nat.le_trans hc.b8 hb.size, Nat.le_refl _⟩
  have C1 := fun w1 => pNew 100 w1 (by decide)
  have hk100 : k ≤ 1000 := by omega
  by_cases hbad : k < 1 ∨ 50 < k
  · have CB := fun (a : Addr) (w1 : World) => LOpen_bad a (List.replicate k 0) (by rw [List.length_replicate]; exact hbad) w1
    go_enter Tryz.func7, Tryz.ntmps7
    go_wp2_with fail
    refine (LAppend_nil _ _).mono ?_
    rintro e w1 ⟨rfl, hw⟩
    replace hw := hw.symm
    subst hw
    go_wp2_with fail
    refine (LEntry_nil _ _).mono ?_
    rintro e w1 ⟨rfl, hw⟩
    replace hw := hw.symm
    subst hw
    go_wp2_with fail
    refine (LNext_nil _).mono ?_
    rintro e w1 ⟨rfl, hw⟩
    replace hw := hw.symm
    subst hw
    go_wp2_with fail
    refine (LOpen_nil [97] _).mono ?_
    rintro e w1 ⟨rfl, hw⟩
    replace hw := hw.symm
    subst hw
    go_wp2_with fail
    refine (C1 _).mono ?_
    rintro e w1 ⟨rfl, hP1, hB1⟩
    go_wp2_with (first | (refine wpList_make_b _ rfl (.tmp 58) (.tmp 58) rfl k rfl rfl hk100 ?_; intro w2 hcw2 hB2 hs2) | (refine wpList_str_b _ rfl (.tmp 59) rfl k _ rfl hcw2 ?_))
    refine (CB _ _).mono ?_
    rintro e w3 ⟨rfl, hw⟩
    replace hw := hw.symm
    subst hw
    have HB : Hid (Below w.heap.size w w2) := hB1.trans (hB2.mono hB1.size)
    clear hP1 hcw2 hs2 hB1 hB2 CB C1
    by_cases hk1 : (k : Int) < 1
    · have d1 : decide ((k : Int) < 1) = true := decide_eq_true hk1
      go_wp2_with fail
      refine (LSync_nil _).mono ?_
      rintro e w4 ⟨rfl, hw⟩
      replace hw := hw.symm
      subst hw
      go_wp2_with fail
      refine (LNames_nil _).mono ?_
      rintro e w4 ⟨rfl, hw⟩
      replace hw := hw.symm
      subst hw
      go_wp2_with fail
      refine (HK _ HB.out).mono ?_
      rintro e w5 ⟨rfl, hb5⟩
      have HF : Hid (Below w.heap.size w w5) := HB.out.trans (hb5.mono HB.out.size)
      clear HB hb5
      go_wp2_with fail
      go_ret
      exact ⟨rfl, HF.out⟩
    · have d1 : decide ((k : Int) < 1) = false := decide_eq_false (by omega)
      have d2 : decide ((50 : Int) < (k : Int)) = true := decide_eq_true (by omega)
      go_wp2_with fail
      refine (LSync_nil _).mono ?_
      rintro e w4 ⟨rfl, hw⟩
      replace hw := hw.symm
      subst hw
      go_wp2_with fail
      refine (LNames_nil _).mono ?_
      rintro e w4 ⟨rfl, hw⟩
      replace hw := hw.symm
      subst hw
      go_wp2_with fail
      refine (HK _ HB.out).mono ?_
      rintro e w5 ⟨rfl, hb5⟩
      have HF : Hid (Below w.heap.size w w5) := HB.out.trans (hb5.mono HB.out.size)
      clear HB hb5
      go_wp2_with fail
      go_ret
      exact ⟨rfl, HF.out⟩
  · have hk1 : ¬ (k : Int) < 1 := by omega
    have hk2 : ¬ (50 : Int) < (k : Int) := by omega
    have CO := fun (w2 : World) (sb : Nat) (D : Nat → Prop) (h : Pd w2 D sb ⟨100, [], -1⟩) (hD : ∀ j, D j → j < w2.heap.size) (hcx : Cx w2 w.heap.size) (hlow : ∀ j, j < 8 → ¬ D j) => LOpen_any (pre := List.replicate k 0) w2 h hD (by rw [List.length_replicate]; omega) (by rw [List.length_replicate]; omega) (fun x hx => by simp at hx) (by show 0 ≤ 4000000; omega) hcx.tab hcx.pw (Nat.le_trans hcx.b8 hcx.bw) hlow
    simp only [openF_empty] at CO
    go_enter Tryz.func7, Tryz.ntmps7
    go_wp2_with fail
    refine (LAppend_nil _ _).mono ?_
    rintro e w1 ⟨rfl, hw⟩
    replace hw := hw.symm
    subst hw
    go_wp2_with fail
    refine (LEntry_nil _ _).mono ?_
    rintro e w1 ⟨rfl, hw⟩
    replace hw := hw.symm
    subst hw
    go_wp2_with fail
    refine (LNext_nil _).mono ?_
    rintro e w1 ⟨rfl, hw⟩
    replace hw := hw.symm
    subst hw
    go_wp2_with fail
    refine (LOpen_nil [97] _).mono ?_
    rintro e w1 ⟨rfl, hw⟩
    replace hw := hw.symm
    subst hw
    go_wp2_with fail
    refine (C1 _).mono ?_
    rintro e w1 ⟨rfl, hP1, hB1⟩
    go_wp2_with (first | (refine wpList_make_b _ rfl (.tmp 58) (.tmp 58) rfl k rfl rfl hk100 ?_; intro w2 hcw2 hB2 hs2) | (refine wpList_str_b _ rfl (.tmp 59) rfl k _ rfl hcw2 ?_))
    have hl1 : w.heap.size < w1.heap.size := by
      obtain ⟨mb, fs, lit, lf, hd, _⟩ := hP1
      exact hd.cells.lt
    have hb12 : Below w.heap.size w w2 := hB1.trans (hB2.mono hB1.size)
    have CO2 := CO w2 w.heap.size _ (hP1.to hB2) (fun j hj => by omega) (hc.below hb12) (fun j hj e => by have := hc.b8; omega)
    refine CO2.mono ?_
    intro e w3 hL
    obtain ⟨lb, es, D', F', rfl, _, _, _, _, hg3⟩ := hL.ok rfl
    have HB : Hid (Below w.heap.size w w3) := by
      have hs := hB2.size
      exact ⟨hg3.os.trans hb12.os, hg3.tape.trans hb12.tape, hg3.output.trans hb12.output, Nat.le_trans hb12.size hg3.size, fun j hj => (hg3.block j (by omega) (by omega)).trans (hb12.block j hj)⟩
    clear hP1 hcw2 hs2 hB1 hB2 CO CO2 C1 hL hg3 hb12
    have d1 : decide ((k : Int) < 1) = false := decide_eq_false (by omega)
    have d2 : decide ((50 : Int) < (k : Int)) = false := decide_eq_false (by omega)
    go_wp2_with fail
    refine (LSync_nil _).mono ?_
    rintro e w4 ⟨rfl, hw⟩
    replace hw := hw.symm
    subst hw
    go_wp2_with fail
    refine (LNames_nil _).mono ?_
    rintro e w4 ⟨rfl, hw⟩
    replace hw := hw.symm
    subst hw
    go_wp2_with fail
    refine (HK _ HB.out).mono ?_
    rintro e w5 ⟨rfl, hb5⟩
    have HF : Hid (Below w.heap.size w w5) := HB.out.trans (hb5.mono HB.out.size)
    clear HB hb5
    go_wp2_with fail
    go_ret
    exact ⟨rfl, HF.out⟩
end Go.Proofs.YtnkjhooeklodcaaGreatDoor
end
