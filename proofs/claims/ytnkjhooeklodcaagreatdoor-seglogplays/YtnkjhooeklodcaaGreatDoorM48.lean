/-
  Joined from: SegKnow, SegStood, SegDo5.
-/
import Derived.Test.YtnkjhooeklodcaaGreatDoorM47
import Derived.Lib.SlBytesConst
import Derived.Test.YtnkjhooeklodcaaGreatDoorM46
import Derived.Test.YtnkjhooeklodcaaGreatDoorM28
section
/-
  The law's known: what was synced, and not more. It answers true, and writes nothing that was there.
-/
namespace Go.Proofs.YtnkjhooeklodcaaGreatDoor
open Go.RowKit Go.Maps Go.Sort
open Fr (entN takeR decE)

variable {w w' : World}
theorem xq_take (m i : Nat) (t : Int) (ys : List Int) (l : Nat) (h : l ≤ m) : (xq m i t ys).take l = ys.take l := by
  apply List.ext_getElem
  · simp [xq]
  · intro j h1 h2
    have hj : j < l := by rw [List.length_take] at h1; omega
    simp only [List.getElem_take, xq, List.getElem_mapIdx]
    rw [if_neg (by omega)]
/-- What lasted is there behind a crash, and some bytes behind it. -/
theorem crB_form (zs : List Int) (l k : Nat) (t : Int) (hl : l ≤ zs.length) : ∃ tail, crB zs l k t = zs.take l ++ tail ∧ tail.length = k % (zs.length - l + 1) := by
  have hn := crN_le zs l k hl
  have hlen : (crB zs l k t).length = crN zs l k := by
    unfold crB
    rw [xq_length, List.length_take]
    omega
  have h1 : (crB zs l k t).take l = zs.take l := by
    unfold crB crM
    rw [xq_take _ _ _ _ _ (Nat.le_max_left _ _), List.take_take, Nat.min_eq_left]
    unfold crN
    omega
  refine ⟨(crB zs l k t).drop l, ?_, ?_⟩
  · rw [← h1, List.take_append_drop]
  · rw [List.length_drop, hlen]
    unfold crN
    omega
theorem takeR_short {zs : List Int} (n : Int) (h : zs.length < 8) : takeR n zs = none := by
  unfold Fr.takeR
  rw [if_neg]
  intro e
  have h1 := Fr.headE_short h
  rw [Fr.decE_head (by rw [h1]; decide), h1] at e
  exact absurd e.1 (by decide)
/-- The name of the first segment. -/
def nm1 : Nm := nameN [97] 1
theorem nm1_bad : badN nm1 = false := by
  unfold badN nm1
  rw [nameN_len [97] 1 (by decide)]
  decide
theorem full_no {us : Us} {x : Nm} {m : Nat} {room : Int} (h1 : (totU us : Int) + (m : Int) ≤ room) (h2 : us.length < 4096) : fullU us x m room = false := by
  unfold fullU
  rw [decide_eq_false (by omega), decide_eq_false (by omega)]
  simp
theorem wr_free {u : Ud} (hl : u.left = -1) {x : Nm} (hb : badN x = false) (b : List Int) (h1 : (totU u.us : Int) + (b.length : Int) ≤ u.room) (h2 : u.us.length < 4096) : u.five [x] (wrU x b u.room) = (0, ⟨u.room, ptU u.us x ((at0U u.us x).1 ++ b, (at0U u.us x).2), -1⟩) := by
  rw [five_free hl hb]
  unfold wrU
  rw [if_neg (by rw [full_no h1 h2]; decide)]
theorem ap_first (p : List Int) (sz : Nat) (hp : p.length ≤ 1000) : apO [97] ⟨10000, [], -1⟩ [] 0 [] sz false p = ⟨1, 0, ⟨10000, [(nm1, entN 1 p, 0)], -1⟩, [p], 0, [1], (entN 1 p).length, false⟩ := by
  have hb := (ent_le 0 p).2
  have e1 : (((([] : List (List Int)).length : Nat) : Int) + 1) = 1 := rfl
  rw [show (((0 : Nat) : Int) + 1) = 1 from rfl] at hb
  unfold apO
  rw [if_neg (by decide), if_neg (by omega), if_neg (fun e => e.1 rfl)]
  have e2 : syS ⟨10000, [], -1⟩ ([] : List (List Int)).length 0 (nameN [97] (lastS [])) [] = (0, ⟨10000, [], -1⟩, 0, false) := if_pos rfl
  rw [e2, if_neg (fun e => e rfl), e1]
  have e3 := wr_free (u := ⟨10000, [], -1⟩) rfl nm1_bad (entN 1 p) (by show ((0 : Nat) : Int) + ((entN 1 p).length : Int) ≤ 10000; omega) (by decide)
  have e4 : (⟨10000, [], -1⟩ : Ud).five [nm1] (wrU nm1 (entN 1 p) 10000) = (0, ⟨10000, [(nm1, entN 1 p, 0)], -1⟩) := e3
  show apW ((⟨10000, [], -1⟩ : Ud).five [nm1] (wrU nm1 (entN 1 p) 10000)) [] p 0 [] [1] sz (entN 1 p).length = _
  rw [e4]
  rfl
theorem ap_more (zs : List Int) (l : Nat) (ps : List (List Int)) (las sz : Nat) (p : List Int) (hp : p.length ≤ 1000) (hz : sz < 512) (hzs : zs.length ≤ 5000) : apO [97] ⟨10000, [(nm1, zs, l)], -1⟩ ps las [1] sz false p = ⟨(ps.length : Int) + 1, 0, ⟨10000, [(nm1, zs ++ entN ((ps.length : Int) + 1) p, l)], -1⟩, ps ++ [p], las, [1], sz + (entN ((ps.length : Int) + 1) p).length, false⟩ := by
  have hb := (ent_le ps.length p).2
  unfold apO
  rw [if_neg (by decide), if_neg (by omega), if_pos ⟨by simp, hz⟩]
  have e3 := wr_free (u := ⟨10000, [(nm1, zs, l)], -1⟩) rfl nm1_bad (entN ((ps.length : Int) + 1) p) (by show ((totU [(nm1, zs, l)] : Nat) : Int) + _ ≤ 10000; simp [totU]; omega) (by show 1 < 4096; decide)
  have e4 : ptU [(nm1, zs, l)] nm1 ((at0U [(nm1, zs, l)] nm1).1 ++ entN ((ps.length : Int) + 1) p, (at0U [(nm1, zs, l)] nm1).2) = [(nm1, zs ++ entN ((ps.length : Int) + 1) p, l)] := by
    simp [ptU, dlU, insU, at0U, lkU]
  have e5 : (⟨10000, [(nm1, zs, l)], -1⟩ : Ud).five [nm1] (wrU nm1 (entN ((ps.length : Int) + 1) p) 10000) = (0, ⟨10000, [(nm1, zs ++ entN ((ps.length : Int) + 1) p, l)], -1⟩) := by
    rw [← e4]; exact e3
  show apW ((⟨10000, [(nm1, zs, l)], -1⟩ : Ud).five [nm1] (wrU nm1 (entN ((ps.length : Int) + 1) p) 10000)) ps p las [1] [1] sz (sz + (entN ((ps.length : Int) + 1) p).length) = _
  rw [e5]
  rfl
theorem sy_one (zs : List Int) (l : Nat) (ps : List (List Int)) (las sz : Nat) (h : las ≠ ps.length) : syO [97] ⟨10000, [(nm1, zs, l)], -1⟩ ps las [1] sz false = ⟨0, 0, ⟨10000, [(nm1, zs, zs.length)], -1⟩, ps, ps.length, [1], sz, false⟩ := by
  have e1 : (⟨10000, [(nm1, zs, l)], -1⟩ : Ud).five [nm1] (syU nm1) = (0, ⟨10000, [(nm1, zs, zs.length)], -1⟩) := by
    rw [five_free rfl nm1_bad]
    simp [syU, lkU, ptU, dlU, insU]
  have e2 : syL ⟨10000, [(nm1, zs, l)], -1⟩ ps.length las nm1 false = (0, ⟨10000, [(nm1, zs, zs.length)], -1⟩, ps.length, false) := by
    unfold syL
    rw [if_neg (by decide), if_neg h, e1]
    simp
  unfold syO
  rw [show nameN [97] (lastS [1]) = nm1 from rfl, e2]
/-- What an opening reads behind the crash. -/
theorem know_read (ps : List (List Int)) (hps : ∀ q ∈ ps, Epl q) (hne : ps ≠ []) (hl : ps.length ≤ 1000) (b3 : List Int) (hb3 : 13 ≤ b3.length) (t : Int) :
    (openF [97] ((⟨10000, [(nm1, entsN 0 ps ++ b3, (entsN 0 ps).length)], -1⟩ : Ud).crash 3 t)).2.1 = ps := by
  obtain ⟨tail, e1, e2⟩ := crB_form (entsN 0 ps ++ b3) (entsN 0 ps).length 3 t (by rw [List.length_append]; omega)
  rw [List.take_left] at e1
  rw [List.length_append, Nat.add_sub_cancel_left, Nat.mod_eq_of_lt (by omega)] at e2
  have hc : (⟨10000, [(nm1, entsN 0 ps ++ b3, (entsN 0 ps).length)], -1⟩ : Ud).crash 3 t = ⟨10000, [(nm1, entsN 0 ps ++ tail, crN (entsN 0 ps ++ b3) (entsN 0 ps).length 3)], -1⟩ := by
    show (⟨10000, [crA 3 t (nm1, entsN 0 ps ++ b3, (entsN 0 ps).length)], -1⟩ : Ud) = _
    unfold crA
    simp only [e1]
  rw [hc]
  generalize crN (entsN 0 ps ++ b3) (entsN 0 ps).length 3 = l
  have hseg : isSeg nm1 [97] = true := isSeg_name [97] (by decide)
  have hL : segsN (([(nm1, entsN 0 ps ++ tail, l)] : Us).map (·.1)) [97] = [nm1] := by simp [segsN, hseg]
  have hnum : numV (nm1.drop [97].length) = 1 := (seg_name hseg (by decide)).1 rfl
  have hat : (at0U [(nm1, entsN 0 ps ++ tail, l)] nm1).1 = entsN 0 ps ++ tail := by simp [at0U, lkU]
  have hrd := rdF_ents ps 0 tail hps (by omega) (takeR_short _ (by omega))
  have hlen0 : (entsN 0 ps).length ≠ 0 := by
    cases ps with
    | nil => exact absurd rfl hne
    | cons q qs =>
      have := (ent_le 0 q).1
      simp only [entsN, List.length_append]
      omega
  have hop : (opF [97] ⟨10000, [(nm1, entsN 0 ps ++ tail, l)], -1⟩ [nm1] 1).2.1 = ps := by
    simp only [opF, hat, Nat.sub_self, hrd]
    rw [if_neg (by rw [List.length_append]; omega), if_neg (by simp [allU]), if_neg (fun e => e.elim (fun h => h hnum) hlen0)]
  unfold openF
  simp only [hL]
  split
  · exact hop
  · exact hop
theorem DoP.cx {B pb sb wb lb xb k : Nat} {o : ApO} {e : Ending} (h : DoP w B pb sb wb lb xb o k e w') (hc : Cx w B) : Cx w' B := hc.grows h.2.1 fun _ e => e
theorem byt1 (z : Int) (h : 0 ≤ z ∧ z < 256) : Byt [z] := fun y hy => by rw [List.mem_singleton.1 hy]; exact h
/-- A state that is kept on and on. -/
def Kn (w : World) (B pb : Nat) (u : Ud) (ps : List (List Int)) (las : Nat) (ss : List Nat) (k : Nat) (w' : World) : Prop :=
  Grows (fun j => B ≤ j) w w' ∧ Cx w' B ∧ ∃ sb wb lb xb sz, Hs w' B (fun j => j < w'.heap.size) pb sb wb lb xb u ps las ss sz false k ∧ (ss ≠ [] → lenU u.us (nameN [97] (lastS ss)) = sz)
theorem Kn.mk {w0 : World} {B pb sb wb lb xb las sz k : Nat} {u : Ud} {ps : List (List Int)} {ss : List Nat} (hg : Grows (fun j => B ≤ j) w0 w) (hc : Cx w B) (h : Hs w B (fun j => j < w.heap.size) pb sb wb lb xb u ps las ss sz false k) : Kn w0 B pb u ps las ss k w := by
  refine ⟨hg, hc, sb, wb, lb, xb, sz, h, ?_⟩
  obtain ⟨_, _, _, _, _, _, _, _, _, h4, _⟩ := h
  exact h4.szq
theorem kn_append {w0 w1 : World} {B pb las k : Nat} {u u' : Ud} {ps ps' : List (List Int)} {ss ss' : List Nat} {las' : Nat} (h : Kn w0 B pb u ps las ss k w1) (hk : k ≤ 1000) (z : Int) (hz : 0 ≤ z ∧ z < 256) (ho : ∀ sz, (ss ≠ [] → lenU u.us (nameN [97] (lastS ss)) = sz) → ∃ sz' n, apO [97] u ps las ss sz false [z] = ⟨n, 0, u', ps', las', ss', sz', false⟩) :
    Calls Tryz.prog 12 #[.pointer (some ⟨pb, 0, none⟩), .agg #[.int .i64 1, .int .i64 0, .slice (some ⟨w1.heap.size, 0, none⟩) 1 1, .int .u8 0]] (w1.alloc (.cells #[.int .u8 z] 5 (1, 2))) fun e w' => e = .returned (.bool true) ∧ Kn w0 B pb u' ps' las' ss' (k + 1) w' := by
  obtain ⟨hg, hc, sb, wb, lb, xb, sz, hH, hsz⟩ := h
  obtain ⟨sz', n, e⟩ := ho sz hsz
  have hA : Below w1.heap.size w1 (w1.alloc (.cells #[.int .u8 z] 5 (1, 2))) := (Below.refl _ _).alloc (Nat.le_refl _) _
  have hbs : Bs (w1.alloc (.cells #[.int .u8 z] 5 (1, 2))) (.slice (some ⟨w1.heap.size, 0, none⟩) [z].length 1) [z] := Bs_of_block (zs := [z]) (heap_alloc_new w1 _) (by simp [maxLen])
  have hcA : Cx (w1.alloc (.cells #[.int .u8 z] 5 (1, 2))) B := hc.below (hA.mono hc.bw)
  have C := does1 (hH.below hA) hk hcA (fun j hj => Nat.lt_of_lt_of_le hj hA.size) 0 (some ⟨w1.heap.size, 0, none⟩) 1 [z] hbs (byt1 z hz) (by simp) (fun _ j hj => Or.inr fun e => by
    simp only [Value.ownBlock, Option.some.injEq] at hj
    have e' : j < w1.heap.size := e
    omega) 0
  rw [e] at C
  refine C.mono fun e w' hD => ?_
  have hcx := hD.cx hcA
  obtain ⟨rfl, hg2, hH2⟩ := hD
  refine ⟨rfl, Kn.mk ⟨hg2.os.trans (hA.os.trans hg.os), hg2.tape.trans (hA.tape.trans hg.tape), hg2.output.trans (hA.output.trans hg.output), Nat.le_trans hg.size (Nat.le_trans hA.size hg2.size), fun j hj hn => ?_⟩ hcx hH2⟩
  have h1 := hg.size
  have h2 := hA.size
  rw [hg2.block j (by omega) hn, hA.block j (by omega)]
  exact hg.block j hj hn
theorem kn_sync {w0 w1 : World} {B pb las k : Nat} {u u' : Ud} {ps : List (List Int)} {ss : List Nat} {las' : Nat} (h : Kn w0 B pb u ps las ss k w1) (hk : k ≤ 1000) (ho : ∀ sz, syO [97] u ps las ss sz false = ⟨0, 0, u', ps, las', ss, sz, false⟩) :
    Calls Tryz.prog 12 #[.pointer (some ⟨pb, 0, none⟩), .agg #[.int .i64 2, .int .i64 0, .slice none 0 0, .int .u8 0]] w1 fun e w' => e = .returned (.bool true) ∧ Kn w0 B pb u' ps las' ss (k + 1) w' := by
  obtain ⟨hg, hc, sb, wb, lb, xb, sz, hH, hsz⟩ := h
  have C := does2 hH hk hc 0 (.slice none 0 0) ⟨_, _, _, rfl⟩ 0
  rw [ho] at C
  refine C.mono fun e w' hD => ?_
  have hcx := hD.cx hc
  obtain ⟨rfl, hg2, hH2⟩ := hD
  exact ⟨rfl, Kn.mk (hg.trans hg2 fun j hj => Or.inl hj) hcx hH2⟩
theorem kn_crash {w0 w1 : World} {B pb las k : Nat} {u : Ud} {ps ps' : List (List Int)} {ss : List Nat} (h : Kn w0 B pb u ps las ss k w1) (n : Int) (hn : (Lit.int .i64 n).wf = true) (ho : (openF [97] (u.crash n 0)).2.1 = ps') :
    Calls Tryz.prog 12 #[.pointer (some ⟨pb, 0, none⟩), .agg #[.int .i64 3, .int .i64 n, .slice none 0 0, .int .u8 0]] w1 fun e w' => e = .returned (.bool true) ∧ ∃ u' ss', Kn w0 B pb u' ps' ps'.length ss' 0 w' := by
  obtain ⟨hg, hc, sb, wb, lb, xb, sz, hH, hsz⟩ := h
  refine (does3 hH hc n hn (.slice none 0 0) ⟨_, _, _, rfl⟩ 0 (by decide)).mono ?_
  rintro e w' ⟨rfl, hg2, _, lb2, xb2, sz2, hH2⟩
  rw [ho] at hH2
  exact ⟨rfl, _, _, Kn.mk (hg.trans hg2 fun j hj => Or.inl hj) (hc.grows hg2 fun _ e => e) hH2⟩
set_option maxHeartbeats 8000000 in
set_option maxRecDepth 100000 in
theorem known_any (w : World) (hc : Cx w w.heap.size) : Calls Tryz.prog 10 #[] w fun e w' => e = .returned (.bool true) ∧ Below w.heap.size w w' := by
  have kc := fun (w : World) (C : Array Value) (n c : Nat) => Lib.run_convert_bytes_const (P := Tryz.prog) w 38 5 C n c Tryz.underlying38 Tryz.underlying5
  have CS := start_any 10000 (by decide) w hc
  have HC := hid_into hc
  clear hc
  go_enter Tryz.func10, Tryz.ntmps10
  go_wp2_with fail
  refine CS.mono ?_
  rintro e w1 ⟨pb, rfl, hb1, sb, wb, lb, xb, sz, hH1⟩
  have hK1 : Kn w w.heap.size pb ⟨10000, [], -1⟩ [] 0 [] 0 w1 := Kn.mk ⟨hb1.os, hb1.tape, hb1.output, hb1.size, fun j _ hn => hb1.block j (by omega)⟩ (HC.out.below hb1) hH1
  have el1 : (entN 1 [97]).length = 14 := by rw [show (1 : Int) = ((0 : Nat) : Int) + 1 from rfl, ent_len]; rfl
  have el2 : (entN 2 [98]).length = 14 := by rw [show (2 : Int) = ((1 : Nat) : Int) + 1 from rfl, ent_len]; rfl
  have el3 : (entN 3 [99]).length = 14 := by rw [show (3 : Int) = ((2 : Nat) : Int) + 1 from rfl, ent_len]; rfl
  have C1 := kn_append hK1 (by decide) 97 (by decide) fun sz _ => ⟨_, _, ap_first [97] sz (by decide)⟩
  clear CS hH1 hK1
  go_wp2_with fail
  refine C1.mono ?_
  rintro e w2 ⟨rfl, hK2⟩
  have at1 : ∀ (zs : List Int) (l : Nat), lenU [(nm1, zs, l)] (nameN [97] (lastS [1])) = zs.length := fun zs l => by
    show lenU [(nm1, zs, l)] nm1 = _
    simp [lenU, at0U, lkU]
  have C2 := kn_append (u' := ⟨10000, [(nm1, entN 1 [97] ++ entN 2 [98], 0)], -1⟩) (ps' := [[97], [98]]) (ss' := [1]) (las' := 0) hK2 (by decide) 98 (by decide) fun sz hsz => by
    have := hsz (by simp)
    rw [at1, el1] at this
    exact ⟨_, _, ap_more (entN 1 [97]) 0 [[97]] 0 sz [98] (by decide) (by omega) (by omega)⟩
  clear C1 hK2
  go_wp2_with fail
  refine C2.mono ?_
  rintro e w3 ⟨rfl, hK3⟩
  have C3 := kn_sync (u' := ⟨10000, [(nm1, entN 1 [97] ++ entN 2 [98], 28)], -1⟩) (las' := 2) hK3 (by decide) fun sz => by
    have := sy_one (entN 1 [97] ++ entN 2 [98]) 0 [[97], [98]] 0 sz (by decide)
    rw [List.length_append, el1, el2] at this
    exact this
  clear C2 hK3
  go_wp2_with fail
  refine C3.mono ?_
  rintro e w4 ⟨rfl, hK4⟩
  have C4 := kn_append (u' := ⟨10000, [(nm1, entN 1 [97] ++ entN 2 [98] ++ entN 3 [99], 28)], -1⟩) (ps' := [[97], [98], [99]]) (ss' := [1]) (las' := 2) hK4 (by decide) 99 (by decide) fun sz hsz => by
    have := hsz (by simp)
    rw [at1, List.length_append, el1, el2] at this
    exact ⟨_, _, ap_more (entN 1 [97] ++ entN 2 [98]) 28 [[97], [98]] 2 sz [99] (by decide) (by omega) (by rw [List.length_append]; omega)⟩
  clear C3 hK4
  go_wp2_with fail
  refine C4.mono ?_
  rintro e w5 ⟨rfl, hK5⟩
  have e12 : entsN 0 [[97], [98]] = entN 1 [97] ++ entN 2 [98] := by
    show entN _ _ ++ (entN _ _ ++ []) = _
    rw [List.append_nil]
    rfl
  have hE : ∀ q ∈ ([[97], [98]] : List (List Int)), Epl q := by
    intro q hq
    rcases List.mem_cons.1 hq with rfl | hq
    · exact ⟨byt1 97 (by decide), by decide⟩
    · rw [List.mem_singleton.1 hq]
      exact ⟨byt1 98 (by decide), by decide⟩
  have hkr := know_read [[97], [98]] hE (by simp) (by decide) (entN 3 [99]) (by omega) 0
  rw [e12, List.length_append, el1, el2] at hkr
  have C5 := kn_crash hK5 3 (by decide) hkr
  clear C4 hK5
  go_wp2_with fail
  refine C5.mono ?_
  rintro e w6 ⟨rfl, u6, ss6, hg6, hc6, sb6, wb6, lb6, xb6, sz6, hH6, _⟩
  have hb6 : Below w.heap.size w w6 := ⟨hg6.os, hg6.tape, hg6.output, hg6.size, fun j hj => hg6.block j hj (by omega)⟩
  have cp6 : w6.cell? ⟨pb, 2, none⟩ = some (.pointer (some ⟨lb6, 0, none⟩)) := hH6.pair.cell 2
  obtain ⟨D6, F6, G6, H6, es6, fs6, hT6, he6, _, _, _⟩ := hH6
  obtain ⟨ev6, nv6, hl6⟩ := hT6.l.l
  have hel6 : es6.length = 2 := by
    have := congrArg List.length he6
    simpa using this
  have CN := LNext_any w6 hl6
  have hpb6 := hT6.p.lt
  rw [hel6] at CN
  obtain ⟨r, hr⟩ : ∃ r, es6[1]? = some r := ⟨_, List.getElem?_eq_getElem (by omega)⟩
  have hr2 : r.2 = [98] := by
    have h1 : (es6.map (·.2))[1]? = some r.2 := by rw [List.getElem?_map, hr]; rfl
    rw [he6] at h1
    simpa using h1.symm
  have CE := fun (w7 : World) (hs : Sm w6 w7) => LEntry_any 1 r w7 (hl6.sm hs) hr
  rw [hr2] at CE
  clear C5 hT6 hl6 hr he6
  go_wp2_with fail
  refine CN.mono ?_
  rintro e w7 ⟨rfl, hs7⟩
  have cp7 : w7.cell? ⟨pb, 2, none⟩ = some (.pointer (some ⟨lb6, 0, none⟩)) := hs7.cellH cp6
  clear CN
  go_wp2_with fail
  refine (CE w7 hs7).mono ?_
  rintro e w8 ⟨ao8, cap8, rfl, ho8, hb8⟩
  have b9 : Bs (w8.alloc (.cells #[.int .u8 98] 5 (1, 2))) (.slice (some ⟨w8.heap.size, 0, none⟩) 1 1) [98] := Bs_of_block (zs := [98]) (heap_alloc_new w8 _) (by simp [maxLen])
  have b8 : Bs (w8.alloc (.cells #[.int .u8 98] 5 (1, 2))) (.slice ao8 [98].length cap8) [98] := ho8.bs.below ((Below.refl _ w8).alloc (Nat.le_refl _) _) (Nat.le_refl _)
  have CQ := same_any _ _ _ _ _ b8 b9
  have hz7 := hs7.size
  have hb89 : Below w.heap.size w w8 := (hb6.trans (hs7.below _)).trans (hb8.mono (by rw [hz7]; exact hb6.size))
  clear CE ho8 b8 b9
  go_wp2_with fail
  refine CQ.mono ?_
  rintro e w9 ⟨rfl, hs9⟩
  rw [eqB_true rfl]
  have HB9 : Hid (Below w.heap.size w w9) := (hb89.alloc hb89.size _).trans (hs9.below _)
  clear hs9 CQ hb89
  go_wp2_with fail
  go_ret
  exact ⟨rfl, HB9.out⟩
end Go.Proofs.YtnkjhooeklodcaaGreatDoor
end

section
/-
  stood: all entries, and all files, in both.
-/
namespace Go.Proofs.YtnkjhooeklodcaaGreatDoor
open Go.RowKit Go.Maps Go.Sort

variable {w w' w1 w2 : World} {B N pb sb wb lb xb : Nat} {Z D F G H : Nat → Prop} {u u' : Ud} {es fs : List En} {las : Nat} {sz k : Nat} {dead : Bool} {ss : List Nat} {ps : List (List Int)}
theorem lkU_at {us : Us} {i : Nat} {x : Nm} (h : (us.map (·.1))[i]? = some x) : rdE us x = 0 := by
  rw [List.getElem?_map] at h
  obtain ⟨p, hp, rfl⟩ := Option.map_eq_some_iff.1 h
  unfold rdE
  cases hl : lkU us p.1 with
  | some g => rfl
  | none => exact absurd rfl (lkU_none' hl p (List.mem_of_getElem? hp))
/-- What stood reads of the pair and of the document's log. -/
def Sd (pb sb wb lb xb : Nat) (ev : Value) (las : Nat) (x : World) : Prop :=
  x.cell? ⟨pb, 0, none⟩ = some (.pointer (some ⟨sb, 0, none⟩)) ∧ x.cell? ⟨pb, 1, none⟩ = some (.pointer (some ⟨wb, 0, none⟩)) ∧ x.cell? ⟨pb, 2, none⟩ = some (.pointer (some ⟨lb, 0, none⟩)) ∧ x.cell? ⟨pb, 3, none⟩ = some (.pointer (some ⟨xb, 0, none⟩)) ∧ x.cell? ⟨xb, 2, none⟩ = some ev ∧ x.cell? ⟨xb, 4, none⟩ = some (.int .i64 ((las : Int) + 1))
set_option maxHeartbeats 8000000 in
set_option maxRecDepth 100000 in
theorem stood_any (h : Hs w B Z pb sb wb lb xb u ps las ss sz dead k) :
    Calls Tryz.prog 13 #[.pointer (some ⟨pb, 0, none⟩)] w fun e w' => e = .returned (.bool true) ∧ Below w.heap.size w w' := by
  obtain ⟨D, F, G, H, es, fs, hT, he, hf, hS, _⟩ := h
  have hg := hT.l.d.good
  obtain ⟨evl, nvl, hl⟩ := hT.l.l
  obtain ⟨ev, sv, hx⟩ := hT.x.l
  have hel : es.length = fs.length := by
    have h1 := congrArg List.length he
    have h2 := congrArg List.length hf
    simp at h1 h2
    omega
  have hfew := hx.few
  have hcnt : (u.us.map (·.1)).length ≤ 4096 := by simpa using hg.cnt
  have hssl : (namesN [97] ss).length ≤ 100000000 := by simp [namesN]; omega
  have HA : Hid (∀ (i : Nat) (x : Nm), (u.us.map (·.1))[i]? = some x → rdE u.us x = 0) := fun i x => lkU_at (i := i) (x := x)
  have HL : Hid (∀ (i : Nat) (x : Nm), (u.us.map (·.1))[i]? = some x → x.length ≤ maxLen) := fun i x hx => by
    rw [List.getElem?_map] at hx
    obtain ⟨p, hp, rfl⟩ := Option.map_eq_some_iff.1 hx
    exact (hg.each p (List.mem_of_getElem? hp)).2.2
  have hee : ∀ zs : List Int, eqB zs zs = true := fun zs => by simp [eqB]
  have CN := LNext_any w hl
  rw [hel] at CN
  have HCL : Hid (∀ W, Below w.heap.size w W → Calls Tryz.prog 33 #[.pointer (some ⟨lb, 0, none⟩)] W fun e w' => ∃ v', e = .returned v' ∧ Ot w' W.heap.size v' (namesN [97] ss) ∧ Below W.heap.size W w') := fun W hb => LNames_any W (hl.below hb)
  have HCX : Hid (∀ W, Below w.heap.size w W → Calls Tryz.prog 40 #[.pointer (some ⟨xb, 0, none⟩)] W fun e w' => ∃ v', e = .returned v' ∧ Ot w' W.heap.size v' (namesN [97] ss) ∧ Below W.heap.size W w') := fun W hb => XNames_any W (hx.below hb)
  have HCP : Hid (∀ W, Below w.heap.size w W → Calls Tryz.prog 44 #[.pointer (some ⟨sb, 0, none⟩)] W fun e w' => ∃ v', e = .returned v' ∧ Ot w' W.heap.size v' (u.us.map (·.1)) ∧ Below W.heap.size W w') := fun W hb => pNames (hT.l.d.to hb)
  have HCQ : Hid (∀ W, Below w.heap.size w W → Calls Tryz.prog 45 #[.pointer (some ⟨wb, 0, none⟩)] W fun e w' => ∃ v', e = .returned v' ∧ Ot w' W.heap.size v' (u.us.map (·.1)) ∧ Below W.heap.size W w') := fun W hb => qNames (hT.x.d.to hb)
  have HRP : Hid (∀ W, Below w.heap.size w W → ∀ x : Nm, x.length ≤ maxLen → Calls Tryz.prog 34 #[.pointer (some ⟨sb, 0, none⟩), encStr x] W fun e w' => ∃ ao cap, e = .returned (.tuple #[.slice ao (at0U u.us x).1.length cap, .int .i64 (rdE u.us x)]) ∧ Ow w' W.heap.size (.slice ao (at0U u.us x).1.length cap) (at0U u.us x).1 ∧ Below W.heap.size W w') := fun W hb x hxl => pRead (hT.l.d.to hb) x hxl
  have HRQ : Hid (∀ W, Below w.heap.size w W → ∀ x : Nm, Calls Tryz.prog 46 #[.pointer (some ⟨wb, 0, none⟩), encStr x] W fun e w' => ∃ ao cap, e = .returned (.tuple #[.slice ao (at0U u.us x).1.length cap, .int .i64 (rdE u.us x)]) ∧ Ow w' W.heap.size (.slice ao (at0U u.us x).1.length cap) (at0U u.us x).1 ∧ Below W.heap.size W w') := fun W hb x => qRead (hT.x.d.to hb) hg x
  have HLE : Hid (∀ (i : Nat) (z : En), fs[i]? = some z → ∀ W, Below w.heap.size w W → Calls Tryz.prog 25 #[.pointer (some ⟨lb, 0, none⟩), .int .i64 ((i : Int) + 1)] W fun e w' => ∃ ao cap, e = .returned (.tuple #[.slice ao z.2.length cap, .int .i64 0]) ∧ Ow w' W.heap.size (.slice ao z.2.length cap) z.2 ∧ Below W.heap.size W w') := fun i z hz W hb => by
    have h1 : (es.map (·.2))[i]? = some z.2 := by rw [he, ← hf, List.getElem?_map, hz]; rfl
    rw [List.getElem?_map] at h1
    obtain ⟨r, hr, hr2⟩ := Option.map_eq_some_iff.1 h1
    have := LEntry_any i r W (hl.below hb) hr
    rw [hr2] at this
    exact this
  have HXE : Hid (∀ W, Below w.heap.size w W → ∀ (i : Nat) (z : En), fs[i]? = some z → Bs W z.1 z.2 ∧ ∃ g cap, ev = .slice (some ⟨g, 0, none⟩) fs.length cap ∧ W.cell? ⟨g, i, none⟩ = some z.1) := fun W hb i z hz => by
    have hx' := hx.below hb
    refine ⟨(hx'.each z (List.mem_of_getElem? hz)).1, ?_⟩
    have hil := (List.getElem?_eq_some_iff.1 hz).1
    rcases hx'.ent.2 with ⟨_, h0⟩ | ⟨g, cap, cur, hv, _⟩
    · omega
    · refine ⟨g, cap, hv, ?_⟩
      have := World.ownsRow.cells hx'.ent (g := g) (by rw [hv]; rfl) i z.1 (by unfold enOf; rw [List.getElem?_map, hz]; rfl)
      simpa [Addr.add_lit] using this
  have HSD : Hid (∀ W, Below w.heap.size w W → Sd pb sb wb lb xb ev las W) := fun W hb => by
    have hx' := hx.below hb
    have hp' := hT.p.below hb hT.p.lt
    exact ⟨hp'.cell 0, hp'.cell 1, hp'.cell 2, hp'.cell 3, hx'.blk.cell 2, by have := hx'.blk.cell 4; simpa using this⟩
  have HEV : Hid (∃ ao cap, ev = .slice ao fs.length cap) := hx.evform
  have HZL : Hid (∀ x, (at0U u.us x).1.length ≤ 1073741824) := fun x => by
    unfold at0U
    cases hl : lkU u.us x with
    | none => simp
    | some g => exact hg.len hl
  have hfl := hfew.1
  have hlas := hl.few.2.2.1
  have hSd0 := HSD.out w (Below.refl _ _)
  obtain ⟨aev, cev, rfl⟩ := HEV.out
  generalize u.us.map (·.1) = ns at *
  generalize namesN [97] ss = nn at *
  clear hT hl hx hg hfew HEV he hf hS hel
  have q1 : IntKind.i64.wrap ((fs.length : Int) + 1) = (fs.length : Int) + 1 := by rw [IntKind.wrap_i64]; omega
  have c2 := hSd0.2.2.1
  go_enter Tryz.func13, Tryz.ntmps13
  go_wp2_with fail
  refine CN.mono ?_
  rintro e w1 ⟨rfl, hs1⟩
  have hB1 : Below w.heap.size w w1 := hs1.below _
  have hSd1 := HSD.out w1 hB1
  clear CN hSd0 c2
  have hB1d : Below w.heap.size w w1.drew := hB1.drew
  have hSd1d := HSD.out w1.drew hB1d
  unfold Sd at hSd1d
  have HB1 := hid_into hB1d
  have HTX : Hid (∀ (va vb : Value) (xs : List Nm) (W : World), St W va xs → St W vb xs → xs.length ≤ 100000000 → Calls Tryz.prog 35 #[va, vb] W fun e w' => e = .returned (.bool true) ∧ Sm W w') := texts_same
  clear hSd1
  go_wp2_with fail
  go_region_held3 (fun x => x.cell? ⟨pb, 0, none⟩ = some (.pointer (some ⟨sb, 0, none⟩)) ∧ x.cell? ⟨pb, 1, none⟩ = some (.pointer (some ⟨wb, 0, none⟩)) ∧ x.cell? ⟨pb, 2, none⟩ = some (.pointer (some ⟨lb, 0, none⟩)) ∧ x.cell? ⟨pb, 3, none⟩ = some (.pointer (some ⟨xb, 0, none⟩)) ∧ x.cell? ⟨xb, 2, none⟩ = some (.slice aev fs.length cev) ∧ x.cell? ⟨xb, 4, none⟩ = some (.int .i64 ((las : Int) + 1))) (assumption)
    (first
      | (go_at_call 33; refine (HCL.out _ HB1.out).mono ?_; rintro e w2 ⟨v2, rfl, ho2, hb2⟩; have hB2 := HB1.out.trans (hb2.mono HB1.out.size); have hS2 := HSD.out w2 hB2; unfold Sd at hS2; clear HCL)
      | (go_at_call 40; refine (HCX.out _ hB2).mono ?_; rintro e w3 ⟨v3, rfl, ho3, hb3⟩; have hB3 := hB2.trans (hb3.mono hB2.size); have hS3 := HSD.out w3 hB3; unfold Sd at hS3; clear HCX)
      | (go_at_call 35; have hB6' := hB6; refine (HTX.out v5 v6 ns w6 ((St_row ho5).below hb6) (St_row ho6) (by omega)).mono ?_; rintro e w7 ⟨rfl, hs7⟩; have hB7 := hB6.trans (hs7.below _); have hS7 := HSD.out w7 hB7; unfold Sd at hS7)
      | (go_at_call 35; refine (HTX.out v2 v3 nn w3 ((St_row ho2).below hb3) (St_row ho3) hssl).mono ?_; rintro e w4 ⟨rfl, hs4⟩; have hB4 := hB3.trans (hs4.below _); have hS4 := HSD.out w4 hB4; unfold Sd at hS4)
      | (go_at_call 44; refine (HCP.out _ hB4).mono ?_; rintro e w5 ⟨v5, rfl, ho5, hb5⟩; have hB5 := hB4.trans (hb5.mono hB4.size); have hS5 := HSD.out w5 hB5; unfold Sd at hS5; clear HCP)
      | (go_at_call 45; refine (HCQ.out _ hB5).mono ?_; rintro e w6 ⟨v6, rfl, ho6, hb6⟩; have hB6 := hB5.trans (hb6.mono hB5.size); have hS6 := HSD.out w6 hB6; unfold Sd at hS6))
  have HB7 := hid_into hB7
  clear hB7 hS7 hs7 ho2 ho3 ho5 ho6 hb2 hb3 hb5 hb6 hB2 hB3 hB4 hB5 hB6 hs4 HB1 hSd1d HTX hB1d hB1 hs1
  go_wp2_with fail
  go_loopw [5, 6, 7] (fun iv _ _ wr => ∃ i : Nat, i ≤ fs.length ∧ iv = .int .i64 (i : Int) ∧ Below w.heap.size w wr) (fun iv _ _ _ => fs.length - (intOf iv).toNat)
  case atStart => exact ⟨0, Nat.zero_le _, rfl, HB7.out⟩
  case round =>
    obtain ⟨i, hi, rfl, hBr⟩ := hrel
    obtain ⟨d0, d1, d2, d3, d4, d5⟩ := HSD.out wr hBr
    by_cases hlt : i < fs.length
    · obtain ⟨z, hz⟩ : ∃ z, fs[i]? = some z := ⟨_, List.getElem?_eq_getElem hlt⟩
      obtain ⟨hbz, g, cap, hev, hcz⟩ := HXE.out wr hBr i z hz
      obtain ⟨ao, cp, hv, _⟩ := hbz.len
      injection hev with hev1 hev2 hev3
      subst hev1
      subst hev3
      clear hev2
      have C1 := HLE.out i z hz wr hBr
      have HXI : Hid (∀ W, Below w.heap.size w W → Bs W (.slice ao z.2.length cp) z.2 ∧ W.cell? ⟨g, i, none⟩ = some (.slice ao z.2.length cp)) := fun W hb => by
        obtain ⟨h1, g', cap', he', hc'⟩ := HXE.out W hb i z hz
        injection he' with e1 e2 e3
        injection e1 with e1
        injection e1 with e1
        subst e1
        rw [hv] at h1 hc'
        exact ⟨h1, hc'⟩
      have f1 : (0 : Int) ≤ (i : Int) := by omega
      have f2 : (i : Int) < (fs.length : Int) := by omega
      have q2 : IntKind.i64.wrap ((i : Int) + 1) = (i : Int) + 1 := by rw [IntKind.wrap_i64]; omega
      clear hbz hcz hv hz
      generalize z.2 = zs at *
      have hzz := hee zs
      go_wp2_with (first
        | (go_at_call 25; refine C1.mono ?_; rintro e w8 ⟨ao8, cap8, rfl, ho8, hb8⟩; have hB8 := hBr.trans (hb8.mono hBr.size); obtain ⟨k0, k1, k2, k3, k4, k5⟩ := HSD.out w8 hB8; obtain ⟨hbz8, hcz8⟩ := HXI.out w8 hB8)
        | (go_at_call 26; refine (same_any _ _ zs zs _ (by exact Ow.bs ho8) hbz8).mono ?_; rw [hzz]; rintro e w9 ⟨rfl, hs9⟩))
      have hB9 : Below w.heap.size w w9 := hB8.trans (hs9.below _)
      go_roundw
      case rel => exact ⟨i + 1, by omega, by go_num, hB9⟩
      case measure => simp [intOf]; omega
    · have f2 : ¬ ((i : Int) < (fs.length : Int)) := by omega
      have CQ := HCQ.out wr hBr
      have HBr := hid_into hBr
      clear HLE HXE
      go_wp2_with (go_at_call 45; refine CQ.mono ?_; rintro e w8 ⟨v8, rfl, ho8, hb8⟩)
      have hB8 : Below w.heap.size w w8 := HBr.out.trans (hb8.mono HBr.out.size)
      have HB8 := hid_into hB8
      obtain ⟨ao1, cap1, rfl, hc1⟩ := St_row ho8
      have HC := hid_into hc1
      have HLT : Hid (∀ b off, ao1 = some ⟨b, off, none⟩ → ns ≠ [] → b < w8.heap.size) := fun b off e hne => by
        obtain ⟨b', off', e1, hc⟩ := hc1 hne
        rw [e] at e1
        cases e1
        obtain ⟨x, hx⟩ : ∃ x, ns[0]? = some x := ⟨_, List.getElem?_eq_getElem (List.length_pos_iff.2 hne)⟩
        exact World.block_lt_of_cell? w8 _ (hc 0 x hx)
      clear hB8 hc1 ho8 hb8 CQ hBr d0 d1 d2 d3 d4 d5 HCQ f2 hlt
      go_wp2_with fail
      go_loopw [9, 10, 11, 12, 13] (fun jv _ _ _ _ wq => ∃ j : Nat, j ≤ ns.length ∧ jv = .int .i64 (j : Int) ∧ Below w8.heap.size w8 wq) (fun jv _ _ _ _ _ => ns.length - (intOf jv).toNat)
      case atStart => exact ⟨0, Nat.zero_le _, rfl, Below.refl _ _⟩
      case round =>
        obtain ⟨j, hj, rfl, hBq⟩ := hrel
        by_cases hlt : j < ns.length
        · obtain ⟨x, hx⟩ : ∃ x, ns[j]? = some x := ⟨_, List.getElem?_eq_getElem hlt⟩
          have hne : ns ≠ [] := fun e => by rw [e] at hlt; simp at hlt
          obtain ⟨b, off, rfl, hcell⟩ := HC.out hne
          have hbl := HLT.out b off rfl hne
          have hBw := HB8.out.trans (hBq.mono HB8.out.size)
          have HS : Hid (∀ W, Below wr.heap.size wr W → (W.cell? ⟨pb, 0, none⟩ = some (.pointer (some ⟨sb, 0, none⟩)) ∧ W.cell? ⟨pb, 1, none⟩ = some (.pointer (some ⟨wb, 0, none⟩)) ∧ W.cell? ⟨b, off + j, none⟩ = some (encStr x))) := fun W hb => by
            obtain ⟨d0, d1, _⟩ := HSD.out W (hBw.trans (hb.mono hBw.size))
            refine ⟨d0, d1, ?_⟩
            exact cell_below hb (cell_below hBq (hcell j x hx) hbl) (by have := hBq.size; omega)
          have hS0 := HS.out wr.drew (Below.refl _ _).drew
          have hr0 := HA.out j x hx
          have hxl := HL.out j x hx
          have C1 := HRP.out wr.drew hBw.drew x hxl
          have HC2 : Hid (∀ W, Below wr.heap.size wr W → _) := fun W hb => HRQ.out W (hBw.trans (hb.mono hBw.size)) x
          rw [hr0] at C1
          have hzl := HZL.out x
          have f1 : (0 : Int) ≤ (j : Int) := by omega
          have f2 : (j : Int) < (ns.length : Int) := by omega
          generalize (at0U u.us x).1 = zs at *
          generalize rdE u.us x = er at *
          have hzz := hee zs
          clear hcell hx
          go_wp2_with fail
          go_region_held3 (fun y => y.cell? ⟨pb, 0, none⟩ = some (.pointer (some ⟨sb, 0, none⟩)) ∧ y.cell? ⟨pb, 1, none⟩ = some (.pointer (some ⟨wb, 0, none⟩)) ∧ y.cell? ⟨b, off + j, none⟩ = some (encStr x)) (assumption)
            (first | (go_at_call 34; refine C1.mono ?_; rintro e w10 ⟨ao10, cap10, rfl, ho10, hb10⟩; have hB10 := ((Below.refl wr.heap.size wr).drew).trans hb10; have hS10 := HS.out w10 hB10))
          have hB10d : Below wr.heap.size wr w10.drew := hB10.drew
          have hS10d := HS.out w10.drew hB10d
          have C2 := HC2.out w10.drew hB10d
          clear C1 hS0 hS10
          go_wp2_with fail
          go_region_held3 (fun y => y.cell? ⟨pb, 0, none⟩ = some (.pointer (some ⟨sb, 0, none⟩)) ∧ y.cell? ⟨pb, 1, none⟩ = some (.pointer (some ⟨wb, 0, none⟩)) ∧ y.cell? ⟨b, off + j, none⟩ = some (encStr x)) (assumption)
            (first | (go_at_call 46; refine C2.mono ?_; rintro e w11 ⟨ao11, cap11, rfl, ho11, hb11⟩; have hB11 := hB10d.trans (hb11.mono hB10d.size); have hS11 := HS.out w11 hB11))
          have ho10' : Bs w11 (.slice ao10 zs.length cap10) zs := ho10.bs.below ((Below.refl w10.heap.size w10).drew.trans hb11) (Nat.le_refl _)
          have C3 := same_any _ _ zs zs w11 ho10' ho11.bs
          rw [hzz] at C3
          clear C2 hS10d hS11
          go_wp2_with (go_at_call 26; refine C3.mono ?_; rintro e w12 ⟨rfl, hs12⟩)
          have hB12 : Below w8.heap.size w8 w12 := (hBq.trans (hB11.mono hBq.size)).trans (hs12.below _)
          go_roundw
          case rel => exact ⟨j + 1, by omega, by go_num, hB12⟩
          case measure => simp [intOf]; omega
        · have f3 : ¬ ((j : Int) < (ns.length : Int)) := by omega
          have hB9 := HB8.out.trans (hBq.mono HB8.out.size)
          go_wp2_with fail
          go_ret
          exact ⟨rfl, hB9⟩
end Go.Proofs.YtnkjhooeklodcaaGreatDoor
end

section
/-
  does: an Entry, in both.
-/
namespace Go.Proofs.YtnkjhooeklodcaaGreatDoor
open Go.RowKit Go.Maps Go.Sort

variable {w w' w1 w2 : World} {B N pb sb wb lb xb : Nat} {Z D F G H : Nat → Prop} {u u' v : Ud} {es fs : List En} {las : Nat} {sz k : Nat} {dead : Bool} {ss : List Nat} {ps : List (List Int)} {l x : Value}
/-- What Entry answers. -/
def enA (ps : List (List Int)) (n : Int) : List Int × Int := if 1 ≤ n ∧ n ≤ (ps.length : Int) then (ps.getD (n - 1).toNat [], 0) else ([], 7)
theorem enA_at {es : List En} (he : es.map (·.2) = ps) {n : Int} (hn : 1 ≤ n ∧ n ≤ (ps.length : Int)) : ∃ (i : Nat) (r : En), n = (i : Int) + 1 ∧ es[i]? = some r ∧ enA ps n = (r.2, 0) := by
  have hl : es.length = ps.length := by rw [← he]; simp
  obtain ⟨r, hr⟩ : ∃ r, es[(n - 1).toNat]? = some r := ⟨_, List.getElem?_eq_getElem (by omega)⟩
  refine ⟨(n - 1).toNat, r, by omega, hr, ?_⟩
  have h1 : ps[(n - 1).toNat]? = some r.2 := by rw [← he, List.getElem?_map, hr]; rfl
  unfold enA
  rw [if_pos hn, List.getD_eq_getElem?_getD, h1]
  rfl
theorem enA_no {n : Int} (hn : ¬ (1 ≤ n ∧ n ≤ (ps.length : Int))) : enA ps n = ([], 7) := by unfold enA; rw [if_neg hn]
theorem LEn2 (h : Hs w B Z pb sb wb lb xb u ps las ss sz dead k) (n : Int) :
    Calls Tryz.prog 25 #[.pointer (some ⟨lb, 0, none⟩), .int .i64 n] w fun e w' => ∃ ao cap, e = .returned (.tuple #[.slice ao (enA ps n).1.length cap, .int .i64 (enA ps n).2]) ∧ Ow w' w.heap.size (.slice ao (enA ps n).1.length cap) (enA ps n).1 ∧ Below w.heap.size w w' := by
  obtain ⟨D, F, G, H, es, fs, hT, he, hf, hS, _⟩ := h
  obtain ⟨ev, nv, hl⟩ := hT.l.l
  by_cases hn : 1 ≤ n ∧ n ≤ (ps.length : Int)
  · obtain ⟨i, r, rfl, hr, hA⟩ := enA_at he hn
    rw [hA]
    exact LEntry_any i r w hl hr
  · rw [enA_no hn]
    refine (LEntry_no n w hl (by have hl : es.length = ps.length := by { rw [← he]; simp }; omega)).mono ?_
    rintro e w' ⟨rfl, rfl⟩
    exact ⟨none, 0, rfl, World.ownsRow_nil _ _ _ _, Below.refl _ _⟩
theorem XEn2 (h : Hs w B Z pb sb wb lb xb u ps las ss sz dead k) (n : Int) :
    Calls Tryz.prog 43 #[.pointer (some ⟨xb, 0, none⟩), .int .i64 n] w fun e w' => ∃ ao cap, e = .returned (.tuple #[.slice ao (enA ps n).1.length cap, .int .i64 (enA ps n).2]) ∧ Ow w' w.heap.size (.slice ao (enA ps n).1.length cap) (enA ps n).1 ∧ Below w.heap.size w w' := by
  obtain ⟨D, F, G, H, es, fs, hT, he, hf, hS, _⟩ := h
  obtain ⟨ev, nv, hl⟩ := hT.x.l
  by_cases hn : 1 ≤ n ∧ n ≤ (ps.length : Int)
  · obtain ⟨i, r, rfl, hr, hA⟩ := enA_at hf hn
    rw [hA]
    exact XEntry_any i r w hl hr
  · rw [enA_no hn]
    refine (XEntry_no n w hl (by have hl : fs.length = ps.length := by { rw [← hf]; simp }; omega)).mono ?_
    rintro e w' ⟨rfl, rfl⟩
    exact ⟨none, 0, rfl, World.ownsRow_nil _ _ _ _, Below.refl _ _⟩
theorem enA_len (h : Hs w B Z pb sb wb lb xb u ps las ss sz dead k) (n : Int) : (enA ps n).1.length ≤ 65536 := by
  obtain ⟨D, F, G, H, es, fs, hT, he, hf, hS, _⟩ := h
  obtain ⟨ev, nv, hl⟩ := hT.l.l
  by_cases hn : 1 ≤ n ∧ n ≤ (ps.length : Int)
  · obtain ⟨i, r, rfl, hr, hA⟩ := enA_at he hn
    rw [hA]
    exact (hl.each r (List.mem_of_getElem? hr)).2.2.1
  · rw [enA_no hn]
    exact Nat.zero_le _
/-- What a step leaves that laid nothing. -/
def DoQ (w : World) (B pb sb wb lb xb : Nat) (u : Ud) (ps : List (List Int)) (las : Nat) (ss : List Nat) (sz : Nat) (dead : Bool) (k : Nat) (e : Ending) (w' : World) : Prop :=
  e = .returned (.bool true) ∧ Grows (fun j => B ≤ j) w w' ∧ Hs w' B (fun j => j < w'.heap.size) pb sb wb lb xb u ps las ss sz dead k
set_option maxHeartbeats 8000000 in
set_option maxRecDepth 100000 in
theorem does5 (h : Hs w B Z pb sb wb lb xb u ps las ss sz dead k) (hc : Cx w B) (c x1 : Int) (k1 : c ≠ 1) (k2 : c ≠ 2) (k3 : c ≠ 3) (k4 : c ≠ 4) (k6 : c ≠ 6) (sv : Value) (hsv : ∃ ao m cap, sv = .slice ao m cap) (t : Int) :
    Calls Tryz.prog 12 #[.pointer (some ⟨pb, 0, none⟩), .agg #[.int .i64 c, .int .i64 x1, sv, .int .u8 t]] w (DoQ w B pb sb wb lb xb u ps las ss sz dead k) := by
  obtain ⟨ao, m, cap, rfl⟩ := hsv
  have hB1 : Below w.heap.size w (w.alloc (.cells #[.int .i64 c, .int .i64 x1, .slice ao m cap, .int .u8 t] 40)) := (Below.refl _ _).alloc (Nat.le_refl _) _
  have hw1 : Cw (w.alloc (.cells #[.int .i64 c, .int .i64 x1, .slice ao m cap, .int .u8 t] 40)) w.heap.size [.int .i64 c, .int .i64 x1, .slice ao m cap, .int .u8 t] 40 := Cw.new w [.int .i64 c, .int .i64 x1, .slice ao m cap, .int .u8 t] 40
  have hs1 : (w.alloc (.cells #[.int .i64 c, .int .i64 x1, .slice ao m cap, .int .u8 t] 40)).heap.size = w.heap.size + 1 := World.size_alloc _ _
  have c0 := hw1.cell 0
  simp only [List.getElem?_cons_zero] at c0
  have e1 : (c == 1) = false := beq_eq_false_iff_ne.2 k1
  have e2 : (c == 2) = false := beq_eq_false_iff_ne.2 k2
  have e3 : (c == 3) = false := beq_eq_false_iff_ne.2 k3
  have e4 : (c == 4) = false := beq_eq_false_iff_ne.2 k4
  have e6 : (c == 6) = false := beq_eq_false_iff_ne.2 k6
  have hbw := hc.bw
  obtain ⟨W1, hW1⟩ : ∃ W1, w.alloc (.cells #[.int .i64 c, .int .i64 x1, .slice ao m cap, .int .u8 t] 40) = W1 := ⟨_, rfl⟩
  rw [hW1] at hB1 hw1 hs1 c0
  have HH : Hid (∀ W, Below W1.heap.size W1 W → Hs W B Z pb sb wb lb xb u ps las ss sz dead k) := fun W hb => (h.below hB1).below hb
  have HS : Hid (∀ W, Below W1.heap.size W1 W → (W.cell? ⟨pb, 2, none⟩ = some (.pointer (some ⟨lb, 0, none⟩)) ∧ W.cell? ⟨pb, 3, none⟩ = some (.pointer (some ⟨xb, 0, none⟩)) ∧ W.cell? ⟨w.heap.size, 1, none⟩ = some (.int .i64 x1))) := fun W hb => by
    have hp := (HH.out W hb).pair
    exact ⟨hp.cell 2, hp.cell 3, (hw1.below hb hw1.lt).cell 1⟩
  have hd1 : Below W1.heap.size W1 W1.drew := (Below.refl _ _).drew
  have CA := LEn2 (HH.out W1.drew hd1) x1
  have HX : Hid (∀ W, Below W1.heap.size W1 W → _) := fun W hb => XEn2 (HH.out W hb) x1
  have hel := enA_len h x1
  have hSt := HS.out W1.drew hd1
  generalize enA ps x1 = ea at *
  obtain ⟨zs, er⟩ := ea
  have hzz : eqB zs zs = true := by simp [eqB]
  clear h hc
  go_enter Tryz.func12, Tryz.ntmps12
  go_wp2_with fail
  go_region_held3 (fun y => y.cell? ⟨pb, 2, none⟩ = some (.pointer (some ⟨lb, 0, none⟩)) ∧ y.cell? ⟨pb, 3, none⟩ = some (.pointer (some ⟨xb, 0, none⟩)) ∧ y.cell? ⟨w.heap.size, 1, none⟩ = some (.int .i64 x1)) (assumption)
    (first | (go_at_call 25; refine CA.mono ?_; rintro e w2 ⟨ao2, cap2, rfl, ho2, hb2⟩; have hB2 : Below W1.heap.size W1 w2 := hd1.trans hb2; have hS2 := HS.out w2 hB2))
  have hB2d : Below W1.heap.size W1 w2.drew := hB2.drew
  have hS2d := HS.out w2.drew hB2d
  have CX := HX.out w2.drew hB2d
  clear CA hS2 hSt
  go_wp2_with fail
  go_region_held3 (fun y => y.cell? ⟨pb, 2, none⟩ = some (.pointer (some ⟨lb, 0, none⟩)) ∧ y.cell? ⟨pb, 3, none⟩ = some (.pointer (some ⟨xb, 0, none⟩)) ∧ y.cell? ⟨w.heap.size, 1, none⟩ = some (.int .i64 x1)) (assumption)
    (first | (go_at_call 43; refine CX.mono ?_; rintro e w3 ⟨ao3, cap3, rfl, ho3, hb3⟩; have hB3 : Below W1.heap.size W1 w3 := hB2d.trans (hb3.mono hB2d.size); have hS3 := HS.out w3 hB3))
  have ho2' : Ow w3 W1.heap.size (.slice ao2 zs.length cap2) zs := ownsRow_below ho2 ((Below.refl w2.heap.size w2).drew.trans hb3)
  have C3 := same_any _ _ zs zs w3 (Ow.bs ho2') (Ow.bs ho3)
  rw [hzz] at C3
  clear CX hS2d hS3
  go_wp2_with fail
  refine C3.mono ?_
  rintro e w4 ⟨rfl, hs4⟩
  have hB4 : Below W1.heap.size W1 w4 := hB3.trans (hs4.below _)
  have ho4 : Ow w4 W1.heap.size (.slice ao2 zs.length cap2) zs := ownsRow_below ho2' (hs4.below _)
  have C4 := spoil_any W1.heap.size _ zs w4 ho4 hB4.size (by omega)
  have HOWN : Hid (∀ q, (Value.slice ao2 zs.length cap2).ownBlock = some q → W1.heap.size ≤ q) := fun q hq => (World.ownsRow.lt ho4 q hq).1
  clear C3
  go_wp2_with fail
  refine C4.mono ?_
  rintro e w5 ⟨rfl, hg5⟩
  have HF : Hid (DoQ w B pb sb wb lb xb u ps las ss sz dead k (.returned (.bool true)) w5) := by
    have hB5 : Below W1.heap.size W1 w5 := hB4.trans ⟨hg5.os, hg5.tape, hg5.output, hg5.size, fun q hq => hg5.block q (by have := hB4.size; omega) (fun e => by have := HOWN.out q e.symm; omega)⟩
    have hB : Below w.heap.size w w5 := hB1.trans (hB5.mono hB1.size)
    refine ⟨rfl, ⟨hB.os, hB.tape, hB.output, hB.size, fun j hj hn => hB.block j hj⟩, (HH.out w5 hB5).tight⟩
  clear C4 hg5 hB4 hs4
  go_wp2_with fail
  go_ret
  exact HF.out
end Go.Proofs.YtnkjhooeklodcaaGreatDoor
end
