/-
  Joined from: SegKnow, SegWh, SegWh2, SegWh3, SegWh4, SegTorn2, SegWh5.
-/
import Derived.Test.YtnkjhooeklodcaaGreatDoorM47
import Derived.Lib.SlBytesConst
import Derived.Test.YtnkjhooeklodcaaGreatDoorM39
import Derived.Test.YtnkjhooeklodcaaGreatDoorM46
section
/-
  The law's known: what was synced, and not more. It answers true, and writes nothing that was there.
-/
namespace Go.Proofs.YtnkjhooeklodcaaGreatDoor
open Go.RowKit Go.Maps Go.Sort
open Fr (entN takeR decE)

variable {w w' : World}
theorem xq_take (m i : Nat) (t : Int) (ys : List Int) (l : Nat) (h : l ≤ m) : (xq m i t ys).take l = ys.take l := by
  apply List.ext_getElem
  · simp [xq]
  · intro j h1 h2
    have hj : j < l := by rw [List.length_take] at h1; omega
    simp only [List.getElem_take, xq, List.getElem_mapIdx]
    rw [if_neg (by omega)]
theorem crB_form (zs : List Int) (l k : Nat) (t : Int) (hl : l ≤ zs.length) : ∃ tail, crB zs l k t = zs.take l ++ tail ∧ tail.length = k % (zs.length - l + 1) := by
  have hn := crN_le zs l k hl
  have hlen : (crB zs l k t).length = crN zs l k := by
    unfold crB
    rw [xq_length, List.length_take]
    omega
  have h1 : (crB zs l k t).take l = zs.take l := by
    unfold crB crM
    rw [xq_take _ _ _ _ _ (Nat.le_max_left _ _), List.take_take, Nat.min_eq_left]
    unfold crN
    omega
  refine ⟨(crB zs l k t).drop l, ?_, ?_⟩
  · rw [← h1, List.take_append_drop]
  · rw [List.length_drop, hlen]
    unfold crN
    omega
theorem takeR_short {zs : List Int} (n : Int) (h : zs.length < 8) : takeR n zs = none := by
  unfold Fr.takeR
  rw [if_neg]
  intro e
  have h1 := Fr.headE_short h
  rw [Fr.decE_head (by rw [h1]; decide), h1] at e
  exact absurd e.1 (by decide)
def nm1 : Nm := nameN [97] 1
theorem nm1_bad : badN nm1 = false := by
  unfold badN nm1
  rw [nameN_len [97] 1 (by decide)]
  decide
theorem full_no {us : Us} {x : Nm} {m : Nat} {room : Int} (h1 : (totU us : Int) + (m : Int) ≤ room) (h2 : us.length < 4096) : fullU us x m room = false := by
  unfold fullU
  rw [decide_eq_false (by omega), decide_eq_false (by omega)]
  simp
theorem wr_free {u : Ud} (hl : u.left = -1) {x : Nm} (hb : badN x = false) (b : List Int) (h1 : (totU u.us : Int) + (b.length : Int) ≤ u.room) (h2 : u.us.length < 4096) : u.five [x] (wrU x b u.room) = (0, ⟨u.room, ptU u.us x ((at0U u.us x).1 ++ b, (at0U u.us x).2), -1⟩) := by
  rw [five_free hl hb]
  unfold wrU
  rw [if_neg (by rw [full_no h1 h2]; decide)]
theorem ap_first (p : List Int) (sz : Nat) (hp : p.length ≤ 1000) : apO [97] ⟨10000, [], -1⟩ [] 0 [] sz false p = ⟨1, 0, ⟨10000, [(nm1, entN 1 p, 0)], -1⟩, [p], 0, [1], (entN 1 p).length, false⟩ := by
  have hb := (ent_le 0 p).2
  have e1 : (((([] : List (List Int)).length : Nat) : Int) + 1) = 1 := rfl
  rw [show (((0 : Nat) : Int) + 1) = 1 from rfl] at hb
  unfold apO
  rw [if_neg (by decide), if_neg (by omega), if_neg (fun e => e.1 rfl)]
  have e2 : syS ⟨10000, [], -1⟩ ([] : List (List Int)).length 0 (nameN [97] (lastS [])) [] = (0, ⟨10000, [], -1⟩, 0, false) := if_pos rfl
  rw [e2, if_neg (fun e => e rfl), e1]
  have e3 := wr_free (u := ⟨10000, [], -1⟩) rfl nm1_bad (entN 1 p) (by show ((0 : Nat) : Int) + ((entN 1 p).length : Int) ≤ 10000; omega) (by decide)
  have e4 : (⟨10000, [], -1⟩ : Ud).five [nm1] (wrU nm1 (entN 1 p) 10000) = (0, ⟨10000, [(nm1, entN 1 p, 0)], -1⟩) := e3
  show apW ((⟨10000, [], -1⟩ : Ud).five [nm1] (wrU nm1 (entN 1 p) 10000)) [] p 0 [] [1] sz (entN 1 p).length = _
  rw [e4]
  rfl
theorem ap_more (zs : List Int) (l : Nat) (ps : List (List Int)) (las sz : Nat) (p : List Int) (hp : p.length ≤ 1000) (hz : sz < 512) (hzs : zs.length ≤ 5000) : apO [97] ⟨10000, [(nm1, zs, l)], -1⟩ ps las [1] sz false p = ⟨(ps.length : Int) + 1, 0, ⟨10000, [(nm1, zs ++ entN ((ps.length : Int) + 1) p, l)], -1⟩, ps ++ [p], las, [1], sz + (entN ((ps.length : Int) + 1) p).length, false⟩ := by
  have hb := (ent_le ps.length p).2
  unfold apO
  rw [if_neg (by decide), if_neg (by omega), if_pos ⟨by simp, hz⟩]
  have e3 := wr_free (u := ⟨10000, [(nm1, zs, l)], -1⟩) rfl nm1_bad (entN ((ps.length : Int) + 1) p) (by show ((totU [(nm1, zs, l)] : Nat) : Int) + _ ≤ 10000; simp [totU]; omega) (by show 1 < 4096; decide)
  have e4 : ptU [(nm1, zs, l)] nm1 ((at0U [(nm1, zs, l)] nm1).1 ++ entN ((ps.length : Int) + 1) p, (at0U [(nm1, zs, l)] nm1).2) = [(nm1, zs ++ entN ((ps.length : Int) + 1) p, l)] := by
    simp [ptU, dlU, insU, at0U, lkU]
  have e5 : (⟨10000, [(nm1, zs, l)], -1⟩ : Ud).five [nm1] (wrU nm1 (entN ((ps.length : Int) + 1) p) 10000) = (0, ⟨10000, [(nm1, zs ++ entN ((ps.length : Int) + 1) p, l)], -1⟩) := by
    rw [← e4]; exact e3
  show apW ((⟨10000, [(nm1, zs, l)], -1⟩ : Ud).five [nm1] (wrU nm1 (entN ((ps.length : Int) + 1) p) 10000)) ps p las [1] [1] sz (sz + (entN ((ps.length : Int) + 1) p).length) = _
  rw [e5]
  rfl
theorem sy_one (zs : List Int) (l : Nat) (ps : List (List Int)) (las sz : Nat) (h : las ≠ ps.length) : syO [97] ⟨10000, [(nm1, zs, l)], -1⟩ ps las [1] sz false = ⟨0, 0, ⟨10000, [(nm1, zs, zs.length)], -1⟩, ps, ps.length, [1], sz, false⟩ := by
  have e1 : (⟨10000, [(nm1, zs, l)], -1⟩ : Ud).five [nm1] (syU nm1) = (0, ⟨10000, [(nm1, zs, zs.length)], -1⟩) := by
    rw [five_free rfl nm1_bad]
    simp [syU, lkU, ptU, dlU, insU]
  have e2 : syL ⟨10000, [(nm1, zs, l)], -1⟩ ps.length las nm1 false = (0, ⟨10000, [(nm1, zs, zs.length)], -1⟩, ps.length, false) := by
    unfold syL
    rw [if_neg (by decide), if_neg h, e1]
    simp
  unfold syO
  rw [show nameN [97] (lastS [1]) = nm1 from rfl, e2]
theorem know_read (ps : List (List Int)) (hps : ∀ q ∈ ps, Epl q) (hne : ps ≠ []) (hl : ps.length ≤ 1000) (b3 : List Int) (hb3 : 13 ≤ b3.length) (t : Int) :
    (openF [97] ((⟨10000, [(nm1, entsN 0 ps ++ b3, (entsN 0 ps).length)], -1⟩ : Ud).crash 3 t)).2.1 = ps := by
  obtain ⟨tail, e1, e2⟩ := crB_form (entsN 0 ps ++ b3) (entsN 0 ps).length 3 t (by rw [List.length_append]; omega)
  rw [List.take_left] at e1
  rw [List.length_append, Nat.add_sub_cancel_left, Nat.mod_eq_of_lt (by omega)] at e2
  have hc : (⟨10000, [(nm1, entsN 0 ps ++ b3, (entsN 0 ps).length)], -1⟩ : Ud).crash 3 t = ⟨10000, [(nm1, entsN 0 ps ++ tail, crN (entsN 0 ps ++ b3) (entsN 0 ps).length 3)], -1⟩ := by
    show (⟨10000, [crA 3 t (nm1, entsN 0 ps ++ b3, (entsN 0 ps).length)], -1⟩ : Ud) = _
    unfold crA
    simp only [e1]
  rw [hc]
  generalize crN (entsN 0 ps ++ b3) (entsN 0 ps).length 3 = l
  have hseg : isSeg nm1 [97] = true := isSeg_name [97] (by decide)
  have hL : segsN (([(nm1, entsN 0 ps ++ tail, l)] : Us).map (·.1)) [97] = [nm1] := by simp [segsN, hseg]
  have hnum : numV (nm1.drop [97].length) = 1 := (seg_name hseg (by decide)).1 rfl
  have hat : (at0U [(nm1, entsN 0 ps ++ tail, l)] nm1).1 = entsN 0 ps ++ tail := by simp [at0U, lkU]
  have hrd := rdF_ents ps 0 tail hps (by omega) (takeR_short _ (by omega))
  have hlen0 : (entsN 0 ps).length ≠ 0 := by
    cases ps with
    | nil => exact absurd rfl hne
    | cons q qs =>
      have := (ent_le 0 q).1
      simp only [entsN, List.length_append]
      omega
  have hop : (opF [97] ⟨10000, [(nm1, entsN 0 ps ++ tail, l)], -1⟩ [nm1] 1).2.1 = ps := by
    simp only [opF, hat, Nat.sub_self, hrd]
    rw [if_neg (by rw [List.length_append]; omega), if_neg (by simp [allU]), if_neg (fun e => e.elim (fun h => h hnum) hlen0)]
  unfold openF
  simp only [hL]
  split
  · exact hop
  · exact hop
theorem DoP.cx {B pb sb wb lb xb k : Nat} {o : ApO} {e : Ending} (h : DoP w B pb sb wb lb xb o k e w') (hc : Cx w B) : Cx w' B := hc.grows h.2.1 fun _ e => e
theorem byt1 (z : Int) (h : 0 ≤ z ∧ z < 256) : Byt [z] := fun y hy => by rw [List.mem_singleton.1 hy]; exact h
def Kn (w : World) (B pb : Nat) (u : Ud) (ps : List (List Int)) (las : Nat) (ss : List Nat) (k : Nat) (w' : World) : Prop :=
  Grows (fun j => B ≤ j) w w' ∧ Cx w' B ∧ ∃ sb wb lb xb sz, Hs w' B (fun j => j < w'.heap.size) pb sb wb lb xb u ps las ss sz false k ∧ (ss ≠ [] → lenU u.us (nameN [97] (lastS ss)) = sz)
theorem Kn.mk {w0 : World} {B pb sb wb lb xb las sz k : Nat} {u : Ud} {ps : List (List Int)} {ss : List Nat} (hg : Grows (fun j => B ≤ j) w0 w) (hc : Cx w B) (h : Hs w B (fun j => j < w.heap.size) pb sb wb lb xb u ps las ss sz false k) : Kn w0 B pb u ps las ss k w := by
  refine ⟨hg, hc, sb, wb, lb, xb, sz, h, ?_⟩
  obtain ⟨_, _, _, _, _, _, _, _, _, h4, _⟩ := h
  exact h4.szq
theorem kn_append {w0 w1 : World} {B pb las k : Nat} {u u' : Ud} {ps ps' : List (List Int)} {ss ss' : List Nat} {las' : Nat} (h : Kn w0 B pb u ps las ss k w1) (hk : k ≤ 1000) (z : Int) (hz : 0 ≤ z ∧ z < 256) (ho : ∀ sz, (ss ≠ [] → lenU u.us (nameN [97] (lastS ss)) = sz) → ∃ sz' n, apO [97] u ps las ss sz false [z] = ⟨n, 0, u', ps', las', ss', sz', false⟩) :
    Calls Tryz.prog 12 #[.pointer (some ⟨pb, 0, none⟩), .agg #[.int .i64 1, .int .i64 0, .slice (some ⟨w1.heap.size, 0, none⟩) 1 1, .int .u8 0]] (w1.alloc (.cells #[.int .u8 z] 5 (1, 2))) fun e w' => e = .returned (.bool true) ∧ Kn w0 B pb u' ps' las' ss' (k + 1) w' := by
  obtain ⟨hg, hc, sb, wb, lb, xb, sz, hH, hsz⟩ := h
  obtain ⟨sz', n, e⟩ := ho sz hsz
  have hA : Below w1.heap.size w1 (w1.alloc (.cells #[.int .u8 z] 5 (1, 2))) := (Below.refl _ _).alloc (Nat.le_refl _) _
  have hbs : Bs (w1.alloc (.cells #[.int .u8 z] 5 (1, 2))) (.slice (some ⟨w1.heap.size, 0, none⟩) [z].length 1) [z] := Bs_of_block (zs := [z]) (heap_alloc_new w1 _) (by simp [maxLen])
  have hcA : Cx (w1.alloc (.cells #[.int .u8 z] 5 (1, 2))) B := hc.below (hA.mono hc.bw)
  have C := does1 (hH.below hA) hk hcA (fun j hj => Nat.lt_of_lt_of_le hj hA.size) 0 (some ⟨w1.heap.size, 0, none⟩) 1 [z] hbs (byt1 z hz) (by simp) (fun _ j hj => Or.inr fun e => by
    simp only [Value.ownBlock, Option.some.injEq] at hj
    have e' : j < w1.heap.size := e
    omega) 0
  rw [e] at C
  refine C.mono fun e w' hD => ?_
  have hcx := hD.cx hcA
  obtain ⟨rfl, hg2, hH2⟩ := hD
  refine ⟨rfl, Kn.mk ⟨hg2.os.trans (hA.os.trans hg.os), hg2.tape.trans (hA.tape.trans hg.tape), hg2.output.trans (hA.output.trans hg.output), Nat.le_trans hg.size (Nat.le_trans hA.size hg2.size), fun j hj hn => ?_⟩ hcx hH2⟩
  have h1 := hg.size
  have h2 := hA.size
  rw [hg2.block j (by omega) hn, hA.block j (by omega)]
  exact hg.block j hj hn
theorem kn_sync {w0 w1 : World} {B pb las k : Nat} {u u' : Ud} {ps : List (List Int)} {ss : List Nat} {las' : Nat} (h : Kn w0 B pb u ps las ss k w1) (hk : k ≤ 1000) (ho : ∀ sz, syO [97] u ps las ss sz false = ⟨0, 0, u', ps, las', ss, sz, false⟩) :
    Calls Tryz.prog 12 #[.pointer (some ⟨pb, 0, none⟩), .agg #[.int .i64 2, .int .i64 0, .slice none 0 0, .int .u8 0]] w1 fun e w' => e = .returned (.bool true) ∧ Kn w0 B pb u' ps las' ss (k + 1) w' := by
  obtain ⟨hg, hc, sb, wb, lb, xb, sz, hH, hsz⟩ := h
  have C := does2 hH hk hc 0 (.slice none 0 0) ⟨_, _, _, rfl⟩ 0
  rw [ho] at C
  refine C.mono fun e w' hD => ?_
  have hcx := hD.cx hc
  obtain ⟨rfl, hg2, hH2⟩ := hD
  exact ⟨rfl, Kn.mk (hg.trans hg2 fun j hj => Or.inl hj) hcx hH2⟩
theorem kn_crash {w0 w1 : World} {B pb las k : Nat} {u : Ud} {ps ps' : List (List Int)} {ss : List Nat} (h : Kn w0 B pb u ps las ss k w1) (n : Int) (hn : (Lit.int .i64 n).wf = true) (ho : (openF [97] (u.crash n 0)).2.1 = ps') :
    Calls Tryz.prog 12 #[.pointer (some ⟨pb, 0, none⟩), .agg #[.int .i64 3, .int .i64 n, .slice none 0 0, .int .u8 0]] w1 fun e w' => e = .returned (.bool true) ∧ ∃ u' ss', Kn w0 B pb u' ps' ps'.length ss' 0 w' := by
  obtain ⟨hg, hc, sb, wb, lb, xb, sz, hH, hsz⟩ := h
  refine (does3 hH hc n hn (.slice none 0 0) ⟨_, _, _, rfl⟩ 0 (by decide)).mono ?_
  rintro e w' ⟨rfl, hg2, _, lb2, xb2, sz2, hH2⟩
  rw [ho] at hH2
  exact ⟨rfl, _, _, Kn.mk (hg.trans hg2 fun j hj => Or.inl hj) (hc.grows hg2 fun _ e => e) hH2⟩
set_option maxHeartbeats 8000000 in
set_option maxRecDepth 100000 in
theorem known_any (w : World) (hc : Cx w w.heap.size) : Calls Tryz.prog 10 #[] w fun e w' => e = .returned (.bool true) ∧ Below w.heap.size w w' := by
  have kc := fun (w : World) (C : Array Value) (n c : Nat) => Lib.run_convert_bytes_const (P := Tryz.prog) w 38 5 C n c Tryz.underlying38 Tryz.underlying5
  have CS := start_any 10000 (by decide) w hc
  have HC := hid_into hc
  clear hc
  go_enter Tryz.func10, Tryz.ntmps10
  go_wp2_with fail
  refine CS.mono ?_
  rintro e w1 ⟨pb, rfl, hb1, sb, wb, lb, xb, sz, hH1⟩
  have hK1 : Kn w w.heap.size pb ⟨10000, [], -1⟩ [] 0 [] 0 w1 := Kn.mk ⟨hb1.os, hb1.tape, hb1.output, hb1.size, fun j _ hn => hb1.block j (by omega)⟩ (HC.out.below hb1) hH1
  have el1 : (entN 1 [97]).length = 14 := by rw [show (1 : Int) = ((0 : Nat) : Int) + 1 from rfl, ent_len]; rfl
  have el2 : (entN 2 [98]).length = 14 := by rw [show (2 : Int) = ((1 : Nat) : Int) + 1 from rfl, ent_len]; rfl
  have el3 : (entN 3 [99]).length = 14 := by rw [show (3 : Int) = ((2 : Nat) : Int) + 1 from rfl, ent_len]; rfl
  have C1 := kn_append hK1 (by decide) 97 (by decide) fun sz _ => ⟨_, _, ap_first [97] sz (by decide)⟩
  clear CS hH1 hK1
  go_wp2_with fail
  refine C1.mono ?_
  rintro e w2 ⟨rfl, hK2⟩
  have at1 : ∀ (zs : List Int) (l : Nat), lenU [(nm1, zs, l)] (nameN [97] (lastS [1])) = zs.length := fun zs l => by
    show lenU [(nm1, zs, l)] nm1 = _
    simp [lenU, at0U, lkU]
  have C2 := kn_append (u' := ⟨10000, [(nm1, entN 1 [97] ++ entN 2 [98], 0)], -1⟩) (ps' := [[97], [98]]) (ss' := [1]) (las' := 0) hK2 (by decide) 98 (by decide) fun sz hsz => by
    have := hsz (by simp)
    rw [at1, el1] at this
    exact ⟨_, _, ap_more (entN 1 [97]) 0 [[97]] 0 sz [98] (by decide) (by omega) (by omega)⟩
  clear C1 hK2
  go_wp2_with fail
  refine C2.mono ?_
  rintro e w3 ⟨rfl, hK3⟩
  have C3 := kn_sync (u' := ⟨10000, [(nm1, entN 1 [97] ++ entN 2 [98], 28)], -1⟩) (las' := 2) hK3 (by decide) fun sz => by
    have := sy_one (entN 1 [97] ++ entN 2 [98]) 0 [[97], [98]] 0 sz (by decide)
    rw [List.length_append, el1, el2] at this
    exact this
  clear C2 hK3
  go_wp2_with fail
  refine C3.mono ?_
  rintro e w4 ⟨rfl, hK4⟩
  have C4 := kn_append (u' := ⟨10000, [(nm1, entN 1 [97] ++ entN 2 [98] ++ entN 3 [99], 28)], -1⟩) (ps' := [[97], [98], [99]]) (ss' := [1]) (las' := 2) hK4 (by decide) 99 (by decide) fun sz hsz => by
    have := hsz (by simp)
    rw [at1, List.length_append, el1, el2] at this
    exact ⟨_, _, ap_more (entN 1 [97] ++ entN 2 [98]) 28 [[97], [98]] 2 sz [99] (by decide) (by omega) (by rw [List.length_append]; omega)⟩
  clear C3 hK4
  go_wp2_with fail
  refine C4.mono ?_
  rintro e w5 ⟨rfl, hK5⟩
  have e12 : entsN 0 [[97], [98]] = entN 1 [97] ++ entN 2 [98] := by
    show entN _ _ ++ (entN _ _ ++ []) = _
    rw [List.append_nil]
    rfl
  have hE : ∀ q ∈ ([[97], [98]] : List (List Int)), Epl q := by
    intro q hq
    rcases List.mem_cons.1 hq with rfl | hq
    · exact ⟨byt1 97 (by decide), by decide⟩
    · rw [List.mem_singleton.1 hq]
      exact ⟨byt1 98 (by decide), by decide⟩
  have hkr := know_read [[97], [98]] hE (by simp) (by decide) (entN 3 [99]) (by omega) 0
  rw [e12, List.length_append, el1, el2] at hkr
  have C5 := kn_crash hK5 3 (by decide) hkr
  clear C4 hK5
  go_wp2_with fail
  refine C5.mono ?_
  rintro e w6 ⟨rfl, u6, ss6, hg6, hc6, sb6, wb6, lb6, xb6, sz6, hH6, _⟩
  have hb6 : Below w.heap.size w w6 := ⟨hg6.os, hg6.tape, hg6.output, hg6.size, fun j hj => hg6.block j hj (by omega)⟩
  have cp6 : w6.cell? ⟨pb, 2, none⟩ = some (.pointer (some ⟨lb6, 0, none⟩)) := hH6.pair.cell 2
  obtain ⟨D6, F6, G6, H6, es6, fs6, hT6, he6, _, _, _⟩ := hH6
  obtain ⟨ev6, nv6, hl6⟩ := hT6.l.l
  have hel6 : es6.length = 2 := by
    have := congrArg List.length he6
    simpa using this
  have CN := LNext_any w6 hl6
  have hpb6 := hT6.p.lt
  rw [hel6] at CN
  obtain ⟨r, hr⟩ : ∃ r, es6[1]? = some r := ⟨_, List.getElem?_eq_getElem (by omega)⟩
  have hr2 : r.2 = [98] := by
    have h1 : (es6.map (·.2))[1]? = some r.2 := by rw [List.getElem?_map, hr]; rfl
    rw [he6] at h1
    simpa using h1.symm
  have CE := fun (w7 : World) (hs : Sm w6 w7) => LEntry_any 1 r w7 (hl6.sm hs) hr
  rw [hr2] at CE
  clear C5 hT6 hl6 hr he6
  go_wp2_with fail
  refine CN.mono ?_
  rintro e w7 ⟨rfl, hs7⟩
  have cp7 : w7.cell? ⟨pb, 2, none⟩ = some (.pointer (some ⟨lb6, 0, none⟩)) := hs7.cellH cp6
  clear CN
  go_wp2_with fail
  refine (CE w7 hs7).mono ?_
  rintro e w8 ⟨ao8, cap8, rfl, ho8, hb8⟩
  have b9 : Bs (w8.alloc (.cells #[.int .u8 98] 5 (1, 2))) (.slice (some ⟨w8.heap.size, 0, none⟩) 1 1) [98] := Bs_of_block (zs := [98]) (heap_alloc_new w8 _) (by simp [maxLen])
  have b8 : Bs (w8.alloc (.cells #[.int .u8 98] 5 (1, 2))) (.slice ao8 [98].length cap8) [98] := ho8.bs.below ((Below.refl _ w8).alloc (Nat.le_refl _) _) (Nat.le_refl _)
  have CQ := same_any _ _ _ _ _ b8 b9
  have hz7 := hs7.size
  have hb89 : Below w.heap.size w w8 := (hb6.trans (hs7.below _)).trans (hb8.mono (by rw [hz7]; exact hb6.size))
  clear CE ho8 b8 b9
  go_wp2_with fail
  refine CQ.mono ?_
  rintro e w9 ⟨rfl, hs9⟩
  rw [eqB_true rfl]
  have HB9 : Hid (Below w.heap.size w w9) := (hb89.alloc hb89.size _).trans (hs9.below _)
  clear hs9 CQ hb89
  go_wp2_with fail
  go_ret
  exact ⟨rfl, HB9.out⟩
end Go.Proofs.YtnkjhooeklodcaaGreatDoor
end

section
/-
  Whole segments, one behind the other (Seg), and what an opening reads of them. Plain facts; no walk.
-/
namespace Go.Proofs.YtnkjhooeklodcaaGreatDoor
open Go.RowKit Go.Maps Go.Sort

def strt : Nat → List (List (List Int)) → List Nat
  | _, [] => []
  | n, c :: cs => (n + 1) :: strt (n + c.length) cs
def Seg (pre : List UInt8) (us : Us) : Nat → List (List (List Int)) → Prop
  | _, [] => True
  | n, c :: cs => c ≠ [] ∧ (lkU us (nameN pre (n + 1))).isSome = true ∧ (at0U us (nameN pre (n + 1))).1 = entsN n c ∧ Seg pre us (n + c.length) cs
theorem numV_name (pre : List UInt8) {n : Nat} (hn : n < 100000000) : numV ((nameN pre n).drop pre.length) = n := (seg_name (isSeg_name pre hn) hn).1 rfl
theorem opF_whole (pre : List UInt8) (u : Ud) (L : List Nm) : ∀ (cs : List (List (List Int))) (n : Nat), Seg pre u.us n cs → (∀ c ∈ cs, ∀ p ∈ c, Epl p) → n + cs.flatten.length ≤ 9000000 →
    opF pre u (namesN pre (strt n cs) ++ L) (n + 1) = ((opF pre u L (n + cs.flatten.length + 1)).1, cs.flatten ++ (opF pre u L (n + cs.flatten.length + 1)).2.1, strt n cs ++ (opF pre u L (n + cs.flatten.length + 1)).2.2)
  | [], n, _, _, _ => rfl
  | c :: cs, n, h, he, hn => by
    obtain ⟨h1, h2, h3, h4⟩ := h
    simp only [List.flatten_cons, List.length_append] at hn
    have hrd : rdF n (at0U u.us (nameN pre (n + 1))).1 = (c, (entsN n c).length) := by
      rw [h3]
      exact rdF_whole c n (he c (by simp)) (by omega)
    have ih := opF_whole pre u L cs (n + c.length) h4 (fun d hd => he d (List.mem_cons_of_mem _ hd)) (by omega)
    have key : opF pre u (nameN pre (n + 1) :: (namesN pre (strt (n + c.length) cs) ++ L)) (n + 1) = ((opF pre u (namesN pre (strt (n + c.length) cs) ++ L) (n + 1 + c.length)).1, c ++ (opF pre u (namesN pre (strt (n + c.length) cs) ++ L) (n + 1 + c.length)).2.1, (n + 1) :: (opF pre u (namesN pre (strt (n + c.length) cs) ++ L) (n + 1 + c.length)).2.2) := by
      rw [opF, Nat.add_sub_cancel, hrd, h3, numV_name pre (by omega), if_pos ⟨rfl, rfl⟩]
    show opF pre u (nameN pre (n + 1) :: (namesN pre (strt (n + c.length) cs) ++ L)) (n + 1) = _
    rw [key, show n + 1 + c.length = n + c.length + 1 by omega, ih]
    simp only [List.flatten_cons, List.length_append, strt, List.cons_append, List.append_assoc]
    rw [show n + c.length + cs.flatten.length + 1 = n + (c.length + cs.flatten.length) + 1 by omega]
theorem opF_torn (pre : List UInt8) (u : Ud) (n : Nat) (c : List (List Int)) (r : List Int) (hr : r ≠ []) (hc : c ≠ []) (he : ∀ p ∈ c, Epl p) (hn : n + c.length ≤ 9000000) (ha : (at0U u.us (nameN pre (n + 1))).1 = entsN n c ++ r) (ht : Fr.takeR (((n + c.length : Nat) : Int) + 1) r = none) :
    opF pre u [nameN pre (n + 1)] (n + 1) = (u.five [nameN pre (n + 1)] (cuU (nameN pre (n + 1)) ((entsN n c).length : Int)), c, [n + 1]) := by
  have hrd : rdF n (at0U u.us (nameN pre (n + 1))).1 = (c, (entsN n c).length) := by
    rw [ha]
    exact rdF_ents c n r he (by omega) ht
  have hrl : 0 < r.length := List.length_pos_iff.2 hr
  have hcl : 0 < (entsN n c).length := by
    match c, hc with
    | p :: ps, _ =>
      have := (ent_le n p).1
      simp only [entsN, List.length_append]
      omega
  unfold opF
  rw [Nat.add_sub_cancel, hrd, numV_name pre (by omega), if_neg (fun e => by have := e.2; rw [ha, List.length_append] at this; simp only at this; omega)]
  have e0 : (allU rmU u ([] : List Nm).reverse) = (0, u) := rfl
  rw [e0, if_neg (fun e => e rfl), if_neg (fun e => by rcases e with e | e; exact e rfl; simp only at e; omega)]
theorem opF_gone (pre : List UInt8) (u : Ud) (n : Nat) (r : List Int) (hr : r ≠ []) (hn : n ≤ 9000000) (ha : (at0U u.us (nameN pre (n + 1))).1 = r) (ht : Fr.takeR ((n : Int) + 1) r = none) :
    opF pre u [nameN pre (n + 1)] (n + 1) = (u.five [nameN pre (n + 1)] (rmU (nameN pre (n + 1))), [], []) := by
  have hrd : rdF n (at0U u.us (nameN pre (n + 1))).1 = ([], 0) := by
    rw [ha]
    exact rdF_ents [] n r (fun p hp => by cases hp) (by simpa using by omega) (by simpa using ht)
  have hrl : 0 < r.length := List.length_pos_iff.2 hr
  unfold opF
  rw [Nat.add_sub_cancel, hrd, numV_name pre (by omega), if_neg (fun e => by have := e.2; rw [ha] at this; simp only at this; omega)]
  have e0 : (allU rmU u ([] : List Nm).reverse) = (0, u) := rfl
  rw [e0, if_neg (fun e => e rfl), if_pos (Or.inr rfl)]
end Go.Proofs.YtnkjhooeklodcaaGreatDoor
end

section
/-
  Whole segments: what a write leaves of them. Plain facts; no walk.
-/
namespace Go.Proofs.YtnkjhooeklodcaaGreatDoor
open Go.RowKit Go.Maps Go.Sort

variable {pre : List UInt8} {us us' : Us}
theorem strt_append : ∀ (ds bs : List (List (List Int))) (n : Nat), strt n (ds ++ bs) = strt n ds ++ strt (n + ds.flatten.length) bs
  | [], bs, n => rfl
  | a :: ds, bs, n => by
    simp only [List.cons_append, strt, strt_append ds bs, List.flatten_cons, List.length_append]
    rw [show n + a.length + ds.flatten.length = n + (a.length + ds.flatten.length) by omega]
theorem Seg_append : ∀ (ds bs : List (List (List Int))) (n : Nat), Seg pre us n (ds ++ bs) ↔ Seg pre us n ds ∧ Seg pre us (n + ds.flatten.length) bs
  | [], bs, n => by simp [Seg]
  | a :: ds, bs, n => by
    simp only [List.cons_append, Seg, Seg_append ds bs, List.flatten_cons, List.length_append]
    rw [show n + a.length + ds.flatten.length = n + (a.length + ds.flatten.length) by omega]
    constructor
    · rintro ⟨h1, h2, h3, h4, h5⟩
      exact ⟨⟨h1, h2, h3, h4⟩, h5⟩
    · rintro ⟨⟨h1, h2, h3, h4⟩, h5⟩
      exact ⟨h1, h2, h3, h4, h5⟩
theorem Seg.keep : ∀ (cs : List (List (List Int))) (n : Nat), Seg pre us n cs → (∀ m ∈ strt n cs, lkU us' (nameN pre m) = lkU us (nameN pre m)) → Seg pre us' n cs
  | [], _, _, _ => trivial
  | c :: cs, n, h, hk => by
    obtain ⟨h1, h2, h3, h4⟩ := h
    have e := hk (n + 1) (by simp [strt])
    refine ⟨h1, by rw [e]; exact h2, ?_, Seg.keep cs (n + c.length) h4 fun m hm => hk m (by simp [strt, hm])⟩
    unfold at0U at h3 ⊢
    rw [e]
    exact h3
theorem strt_lt : ∀ (cs : List (List (List Int))) (n : Nat), Seg pre us n cs → ∀ m ∈ strt n cs, n < m ∧ m ≤ n + cs.flatten.length
  | [], _, _, m, hm => by cases hm
  | c :: cs, n, h, m, hm => by
    obtain ⟨h1, _, _, h4⟩ := h
    have hc : 0 < c.length := List.length_pos_iff.2 h1
    simp only [strt, List.mem_cons] at hm
    simp only [List.flatten_cons, List.length_append]
    rcases hm with rfl | hm
    · omega
    · have := strt_lt cs (n + c.length) h4 m hm
      omega
theorem at0U_of {x : Nm} {f : List Int × Nat} (h : lkU us x = some f) : (at0U us x).1 = f.1 := by unfold at0U; rw [h]; rfl
theorem Seg.grow {cs : List (List (List Int))} {c : List (List Int)} {p : List Int} {f : List Int × Nat} (h : Seg pre us 0 (cs ++ [c])) (hn : (cs ++ [c]).flatten.length ≤ 9000000)
    (hx : lkU us' (nameN pre (cs.flatten.length + 1)) = some f) (hf : f.1 = (at0U us (nameN pre (cs.flatten.length + 1))).1 ++ Fr.entN (((cs ++ [c]).flatten.length : Int) + 1) p)
    (hk : ∀ y, y ≠ nameN pre (cs.flatten.length + 1) → lkU us' y = lkU us y) : Seg pre us' 0 (cs ++ [c ++ [p]]) := by
  obtain ⟨h1, h2⟩ := (Seg_append cs [c] 0).1 h
  simp only [List.flatten_append, List.flatten_cons, List.flatten_nil, List.append_nil, List.length_append] at hn hf
  simp only [Nat.zero_add] at h2
  obtain ⟨k1, k2, k3, _⟩ := h2
  refine (Seg_append cs [c ++ [p]] 0).2 ⟨h1.keep _ _ fun m hm => hk _ fun e => ?_, ?_⟩
  · have h3 := strt_lt cs 0 h1 m hm
    have := nameN_inj (by omega) (by omega) e
    omega
  · simp only [Nat.zero_add]
    refine ⟨by simp, by rw [hx]; rfl, ?_, trivial⟩
    rw [at0U_of hx, hf, k3, entsN_append, entsN_one]
theorem Seg.more {cs : List (List (List Int))} {p : List Int} {f : List Int × Nat} (h : Seg pre us 0 cs)
    (hx : lkU us' (nameN pre (cs.flatten.length + 1)) = some f) (hf : f.1 = Fr.entN ((cs.flatten.length : Int) + 1) p)
    (hk : ∀ m ∈ strt 0 cs, lkU us' (nameN pre m) = lkU us (nameN pre m)) : Seg pre us' 0 (cs ++ [[p]]) := by
  refine (Seg_append cs [[p]] 0).2 ⟨h.keep _ _ hk, ?_⟩
  simp only [Nat.zero_add]
  refine ⟨by simp, by rw [hx]; rfl, ?_, trivial⟩
  rw [at0U_of hx, hf, entsN_one]
end Go.Proofs.YtnkjhooeklodcaaGreatDoor
end

section
/-
  The names of segments in their order: what an opening finds on the disk. Plain facts; no walk.
-/
namespace Go.Proofs.YtnkjhooeklodcaaGreatDoor
open Go.RowKit Go.Maps Go.Sort

theorem bb_pre : ∀ (p a b : List UInt8), bytesBefore (p ++ a) (p ++ b) = bytesBefore a b
  | [], _, _ => rfl
  | x :: p, a, b => by
    show (decide (x < x) || (x == x && bytesBefore (p ++ a) (p ++ b))) = _
    rw [bb_pre p a b]
    simp
theorem bb_app : ∀ (a b c d : List UInt8), a.length = b.length → bytesBefore a b = true → bytesBefore (a ++ c) (b ++ d) = true
  | [], [], _, _, _, h => by cases h
  | [], y :: b, _, _, h, _ => by simp at h
  | x :: a, [], _, _, h, _ => by simp at h
  | x :: a, y :: b, c, d, hl, h => by
    simp only [bytesBefore, Bool.or_eq_true, Bool.and_eq_true] at h
    simp only [List.cons_append, bytesBefore, Bool.or_eq_true, Bool.and_eq_true]
    rcases h with h | h
    · exact Or.inl h
    · exact Or.inr ⟨h.1, bb_app a b c d (by simpa using hl) h.2⟩
theorem bb_num : ∀ (k : Nat) (t s : List UInt8), t.length = k → s.length = k → (∀ d ∈ t, dig d = true) → (∀ d ∈ s, dig d = true) → numV t < numV s → bytesBefore t s = true
  | 0, t, s, ht, hs, _, _, h => by
    rw [List.eq_nil_of_length_eq_zero ht, List.eq_nil_of_length_eq_zero hs] at h
    omega
  | k + 1, t, s, ht, hs, h1, h2, he => by
    rcases List.eq_nil_or_concat t with rfl | ⟨t', d, rfl⟩
    · simp at ht
    rcases List.eq_nil_or_concat s with rfl | ⟨s', e, rfl⟩
    · simp at hs
    simp only [List.concat_eq_append] at *
    rw [numV_snoc, numV_snoc] at he
    have d1 := h1 d (by simp)
    have d2 := h2 e (by simp)
    unfold dig at d1 d2
    simp only [Bool.and_eq_true, decide_eq_true_eq] at d1 d2
    have lt : t'.length = k := by simpa using ht
    have ls : s'.length = k := by simpa using hs
    by_cases hq : numV t' = numV s'
    · have e2 : t' = s' := numV_inj k t' s' lt ls (fun x hx => h1 x (by simp [hx])) (fun x hx => h2 x (by simp [hx])) hq
      rw [e2, bb_pre]
      have : d.toNat < e.toNat := by omega
      have : d < e := UInt8.lt_iff_toNat_lt.2 this
      simp [bytesBefore, this]
    · exact bb_app t' s' [d] [e] (by omega) (bb_num k t' s' lt ls (fun x hx => h1 x (by simp [hx])) (fun x hx => h2 x (by simp [hx])) (by omega))
theorem name_bef (pre : List UInt8) {n m : Nat} (h : n < m) (hm : m < 100000000) : bytesBefore (nameN pre n) (nameN pre m) = true := by
  obtain ⟨t, e1, e2, e3, e4⟩ := nameN_form pre n (by omega)
  obtain ⟨s, f1, f2, f3, f4⟩ := nameN_form pre m hm
  rw [e1, f1, bb_pre]
  exact bb_num 8 t s e2 f2 e3 f3 (by omega)
theorem ris_eq : ∀ (l k : List Nm), l.Pairwise (fun a b => bytesBefore a b = true) → k.Pairwise (fun a b => bytesBefore a b = true) → (∀ x, x ∈ l ↔ x ∈ k) → l = k
  | [], [], _, _, _ => rfl
  | [], b :: k, _, _, h => by have := (h b).2 (by simp); cases this
  | a :: l, [], _, _, h => by have := (h a).1 (by simp); cases this
  | a :: l, b :: k, hl, hk, h => by
    obtain ⟨l1, l2⟩ := List.pairwise_cons.1 hl
    obtain ⟨k1, k2⟩ := List.pairwise_cons.1 hk
    have hab : a = b := by
      rcases List.mem_cons.1 ((h a).1 (by simp)) with e | e
      · exact e
      · rcases List.mem_cons.1 ((h b).2 (by simp)) with e2 | e2
        · exact e2.symm
        · have h1 := k1 a e
          have h2 := l1 b e2
          rw [bef_asymm h1] at h2
          cases h2
    subst hab
    refine congrArg (a :: ·) (ris_eq l k l2 k2 fun x => ⟨fun hx => ?_, fun hx => ?_⟩)
    · rcases List.mem_cons.1 ((h x).1 (List.mem_cons_of_mem _ hx)) with e | e
      · have := l1 x hx
        rw [e, bef_irrefl] at this
        cases this
      · exact e
    · rcases List.mem_cons.1 ((h x).2 (List.mem_cons_of_mem _ hx)) with e | e
      · have := k1 x hx
        rw [e, bef_irrefl] at this
        cases this
      · exact e
theorem strt_ris {pre : List UInt8} {us : Us} : ∀ (cs : List (List (List Int))) (n : Nat), Seg pre us n cs → n + cs.flatten.length < 100000000 → (namesN pre (strt n cs)).Pairwise (fun a b => bytesBefore a b = true)
  | [], _, _, _ => List.Pairwise.nil
  | c :: cs, n, h, hn => by
    obtain ⟨h1, _, _, h4⟩ := h
    have hc : 0 < c.length := List.length_pos_iff.2 h1
    simp only [List.flatten_cons, List.length_append] at hn
    refine List.pairwise_cons.2 ⟨fun y hy => ?_, strt_ris cs (n + c.length) h4 (by omega)⟩
    obtain ⟨m, hm, rfl⟩ := List.mem_map.1 hy
    have := strt_lt cs (n + c.length) h4 m hm
    exact name_bef pre (by omega) (by omega)
theorem segs_found {pre : List UInt8} {us : Us} (hr : RisU us) {cs : List (List (List Int))} (h : Seg pre us 0 cs) (hn : cs.flatten.length ≤ 9000000) (ho : ∀ x, isSeg x pre = true → (lkU us x).isSome = true → ∃ n ∈ strt 0 cs, x = nameN pre n) (hs : ∀ n ∈ strt 0 cs, (lkU us (nameN pre n)).isSome = true) : segsN (us.map (·.1)) pre = namesN pre (strt 0 cs) := by
  refine ris_eq _ _ (List.Pairwise.filter _ (List.pairwise_map.2 hr)) (strt_ris cs 0 h (by omega)) fun x => ⟨fun hx => ?_, fun hx => ?_⟩
  · obtain ⟨m1, m2⟩ := List.mem_filter.1 hx
    obtain ⟨n, hn1, rfl⟩ := ho x m2 (lkU_mem m1)
    exact List.mem_map.2 ⟨n, hn1, rfl⟩
  · obtain ⟨n, hn1, rfl⟩ := List.mem_map.1 hx
    have hl := strt_lt cs 0 h n hn1
    refine List.mem_filter.2 ⟨?_, isSeg_name pre (by omega)⟩
    cases hlk : lkU us (nameN pre n) with
    | none => have := hs n hn1; rw [hlk] at this; cases this
    | some f =>
      obtain ⟨k1, _, _⟩ := spot_some_of hr hlk
      exact List.mem_map.2 ⟨_, List.mem_of_getElem? k1, rfl⟩
end Go.Proofs.YtnkjhooeklodcaaGreatDoor
end

section
/-
  Whole segments: an opening, a crash of what lasts. Plain facts; no walk.
-/
namespace Go.Proofs.YtnkjhooeklodcaaGreatDoor
open Go.RowKit Go.Maps Go.Sort

theorem Seg.all {pre : List UInt8} {us : Us} : ∀ (cs : List (List (List Int))) (n : Nat), Seg pre us n cs → ∀ m ∈ strt n cs, (lkU us (nameN pre m)).isSome = true
  | [], _, _, m, hm => by cases hm
  | c :: cs, n, h, m, hm => by
    obtain ⟨_, h2, _, h4⟩ := h
    simp only [strt, List.mem_cons] at hm
    rcases hm with rfl | hm
    · exact h2
    · exact Seg.all cs (n + c.length) h4 m hm
theorem openF_whole {pre : List UInt8} {u : Ud} (hg : Gd u) {cs : List (List (List Int))} (h : Seg pre u.us 0 cs) (he : ∀ c ∈ cs, ∀ p ∈ c, Epl p) (hn : cs.flatten.length ≤ 9000000) (ho : ∀ x, isSeg x pre = true → (lkU u.us x).isSome = true → ∃ n ∈ strt 0 cs, x = nameN pre n) : (openF pre u).2 = (cs.flatten, strt 0 cs) := by
  have hs := segs_found hg.ris h hn ho (Seg.all cs 0 h)
  have hw := opF_whole pre u [] cs 0 h he (by omega)
  simp only [List.append_nil, Nat.zero_add] at hw
  have e0 : ∀ m, opF pre u [] m = ((0, u), [], []) := fun m => by simp only [opF]
  rw [e0] at hw
  simp only [List.append_nil] at hw
  unfold openF
  rw [hs, hw]
  simp
theorem lkU_crashed (keep : Nat) (t : Int) (x : Nm) : ∀ us : Us, lkU (us.map (crA keep t)) x = (lkU us x).map fun f => (crB f.1 f.2 keep t, crN f.1 f.2 keep)
  | [] => rfl
  | p :: us => by
    rw [List.map_cons, lkU_cons, lkU_cons]
    have e : (crA keep t p).1 = p.1 := rfl
    rw [e]
    split
    · rfl
    · exact lkU_crashed keep t x us
theorem crB_whole (zs : List Int) (keep : Nat) (t : Int) : crB zs zs.length keep t = zs ∧ crN zs zs.length keep = zs.length := by
  have h1 : crN zs zs.length keep = zs.length := by unfold crN; simp [Nat.mod_one]
  have h2 : crM zs zs.length keep = zs.length := by
    unfold crM
    rw [h1]
    have := secN_le zs.length
    omega
  refine ⟨?_, h1⟩
  unfold crB
  rw [h1, h2, List.take_length]
  exact xq_start _ _ _
def Lasts (us : Us) (x : Nm) : Prop := ∀ f, lkU us x = some f → f.2 = f.1.length
theorem Lasts.crash {us : Us} {x : Nm} (h : Lasts us x) (keep : Nat) (t : Int) : lkU (us.map (crA keep t)) x = lkU us x := by
  rw [lkU_crashed]
  cases hf : lkU us x with
  | none => rfl
  | some f =>
    obtain ⟨e1, e2⟩ := crB_whole f.1 keep t
    obtain ⟨zs, l⟩ := f
    have e3 : l = zs.length := h _ hf
    subst e3
    show some (crB zs zs.length keep t, crN zs zs.length keep) = _
    rw [e1, e2]
theorem Seg.crash {pre : List UInt8} {us : Us} {n : Nat} {cs : List (List (List Int))} (h : Seg pre us n cs) (hl : ∀ m ∈ strt n cs, Lasts us (nameN pre m)) (keep : Nat) (t : Int) : Seg pre (us.map (crA keep t)) n cs :=
  h.keep _ _ fun m hm => (hl m hm).crash keep t
end Go.Proofs.YtnkjhooeklodcaaGreatDoor
end

section
/-
  What an opening reads where all segments but the last last, and the last one was torn. Plain facts; no walk.
-/
namespace Go.Proofs.YtnkjhooeklodcaaGreatDoor
open Go.RowKit Go.Maps Go.Sort
theorem opF_one (pre : List UInt8) (u : Ud) (n : Nat) (hn : n ≤ 9000000) : (opF pre u [nameN pre (n + 1)] (n + 1)).2.1 = (rdF n (at0U u.us (nameN pre (n + 1))).1).1 := by
  obtain ⟨h1, _⟩ := rdF_spec n (at0U u.us (nameN pre (n + 1))).1
  have hv := numV_name pre (show n + 1 < 100000000 by omega)
  by_cases h2 : (rdF n (at0U u.us (nameN pre (n + 1))).1).2 = (at0U u.us (nameN pre (n + 1))).1.length
  · rw [opF, Nat.add_sub_cancel, if_pos ⟨hv, h2⟩]
    simp [opF]
  · have e0 : allU rmU u ([] : List Nm).reverse = (0, u) := rfl
    rw [opF, Nat.add_sub_cancel, if_neg (fun e => h2 e.2), e0, if_neg (fun e => e rfl)]
    by_cases h3 : (rdF n (at0U u.us (nameN pre (n + 1))).1).2 = 0
    · rw [if_pos (Or.inr h3)]
      rw [h3] at h1
      exact (Tk.zero h1).symm
    · rw [if_neg (fun e => by rcases e with e | e; exact e hv; exact h3 e)]
theorem namesN_app (pre : List UInt8) (a b : List Nat) : namesN pre (a ++ b) = namesN pre a ++ namesN pre b := by simp [namesN]
theorem openF_last {pre : List UInt8} {u : Ud} {ds : List (List (List Int))} (hds : Seg pre u.us 0 ds) (he : ∀ d ∈ ds, ∀ p ∈ d, Epl p) (hn : ds.flatten.length ≤ 8000000) (hs : segsN (u.us.map (·.1)) pre = namesN pre (strt 0 ds ++ [ds.flatten.length + 1])) :
    (openF pre u).2.1 = ds.flatten ++ (rdF ds.flatten.length (at0U u.us (nameN pre (ds.flatten.length + 1))).1).1 := by
  have h1 : (openF pre u).2 = (opF pre u (segsN (u.us.map (·.1)) pre) 1).2 := by
    unfold openF
    split <;> rfl
  rw [h1, hs, namesN_app]
  have h2 := opF_whole pre u (namesN pre [ds.flatten.length + 1]) ds 0 hds he (by omega)
  rw [Nat.zero_add, Nat.zero_add] at h2
  rw [h2]
  have h3 := opF_one pre u ds.flatten.length (by omega)
  show ds.flatten ++ (opF pre u [nameN pre (ds.flatten.length + 1)] (ds.flatten.length + 1)).2.1 = _
  rw [h3]
theorem openF_torn {pre : List UInt8} {u : Ud} {ds : List (List (List Int))} {c1 c2 : List (List Int)} {t : Int} (ht : 0 ≤ t ∧ t < 256) (keep : Nat) (hds : Seg pre u.us 0 ds) (he : ∀ d ∈ ds, ∀ p ∈ d, Epl p) (hc : ∀ p ∈ c1 ++ c2, Epl p) (hn : ds.flatten.length + (c1 ++ c2).length ≤ 8000000)
    (hs : segsN (u.us.map (·.1)) pre = namesN pre (strt 0 ds ++ [ds.flatten.length + 1])) (hB : (at0U u.us (nameN pre (ds.flatten.length + 1))).1 = crB (entsN ds.flatten.length (c1 ++ c2)) (entsN ds.flatten.length c1).length keep t) :
    ∃ rs, (openF pre u).2.1 = ds.flatten ++ c1 ++ rs ∧ (ds.flatten ++ c1 ++ rs).length ≤ (ds.flatten ++ (c1 ++ c2)).length := by
  obtain ⟨rs, h1, h2⟩ := rdF_torn ht c1 c2 ds.flatten.length keep hc (by omega)
  refine ⟨rs, ?_, ?_⟩
  · rw [openF_last hds he (by omega) hs, hB, h1, List.append_assoc]
  · simp only [List.length_append] at h2 ⊢
    omega
end Go.Proofs.YtnkjhooeklodcaaGreatDoor
end

section
/-
  How much a disk holds behind a write. Plain facts; no walk.
-/
namespace Go.Proofs.YtnkjhooeklodcaaGreatDoor
open Go.RowKit Go.Maps Go.Sort

theorem totU_app (a b : Us) : totU (a ++ b) = totU a + totU b := by simp [totU]
theorem totU_pt {us : Us} (hr : RisU us) (x : Nm) (g : List Int × Nat) : totU (ptU us x g) + (at0U us x).1.length = totU us + g.1.length ∧ (ptU us x g).length ≤ us.length + 1 := by
  cases hl : lkU us x with
  | some f =>
    obtain ⟨h1, _, h3⟩ := spot_some_of hr hl
    rw [h3 g, at0U_of hl]
    exact ⟨totU_set us _ x f g h1, by simp⟩
  | none =>
    obtain ⟨_, _, h3⟩ := spot_none_of hr hl
    have e0 : (at0U us x).1 = [] := by unfold at0U; rw [hl]; rfl
    rw [h3 g, e0]
    have hs : totU us = totU (us.take (spotN (us.map (·.1)) x)) + totU (us.drop (spotN (us.map (·.1)) x)) := by rw [← totU_app, List.take_append_drop]
    refine ⟨?_, ?_⟩
    · rw [totU_app, hs]
      simp only [totU, List.map_cons, List.sum_cons, List.length_nil]
      omega
    · simp only [List.length_append, List.length_cons, List.length_take, List.length_drop]
      omega
end Go.Proofs.YtnkjhooeklodcaaGreatDoor
end
