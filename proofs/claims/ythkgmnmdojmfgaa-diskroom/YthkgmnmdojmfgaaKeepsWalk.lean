/-
  The law DiskKeeps, walked: true for all rows, both numbers and every byte.
-/
import Derived.Test.YthkgmnmdojmfgaaFusesWalk
namespace Go.Proofs.Ythkgmnmdojmfgaa
open Go.RowKit Go.Maps
variable {w w' w0 : World} {F : Nat → Prop} {sb : Nat} {mb : Option Nat} {fs : Fls} {va : Value} {A : List Int}

/-- A disk of the call's own, and beside it a slice of bytes of the call's own. -/
def K2 (w0 w : World) (sb : Nat) (fs : Fls) (va : Value) (A : List Int) : Prop :=
  ∃ F mb, Dk w F sb mb 1048576 fs false 0 ∧ (∀ k, F k → w0.heap.size ≤ k ∧ k < w.heap.size) ∧ Below w0.heap.size w0 w ∧ Ow w w0.heap.size va A ∧ (∀ k, va.ownBlock = some k → ¬ F k)
theorem K2.res {fs' : Fls} (hF : ∀ k, F k → w0.heap.size ≤ k ∧ k < w.heap.size) (hB : Below w0.heap.size w0 w) (ho : Ow w w0.heap.size va A) (hn : ∀ k, va.ownBlock = some k → ¬ F k) (h : Res F sb 1048576 fs' false 0 w w') : K2 w0 w' sb fs' va A := by
  obtain ⟨mb', h1, hG⟩ := h
  refine ⟨fun k => (F k ∨ w.heap.size ≤ k) ∧ k < w'.heap.size, mb', h1.more fun k hk hl => ⟨hk, hl⟩, fun k hk => ⟨?_, hk.2⟩, hB.trans (hG.below hB.size fun k hk => (hF k hk).1), ho.keep fun k hk => hG.block k (ho.lt hk).1 (hn k hk), fun k hk hf => ?_⟩
  · rcases hk.1 with h | h
    · exact (hF k h).1
    · exact Nat.le_trans hB.size h
  · have := (ho.lt hk).1
    rcases hf.1 with h | h
    · exact hn k hk h
    · omega
theorem K2.write (h : K2 w0 w sb fs va A) (x : Nm) (hx : x.length ≤ maxLen) (ap : Option Addr) (cp : Nat) (ps : List Int) (hps : Bs w (.slice ap ps.length cp) ps) (hby : Byt ps) :
    Calls Try.prog 15 #[.pointer (some ⟨sb, 0, none⟩), encStr x, .slice ap ps.length cp] w fun e w' => ∃ ev fs', fiveP false 0 (noneB x) fs (writeP fs x ps 1048576) ev fs' ∧ e = .returned (.int .i64 ev) ∧ K2 w0 w' sb fs' va A := by
  obtain ⟨F, mb, h1, hF, hB, ho, hn⟩ := h
  refine (Write_any h1 x hx ap cp ps hps hby).mono ?_
  rintro e w' ⟨ev, fs', hP, he, hR⟩
  rw [burnL_out] at hR
  exact ⟨ev, fs', hP, he, K2.res hF hB ho hn hR⟩
theorem K2.sync (h : K2 w0 w sb fs va A) (x : Nm) (hx : x.length ≤ maxLen) :
    Calls Try.prog 19 #[.pointer (some ⟨sb, 0, none⟩), encStr x] w fun e w' => ∃ ev fs', fiveP false 0 (noneB x) fs (syncP fs x) ev fs' ∧ e = .returned (.int .i64 ev) ∧ K2 w0 w' sb fs' va A := by
  obtain ⟨F, mb, h1, hF, hB, ho, hn⟩ := h
  refine (Sync_any h1 x hx).mono ?_
  rintro e w' ⟨ev, fs', hP, he, hR⟩
  rw [burnL_out] at hR
  exact ⟨ev, fs', hP, he, K2.res hF hB ho hn hR⟩
theorem K2.crash (h : K2 w0 w sb fs va A) (keep t : Int) (hk : keep < 9223372036854775808) (ht : 0 ≤ t ∧ t < 256) :
    Calls Try.prog 16 #[.pointer (some ⟨sb, 0, none⟩), .int .i64 keep, .int .u8 t] w fun e w' => e = .returned (.tuple #[]) ∧ ∃ fs', abs fs' = (abs fs).map (crA keep.toNat t) ∧ K2 w0 w' sb fs' va A := by
  obtain ⟨F, mb, h1, hF, hB, ho, hn⟩ := h
  refine (Crash_any h1 keep t hk ht).mono ?_
  rintro e w' ⟨he, fs', ha, hR⟩
  exact ⟨he, fs', ha, K2.res hF hB ho hn hR⟩
theorem K2.read (h : K2 w0 w sb fs va A) (x : Nm) (hx : x.length ≤ maxLen) :
    Calls Try.prog 20 #[.pointer (some ⟨sb, 0, none⟩), encStr x] w fun e w' => ∃ ao cap, e = .returned (.tuple #[.slice ao (at0 fs x).zs.length cap, .int .i64 (none7 fs x)]) ∧ Ow w' w.heap.size (.slice ao (at0 fs x).zs.length cap) (at0 fs x).zs ∧ Below w.heap.size w w' := by
  obtain ⟨F, mb, h1, hF, hB, ho, hn⟩ := h
  exact Read_any h1 x hx
theorem K2.read_one {v : Value} {B : List Int} {n : Nat} (h4 : K2 w0 w sb [([102], ⟨v, B, n⟩)] va A) (hBL : B.length = n) :
    Calls Try.prog 20 #[.pointer (some ⟨sb, 0, none⟩), encStr [102]] w fun e w' => ∃ ao cap, e = .returned (.tuple #[.slice ao n cap, .int .i64 0]) ∧ Ow w' w.heap.size (.slice ao n cap) B ∧ Below w.heap.size w w' := by
  have h := h4.read [102] (by decide)
  rw [one_at] at h
  refine h.mono ?_
  rintro e w' ⟨ao, cap, rfl, ho, hb⟩
  have e1 : ({ v := v, zs := B, l := n } : Fl).zs.length = n := hBL
  rw [e1] at ho ⊢
  exact ⟨ao, cap, rfl, ho, hb⟩
theorem K2.bel (h : K2 w0 w sb fs va A) : Below w0.heap.size w0 w := by
  obtain ⟨F, mb, h1, hF, hB, ho, hn⟩ := h
  exact hB
theorem K2.ow (h : K2 w0 w sb fs va A) : Ow w w0.heap.size va A := by
  obtain ⟨F, mb, h1, hF, hB, ho, hn⟩ := h
  exact ho
theorem K2.row (h : K2 w0 w sb fs va A) {x : Nm} {f : Fl} (hm : (x, f) ∈ fs) : f.l ≤ f.zs.length ∧ Byt f.zs := by
  obtain ⟨F, mb, h1, hF, hB, ho, hn⟩ := h
  exact ⟨(h1.rows _ hm).2.1, (h1.rows _ hm).2.2.1⟩
theorem K2.below (h : K2 w0 w sb fs va A) (hb : Below w.heap.size w w') : K2 w0 w' sb fs va A := by
  obtain ⟨F, mb, h1, hF, hB, ho, hn⟩ := h
  exact ⟨F, mb, h1.to hb, fun k hk => ⟨(hF k hk).1, Nat.lt_of_lt_of_le (hF k hk).2 hb.size⟩, hB.trans (hb.mono hB.size), ho.keep fun k hk => hb.block k (ho.lt hk).1, hn⟩
/-- The slice is grown. -/
theorem K2.app {va' : Value} {A' : List Int} (h : K2 w0 w sb fs va A) (ho' : Ow w' w0.heap.size va' A') (hg : w.grownBy w' va.ownBlock) (hat : va'.ownBlock = va.ownBlock ∨ va'.ownBlock = some w.heap.size) : K2 w0 w' sb fs va' A' := by
  obtain ⟨F, mb, h1, hF, hB, ho, hn⟩ := h
  refine ⟨F, mb, h1.keep fun k hk hl => hg.block k hl fun e => hn k e.symm hk, fun k hk => ⟨(hF k hk).1, Nat.lt_of_lt_of_le (hF k hk).2 hg.size⟩, hB.trans (grown_below hg ho hB.size), ho', fun k hk hf => ?_⟩
  rcases hat with e | e
  · exact hn k (by rw [← e]; exact hk) hf
  · rw [hk] at e
    cases e
    exact absurd (hF _ hf).2 (Nat.lt_irrefl _)
theorem K2.new (w : World) :
    Calls Try.prog 11 #[.int .i64 1048576] w fun e w' => e = .returned (.tuple #[.pointer (some ⟨w.heap.size, 0, none⟩), .int .i64 0]) ∧ K2 w w' w.heap.size [] (.slice none 0 0) [] := by
  refine (New_any 1048576 w (by decide)).mono ?_
  rintro e w' ⟨he, h1, hB⟩
  exact ⟨he, fun k => k = w.heap.size, none, h1, fun k hk => by rw [hk]; exact ⟨Nat.le_refl _, h1.cells.lt⟩, hB, World.ownsRow_nil _ _ _ _, fun k hk => (by cases hk)⟩
theorem cell_below {a : Addr} {u : Value} (hb : Below w.heap.size w w') (h : w.cell? a = some u) : w'.cell? a = some u := by
  rw [World.cell?_of_block (w := w) (hb.block a.block (World.block_lt_of_cell? w a h))]
  exact h
theorem crB_get (zs : List Int) (l k : Nat) (t : Int) (hl : l ≤ zs.length) (i : Nat) (hi : i < crN zs l k) : (crB zs l k t).getD i 0 = if crM zs l k ≤ i then xb (zs.getD i 0) t else zs.getD i 0 := by
  have hn := crN_le zs l k hl
  have h1 : i < zs.length := by omega
  simp only [crB, xq, List.getD, List.getElem?_mapIdx, List.getElem?_take, hi, if_true, List.getElem?_eq_getElem h1, Option.map_some, Option.getD_some, and_true]
/-- What is there at loop 2: nothing yet, or the one file. -/
def KF (fs : Fls) (A : List Int) (l : Nat) (i : Nat) : Prop := (i = 0 ∧ fs = [] ∧ A = [] ∧ l = 0) ∨ (0 < i ∧ ∃ v, fs = [([102], ⟨v, A, l⟩)])
theorem KF.of {l i : Nat} (h : KF fs A l i) : Of fs [102] := by
  rcases h with ⟨_, h, _, _⟩ | ⟨_, v, h⟩
  · exact Or.inl h
  · exact Or.inr ⟨_, h⟩
theorem KF.tot {l i : Nat} (h : KF fs A l i) : tot fs = A.length := by
  rcases h with ⟨_, rfl, rfl, _⟩ | ⟨_, v, rfl⟩ <;> simp [Go.Proofs.Ythkgmnmdojmfgaa.tot]
theorem KF.at {l i : Nat} (h : KF fs A l i) : (at0 fs [102]).zs = A ∧ (at0 fs [102]).l = l := by
  rcases h with ⟨_, rfl, rfl, rfl⟩ | ⟨_, v, rfl⟩
  · exact ⟨rfl, rfl⟩
  · rw [one_at]; exact ⟨rfl, rfl⟩
set_option maxRecDepth 20000 in
set_option maxHeartbeats 6400000 in
theorem keeps_walk (v : Value) (rs : List Rw) (synced draw t : Int) (W : World) (hrs : Rs W v rs) (hd : (Lit.int .i64 draw).wf = true) (ht : 0 ≤ t ∧ t < 256) :
    Calls Try.prog 4 #[v, .int .i64 synced, .int .i64 draw, .int .u8 t] W fun e w' => e = .returned (.bool true) ∧ Below W.heap.size W w' := by
  obtain ⟨ao, cap, rfl, hl47, -⟩ := hrs.form
  have hdb : draw < 9223372036854775808 := by simp [Lit.wf] at hd; omega
  have HT := hid_into ht
  clear hd ht
  go_enter Try.func4, Try.ntmps4
  go_wp2_with fail
  go_loopw [9, 10] (fun kv iv wx => ∃ (i k : Nat), i ≤ rs.length ∧ iv = .int .i64 (i : Int) ∧ kv = .int .i64 (k : Int) ∧ Hid (k = i + sl (rs.take i)) ∧ k ≤ 140737488400000 ∧ wx = W) (fun _ iv _ => rs.length - (intOf iv).toNat)
  case atStart => exact ⟨0, 0, Nat.zero_le _, rfl, rfl, by simp [Hid, sl], Nat.zero_le _, rfl⟩
  case round =>
    obtain ⟨i, k, hi, rfl, rfl, HK, hk47, rfl⟩ := hrel
    by_cases hk8 : k ≤ 8000
    · by_cases hlt : i < rs.length
      · obtain ⟨b, off, ap, cp, zs, rfl, hget, hcell, _, _, hz⟩ := hrs.get hlt
        have HS := hid_into (sl_take hget)
        clear hget
        go_wp2_with fail
        go_roundw
        case rel => exact ⟨i + 1, k + 1 + zs.length, by omega, by go_num, by go_num, (by have h1 := HS.out; have h2 := HK.out; simp only at h1; show _ = _; omega), by omega, by trivial⟩
        case measure => simp [intOf]; omega
      · have HI : Hid (i = rs.length) := by show _ = _; omega
        have HSL : Hid (sl rs ≤ 8000 ∧ rs.length ≤ 8000) := by
          have h1 := HK.out
          have h2 := HI.out
          have h3 := sl_all rs
          rw [h2, h3] at h1
          show _ ∧ _
          omega
        go_wp2_with fail
        refine (K2.new wr).mono ?_
        rintro e W1 ⟨rfl, h1⟩
        clear HK HI hi hk47 hk8 hlt
        go_wp2_with fail
        go_loopw [13, 14, 15] (fun av sv iv wx => ∃ (i l : Nat) (A : List Int) (fs : Fls) (aa as_ : Option Addr) (ca cs : Nat), i ≤ rs.length ∧ iv = .int .i64 (i : Int) ∧ av = .slice aa A.length ca ∧ sv = .slice as_ l cs ∧ KF fs A l i ∧ Hid (A.length = sl (rs.take i)) ∧ K2 wr wx wr.heap.size fs (.slice aa A.length ca) A) (fun _ _ iv _ => rs.length - (intOf iv).toNat)
        case atStart => exact ⟨0, 0, [], [], none, none, 0, 0, Nat.zero_le _, rfl, rfl, rfl, Or.inl ⟨rfl, rfl, rfl, rfl⟩, by simp [Hid, sl], h1⟩
        case round =>
          clear h1
          obtain ⟨i, l, A, fs, aa, as_, ca, cs, hi, rfl, rfl, rfl, hKF, HA, h2⟩ := hrel
          by_cases hlt : i < rs.length
          · obtain ⟨b, off, ap, cp, zs, rfl, hget, hcell, hbs, hby, hz⟩ := hrs.get hlt
            have hcx := cell_below h2.bel hcell
            have hwr := h2.write [102] (by decide) ap cp zs (hbs.below h2.bel (Nat.le_refl _)) hby
            have hsl := sl_take hget
            have hle := sl_take_le rs (i + 1)
            simp only at hsl
            have HB : Hid (A.length + zs.length = sl (rs.take (i + 1)) ∧ A.length + zs.length ≤ 8000) := by have := HSL.out; have := HA.out; show _ ∧ _; omega
            clear hget hsl hle HA
            go_wp2_with fail
            refine hwr.mono ?_
            rintro e W3 ⟨ev, fs3, hP, rfl, h3⟩
            obtain ⟨rfl, v3, hf⟩ := write_ok (by have := hKF.of.len; omega) (by rw [hKF.tot]; have := HB.out; omega) (fiveP_go hP rfl none_f)
            rw [hKF.of.put, hKF.at.1, hKF.at.2] at hf
            subst hf
            have hc3 := cell_below h3.bel hcell
            have hb3 := hbs.below h3.bel (Nat.le_refl _)
            have ho3 := h3.ow
            clear hP hwr hcx h2 hKF
            by_cases hsy : (i : Int) < synced
            · go_wp2_with (at_builtin; refine wpList_append_bs _ rfl (.tmp 65) (.tmp 69) rfl _ _ A rfl ho3 _ zs rfl hb3 (by have := HB.out; omega) h3.bel.size ?_; intro ao5 cap5 W5 ho5 hg5 hat5; have h5 := h3.app ho5 hg5 hat5; clear hg5 hat5 hc3 hb3 ho3 h3)
              refine (h5.sync [102] (by decide)).mono ?_
              rintro e W6 ⟨ev, fs6, hP, rfl, h6⟩
              obtain ⟨he, hf⟩ := fiveP_go hP rfl none_f
              have he0 : ev = 0 := by rw [he]; rfl
              have hf0 : fs6 = [([102], ⟨v3, A ++ zs, (A ++ zs).length⟩)] := by rw [hf]; rfl
              subst he0; subst hf0
              have ho7 := (h6.below ((Below.refl _ W6).alloc (Nat.le_refl _) (.cells #[] 5))).ow
              have hb7 : Bs (W6.alloc (.cells #[] 5)) (.slice ao5 (A.length + zs.length) cap5) (A ++ zs) := ho7.bs
              have ho0 : Ow (W6.alloc (.cells #[] 5)) W6.heap.size (.slice (some ⟨W6.heap.size, 0, none⟩) 0 0) [] := Ow_of_block (zs := []) (heap_alloc_new W6 _) (by simp) (Nat.le_refl _)
              have HLN : Hid ((A ++ zs).length = A.length + zs.length) := List.length_append
              clear hP he hf h5 ho5 ho7
              go_wp2_with (at_builtin; refine wpList_append_bs _ rfl (.tmp 77) (.tmp 78) rfl W6.heap.size _ [] rfl ho0 _ (A ++ zs) rfl hb7 (by have := HB.out; simp; omega) (by simp) ?_; intro ao8 cap8 W8 ho8 hg8 hat8; have h8 : K2 _ W8 _ _ _ _ := h6.below (((Below.refl _ W6).alloc (Nat.le_refl _) _).trans (grown_below hg8 ho0 (by simp))); clear hg8 hat8 ho8 h6 ho0 hb7)
              go_roundw
              case rel => exact ⟨i + 1, (A ++ zs).length, A ++ zs, _, ao5, ao8, cap5, cap8, by omega, by go_num, by rw [HLN.out], by simp, Or.inr ⟨by omega, v3, rfl⟩, (by show _ = _; rw [HLN.out]; exact HB.out.1), by rw [HLN.out]; rw [HLN.out] at h8; exact h8⟩
              case measure => simp [intOf]; omega
            · have HLN : Hid ((A ++ zs).length = A.length + zs.length) := List.length_append
              go_wp2_with (at_builtin; refine wpList_append_bs _ rfl (.tmp 65) (.tmp 69) rfl _ _ A rfl ho3 _ zs rfl hb3 (by have := HB.out; omega) h3.bel.size ?_; intro ao5 cap5 W5 ho5 hg5 hat5; have h5 := h3.app ho5 hg5 hat5; clear hg5 hat5 hc3 hb3 ho3 h3)
              go_roundw
              case rel => exact ⟨i + 1, l, A ++ zs, _, ao5, as_, cap5, cs, by omega, by go_num, by rw [HLN.out], rfl, Or.inr ⟨by omega, v3, rfl⟩, (by show _ = _; rw [HLN.out]; exact HB.out.1), by rw [HLN.out]; exact h5⟩
              case measure => simp [intOf]; omega
          · have hir : i = rs.length := by omega
            clear hi
            have hcr := h2.crash draw t hdb HT.out
            have HROW : Hid (∀ f, (([102] : Nm), f) ∈ fs → f.l ≤ f.zs.length) := fun f hm => (h2.row hm).1
            go_wp2_with fail
            refine hcr.mono ?_
            rintro e W4 ⟨rfl, fs4, hab, h4⟩
            clear hcr h2
            by_cases hr0 : rs.length = 0
            · have hf4 : fs4 = [] := by
                rcases hKF with ⟨_, rfl, _, _⟩ | ⟨h, _⟩
                · simpa [abs] using hab
                · omega
              subst hf4
              go_wp2_with fail
              refine (h4.read [102] (by decide)).mono ?_
              rintro e W5 ⟨ao5, cap5, rfl, ho5, B5⟩
              have B05 := h4.bel.trans (B5.mono h4.bel.size)
              have en : none7 [] [102] = 7 := rfl
              rw [en]
              clear ho5 B5 h4 en hab
              go_wp2_with fail
              refine (known_any _).mono ?_
              rintro e W6 ⟨rfl, B6⟩
              replace B6 := B05.trans (B6.mono B05.size)
              go_wp2_with fail
              go_ret
              exact ⟨rfl, B6⟩
            · obtain ⟨v2, hf2⟩ : ∃ v2, fs = [([102], ⟨v2, A, l⟩)] := by
                rcases hKF with ⟨h, _⟩ | ⟨_, h⟩
                · omega
                · exact h
              subst hf2
              have hlA : l ≤ A.length := HROW.out ⟨v2, A, l⟩ (by simp)
              have hab' : abs fs4 = [([102], crB A l draw.toNat t, crN A l draw.toNat)] := hab
              obtain ⟨v4, rfl⟩ := one_abs hab'
              have hBL := crB_length A l draw.toNat t hlA
              have hnA := crN_le A l draw.toNat hlA
              have hln : l ≤ crN A l draw.toNat := by unfold crN; omega
              have HG : Hid (∀ i, i < crN A l draw.toNat → (crB A l draw.toNat t).getD i 0 = if l ≤ i ∧ secN (crN A l draw.toNat) ≤ i then xb (A.getD i 0) t else A.getD i 0) := fun i hi => by
                rw [crB_get A l draw.toNat t hlA i hi]
                have : (crM A l draw.toNat ≤ i) ↔ (l ≤ i ∧ secN (crN A l draw.toNat) ≤ i) := by unfold crM; omega
                simp only [this]
              clear hab hab' HROW hKF
              generalize crB A l draw.toNat t = B at *
              generalize crN A l draw.toNat = n at *
              have HA8 : Hid (A.length ≤ 8000) := by have := HA.out; have := HSL.out; have := sl_take_le rs i; show _ ≤ _; omega
              clear HA
              have hread := h4.read_one hBL
              have HBL := hid_into hBL
              clear hBL
              go_wp2_with fail
              refine hread.mono ?_
              rintro e W5 ⟨ao5, cap5, rfl, ho5, B5⟩
              have h5 := h4.below B5
              have hoA := h5.ow
              have B05 := h5.bel
              have hnb : n ≤ 8000 := by have := HA8.out; omega
              clear B5 h4 h5 hread
              by_cases hn0 : n = 0
              · subst hn0
                go_wp2_with fail
                refine wp_loop_rounds 1 ?_
                rw [rounds_succ]
                go_wp2_with fail
                refine (known_any _).mono ?_
                rintro e W6 ⟨rfl, B6⟩
                replace B6 := B05.trans (B6.mono B05.size)
                go_wp2_with fail
                go_ret
                exact ⟨rfl, B6⟩
              · obtain ⟨a5, c5, he5, hor⟩ := ho5.form
                rcases hor with ⟨-, -, h0⟩ | ⟨gb, cur, rfl, -⟩
                · have h0' : B = [] := h0
                  have := HBL.out; rw [h0'] at this; simp at this; omega
                obtain ⟨a6, c6, he6, hor⟩ := hoA.form
                rcases hor with ⟨-, -, h0⟩ | ⟨ga, cur2, rfl, -⟩
                · rw [h0] at hnA; simp at hnA; omega
                simp only [Value.slice.injEq] at he5 he6
                obtain ⟨rfl, -, rfl⟩ := he5
                obtain ⟨rfl, -, rfl⟩ := he6
                have hsec : ((n : Int) - 1) / 32 * 32 = ((secN n : Nat) : Int) := by unfold secN; omega
                have hn1 : (0 : Int) < (n : Int) := by omega
                go_wp2_with fail
                go_loopw [19] (fun iv wx => ∃ i : Nat, i ≤ n ∧ iv = .int .i64 (i : Int) ∧ wx = W5) (fun iv _ => n - (intOf iv).toNat)
                case atStart => exact ⟨0, Nat.zero_le _, rfl, rfl⟩
                case round =>
                  obtain ⟨j, hj, rfl, rfl⟩ := hrel
                  by_cases hlt3 : j < n
                  · have ca := hoA.cell j (by omega)
                    have cb := ho5.cell j (by rw [HBL.out]; exact hlt3)
                    rw [HG.out j hlt3] at cb
                    generalize A.getD j 0 = z at *
                    by_cases hc1 : l ≤ j
                    · by_cases hc2 : secN n ≤ j
                      · rw [if_pos ⟨hc1, hc2⟩] at cb
                        unfold xb at cb
                        go_wp2_with fail
                        go_roundw
                        case rel => exact ⟨j + 1, by omega, by go_num, by trivial⟩
                        case measure => simp [intOf]; omega
                      · rw [if_neg (fun h => hc2 h.2)] at cb
                        go_wp2_with fail
                        go_roundw
                        case rel => exact ⟨j + 1, by omega, by go_num, by trivial⟩
                        case measure => simp [intOf]; omega
                    · rw [if_neg (fun h => hc1 h.1)] at cb
                      go_wp2_with fail
                      go_roundw
                      case rel => exact ⟨j + 1, by omega, by go_num, by trivial⟩
                      case measure => simp [intOf]; omega
                  · go_wp2_with fail
                    refine (known_any _).mono ?_
                    rintro e W6 ⟨rfl, B6⟩
                    replace B6 := B05.trans (B6.mono B05.size)
                    go_wp2_with fail
                    go_ret
                    exact ⟨rfl, B6⟩
    · by_cases hlt : i < rs.length
      · go_wp2_with fail
        refine (known_any _).mono ?_
        rintro e W1 ⟨rfl, B1⟩
        go_wp2_with fail
        go_ret
        exact ⟨rfl, B1⟩
      · go_wp2_with fail
        refine (known_any _).mono ?_
        rintro e W1 ⟨rfl, B1⟩
        go_wp2_with fail
        go_ret
        exact ⟨rfl, B1⟩
end Go.Proofs.Ythkgmnmdojmfgaa
