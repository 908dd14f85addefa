/-
  Joined from: SegKeeps.
-/
import Derived.Test.YtnkjhooeklodcaaGreatDoorM48
import Derived.Test.YtnkjhooeklodcaaGreatDoorM50
section
/-
  SeglogKeeps, walked.
-/
namespace Go.Proofs.YtnkjhooeklodcaaGreatDoor
open Go.RowKit Go.Maps Go.Sort

theorem Cx.to {B : Nat} {w w' : World} (h : Cx w B) (hb : Below B w w') : Cx w' w'.heap.size := by
  have h1 := h.below hb
  exact ⟨h1.tab, h1.pw, Nat.le_trans h1.b8 h1.bw, Nat.le_refl _⟩
theorem bits_and (a : Int) (m : Nat) (hm : m < 65536) : bits .and .i64 a (m : Int) = (((BitVec.ofInt 64 a).toNat &&& m : Nat) : Int) := by
  have e : bits .and .i64 a (m : Int) = IntKind.i64.wrap (((BitVec.ofInt 64 a &&& BitVec.ofInt 64 (m : Int)).toNat : Nat) : Int) := rfl
  have hb : (BitVec.ofInt 64 a &&& BitVec.ofInt 64 (m : Int)).toNat = (BitVec.ofInt 64 a).toNat &&& m := by
    rw [BitVec.toNat_and]
    have : (BitVec.ofInt 64 (m : Int)).toNat = m := by
      rw [BitVec.ofInt_natCast, BitVec.toNat_ofNat]
      omega
    rw [this]
  have hlt : (BitVec.ofInt 64 a).toNat &&& m < 65536 := Nat.lt_of_le_of_lt Nat.and_le_right hm
  rw [e, hb]
  generalize (BitVec.ofInt 64 a).toNat &&& m = n at *
  simp [IntKind.wrap, IntKind.bits, IntKind.signed]
  omega
theorem shift_letter (syncs i : Int) : ∃ y, Op.shift BinOp.shr .i64 syncs .i64 (bits .and .i64 i 31) = pure (.int .i64 y) := by
  have h : ¬ bits .and .i64 i 31 < 0 := by
    have := bits_and i 31 (by decide)
    rw [show ((31 : Nat) : Int) = 31 from rfl] at this
    rw [this]
    omega
  unfold Op.shift
  rw [if_neg h]
  exact ⟨_, rfl⟩
set_option maxHeartbeats 8000000 in
set_option maxRecDepth 100000 in
theorem keeps_walk (a : Option Addr) (n cap : Nat) (rs : List Rw) (syncs fuse keep tear : Int) (W : World) (hrs : Rs W (.slice a n cap) rs) (ht : 0 ≤ tear ∧ tear < 256) (hk : (Lit.int .i64 keep).wf = true) (hcx : Cx W W.heap.size) :
    Calls Tryz.prog 4 #[.slice a n cap, .int .i64 syncs, .int .i64 fuse, .int .i64 keep, .int .u8 tear] W fun e w' => e = .returned (.bool true) ∧ Below W.heap.size W w' := by
  obtain ⟨a', cap', hv, hl, _⟩ := hrs.form
  injection hv with e1 e2 e3
  subst e1 e3
  rw [e2] at hrs ⊢
  clear e2
  have HRS := hid_into hrs
  have HCX := hid_into hcx
  have HKW := hid_into hk
  clear hrs hcx hk
  go_enter Tryz.func4, Tryz.ntmps4
  go_wp2_with fail
  go_loopw [11, 12] (fun nv iv wr => ∃ k m : Nat, k ≤ rs.length ∧ iv = .int .i64 (k : Int) ∧ nv = .int .i64 (m : Int) ∧ m ≤ 140737488367338 ∧ Hid (m ≤ 12000 → ∀ (i : Nat) (s : Rw), i < k → rs[i]? = some s → s.2.length ≤ 12000) ∧ Sm W wr) (fun _ iv _ => rs.length - (intOf iv).toNat)
  case atStart => exact ⟨0, 0, Nat.zero_le _, rfl, rfl, by omega, hid_into fun _ i s hi => by omega, Sm.refl _⟩
  case round =>
    obtain ⟨k, m, hk, rfl, rfl, hm, HT, hs⟩ := hrel
    by_cases hlt : k < rs.length ∧ m ≤ 12000
    · obtain ⟨b, off, ap, cp, zs, rfl, hgk, hcell, hbz, hyz, hzl⟩ := HRS.out.get hlt.1
      have e0 := hs.cellH hcell
      have f1 : (0 : Int) ≤ (k : Int) := by omega
      have f2 : (k : Int) < (rs.length : Int) := by omega
      have f3 : (m : Int) ≤ 12000 := by omega
      have q2 : IntKind.i64.wrap ((m : Int) + 5) = ((m + 5 : Nat) : Int) := by rw [IntKind.wrap_i64]; omega
      have q3 : IntKind.i64.wrap (((m + 5 : Nat) : Int) + (zs.length : Int)) = ((m + 5 + zs.length : Nat) : Int) := by rw [IntKind.wrap_i64]; omega
      have HN : Hid (m + 5 + zs.length ≤ 12000 → ∀ (i : Nat) (s' : Rw), i < k + 1 → rs[i]? = some s' → s'.2.length ≤ 12000) := fun hle i s' hi hs' => by
        by_cases e : i = k
        · rw [e, hgk] at hs'
          cases hs'
          show zs.length ≤ _
          omega
        · exact HT.out (by omega) i s' (by omega) hs'
      clear hcell hgk HT hbz hyz
      go_wp2_with fail
      go_roundw
      case rel => exact ⟨k + 1, m + 5 + zs.length, by omega, by go_num, by go_num, by omega, HN, hs⟩
      case measure => simp [intOf]; omega
    · have CK := known_any wr (HCX.out.to (hs.below _))
      have HKN : Hid (∀ w2, Below wr.heap.size wr w2 → Below W.heap.size W w2) := fun w2 hb => (hs.below _).trans (hb.mono (Nat.le_of_eq hs.size.symm))
      by_cases hm2 : 12000 < m
      · by_cases h1 : k < rs.length
        · have f2 : (k : Int) < (rs.length : Int) := by omega
          have f3 : ¬ (m : Int) ≤ 12000 := by omega
          have f4 : (12000 : Int) < (m : Int) := by omega
          clear hlt HT hm2 h1
          go_wp2_with fail
          refine CK.mono ?_
          rintro e w2 ⟨rfl, hb2⟩
          have hB2 := HKN.out w2 hb2
          go_wp2_with fail
          go_ret
          exact ⟨rfl, hB2⟩
        · have f2 : ¬ (k : Int) < (rs.length : Int) := by omega
          have f4 : (12000 : Int) < (m : Int) := by omega
          clear hlt HT hm2 h1
          go_wp2_with fail
          refine CK.mono ?_
          rintro e w2 ⟨rfl, hb2⟩
          have hB2 := HKN.out w2 hb2
          go_wp2_with fail
          go_ret
          exact ⟨rfl, hB2⟩
      · have f2 : ¬ (k : Int) < (rs.length : Int) := by omega
        have f4 : ¬ (12000 : Int) < (m : Int) := by omega
        have hke : k = rs.length := by omega
        have HL2 : Hid (∀ (i : Nat) (s : Rw), rs[i]? = some s → s.2.length ≤ 12000) := fun i s hi => HT.out (by omega) i s (by have := (List.getElem?_eq_some_iff.1 hi).1; omega) hi
        clear hlt HT hm2
        by_cases g1 : 100 < rs.length
        · have g1' : (100 : Int) < (rs.length : Int) := by omega
          go_wp2_with fail
          refine CK.mono ?_
          rintro e w2 ⟨rfl, hb2⟩
          have hB2 := HKN.out w2 hb2
          go_wp2_with fail
          go_ret
          exact ⟨rfl, hB2⟩
        have g1' : ¬ (100 : Int) < (rs.length : Int) := by omega
        by_cases g2 : fuse < 0
        · go_wp2_with fail
          refine CK.mono ?_
          rintro e w2 ⟨rfl, hb2⟩
          have hB2 := HKN.out w2 hb2
          go_wp2_with fail
          go_ret
          exact ⟨rfl, hB2⟩
        by_cases g3 : 1000 < fuse
        · go_wp2_with fail
          refine CK.mono ?_
          rintro e w2 ⟨rfl, hb2⟩
          have hB2 := HKN.out w2 hb2
          go_wp2_with fail
          go_ret
          exact ⟨rfl, hB2⟩
        have CS := start_any 1048576 (by decide) wr (HCX.out.to (hs.below _))
        rw [hs.size] at CS
        clear CK HKN
        go_wp2_with fail
        refine CS.mono ?_
        rintro e w2 ⟨pb, rfl, hb2, sb, wb, lb, xb, sz, hH2⟩
        have HB2 := hid_into (show Below W.heap.size W w2 from (hs.below _).trans hb2)
        have hl2 : rs.length ≤ 100 := by omega
        have hfw : (Lit.int .i64 fuse).wf = true := WalkArith.wf_i64 (by omega)
        have c0 : w2.cell? ⟨pb, 0, none⟩ = some (.pointer (some ⟨sb, 0, none⟩)) := hH2.pair.cell 0
        have hbw2 : W.heap.size ≤ w2.heap.size := HB2.out.size
        have C1 := LFu2 hH2.hu hbw2 fuse hfw
        have HSL := hid_into (hH2.sl.fuse fuse)
        clear CS hb2 hH2 hl
        go_wp2_with fail
        refine C1.mono ?_
        rintro e w3 ⟨rfl, hU3, hg3⟩
        have hs3 := hg3.size
        have c1 : w3.cell? ⟨pb, 1, none⟩ = some (.pointer (some ⟨wb, 0, none⟩)) := hU3.pair.cell 1
        have C2 := XFu2 hU3 (by omega) fuse
        have HB3 := hid_into (HB2.out.trans (hg3.under (fun j hj => hj.1.1) hbw2))
        clear C1 hU3 hg3 c0
        go_wp2_with fail
        refine C2.mono ?_
        rintro e w4 ⟨rfl, hU4, hg4⟩
        have HK0 : Hid (Kl W w4 rs pb sb wb lb xb 0 0 0 0 (.slice none 0 0)) := by
          refine ⟨HB3.out.trans (hg4.under (fun j hj => hj.1.1) (by omega)), HCX.out, fun j => j < w4.heap.size, _, [], 0, [], _, false, 0, [], (hU4.hs HSL.out).tight, Kq.start [97], rfl, Nat.zero_le _, Nat.le_refl _, Nat.le_refl _, ⟨World.ownsRow_nil _ _ _ _, fun j hj => by simp [Value.ownBlock] at hj⟩, fun j hj => hj, fun j hj => by simp [Value.ownBlock] at hj⟩
        clear C2 hU4 hg4 c1
        go_wp2_with fail
        go_loopw [15, 16, 17, 18, 19, 20] (fun lv sv iv _ _ _ wr => ∃ (i s : Nat) (al : Option Addr) (cl : Nat), lv = .slice al i cl ∧ i ≤ rs.length ∧ iv = .int .i64 (i : Int) ∧ sv = .int .i64 (s : Int) ∧ s ≤ i ∧ Hid (Kl W wr rs pb sb wb lb xb (2 * i) i i s (.slice al i cl))) (fun _ _ iv _ _ _ _ => rs.length - (intOf iv).toNat)
        case atStart => exact ⟨0, 0, none, 0, rfl, Nat.zero_le _, rfl, rfl, Nat.le_refl _, HK0⟩
        case round =>
          clear HK0 HB3 HB2 HSL
          obtain ⟨i, s, al, cl, rfl, hi, rfl, rfl, hsi, HK⟩ := hrel
          by_cases hlt : i < rs.length
          · obtain ⟨b, off, ap, cp, zs, rfl, hgk, hcell, hbz, hyz, hzl⟩ := HRS.out.get hlt
            have hbl := World.block_lt_of_cell? W _ hcell
            have HRC := hid_into (fun W1 (hB : Below W.heap.size W W1) => cell_below hB hcell hbl)
            have f1 : (0 : Int) ≤ (i : Int) := by omega
            have f2 : (i : Int) < (rs.length : Int) := by omega
            have hKd := HK.out.below (Below.refl wr.heap.size wr).drew
            have d2 := hKd.pair.2.2.1
            have r2 := HRC.out _ hKd.1
            have C1 := hKd.append (by omega) (by omega) hbz hyz hgk
            have HGK := hid_into hgk
            clear hcell hbl hbz hyz hgk hKd
            go_wp2_with fail
            go_region_held3 (fun x => x.cell? ⟨pb, 2, none⟩ = some (.pointer (some ⟨lb, 0, none⟩)) ∧ x.cell? ⟨b, off + i, none⟩ = some (.slice ap zs.length cp)) (first | exact ⟨d2, r2⟩ | assumption)
              (first | (go_at_call 16; refine C1.mono ?_; rintro e w5 ⟨n5, er, rfl, hB5, ⟨p52, p53⟩, hC5⟩; have S5 := And.intro p52 (HRC.out _ hB5)))
            have hBd := hB5.drew
            have p3 : w5.drew.cell? ⟨pb, 3, none⟩ = some (.pointer (some ⟨xb, 0, none⟩)) := p53
            have r3 := HRC.out _ hBd
            have C2 := hC5 w5.drew (Below.refl w5.heap.size w5).drew
            have HB5 := hid_into hBd
            clear C1 hC5 S5 p52 p53 hB5 hBd d2 r2
            go_wp2_with fail
            go_region_held3 (fun x => x.cell? ⟨pb, 3, none⟩ = some (.pointer (some ⟨xb, 0, none⟩)) ∧ x.cell? ⟨b, off + i, none⟩ = some (.slice ap zs.length cp)) (first | exact ⟨p3, r3⟩ | assumption)
              (first | (go_at_call 17; refine C2.mono ?_; rintro e w6 ⟨rfl, p63, hne6, heq6⟩; have hB6 : Below W.heap.size W w6 := (by by_cases h0 : er = 0; exact (heq6 h0).1; exact (hne6 h0).1); have S6 := And.intro p63 (HRC.out _ hB6)))
            by_cases h0 : er = 0
            · have HK6 := hid_into (heq6 h0)
              subst h0
              have r6 := S6.2
              clear hne6 heq6 C2 S6 p63 p3 r3
              obtain ⟨hl6, hk6⟩ : Lr w6 W.heap.size rs i (.slice al i cl) ∧ True := by
                obtain ⟨h1, hc, Z, u, ps, las, ss, sz, dead, k, cs, h2, h3, h4, h5, h6, h7, h8, h9⟩ := HK6.out
                exact ⟨h8, trivial⟩
              have HL6 := hid_into (hl6.below ((Below.refl w6.heap.size w6).alloc (Nat.le_refl _) (.cells #[.slice ap zs.length cp] 38)))
              clear hl6 hk6
              go_wp2_with (at_builtin; refine wpList_append_en _ rfl (.tmp 111) (.tmp 116) rfl (.slice al i cl) i ((rs.take i).map (·.1)) rfl HL6.out.1 w6.heap.size (.slice ap zs.length cp) rfl rfl (by rw [cell_of_row _ _ 0 _ _ _ (heap_alloc_new w6 _)]; rfl) (by omega) ?_; intro al7 cl7 w7 ho7 hg7 hat7; have HK7 := hid_into ((HK6.out.below ((Below.refl w6.heap.size w6).alloc (Nat.le_refl _) (.cells #[.slice ap zs.length cp] 38))).laid HGK.out ho7 hg7 hat7); clear ho7 hg7 hat7)
              obtain ⟨y, hy⟩ := shift_letter syncs (i : Int)
              have HB7 := HK7.out.1
              rw [hy]
              clear hy
              simp only [Sem.run_pure, Result.andThen_ok]
              clear HK6 HL6 r6 HRC HGK
              by_cases hc : bits .and .i64 y 1 = 1
              · have p7 := HK7.out.pair.2.2.1
                have C3 := HK7.out.sync (by omega) (by omega) (by omega)
                clear HK7
                go_wp2_with fail
                refine C3.mono ?_
                rintro e w8 ⟨er, rfl, hB8, ⟨p82, p83⟩, hC8⟩
                have C4 := hC8 w8 (Below.refl _ _)
                clear hC8 C3 p7
                go_wp2_with fail
                refine C4.mono ?_
                rintro e w9 ⟨rfl, p93, hk9, he9⟩
                have HK9 := hid_into hk9
                have HE9 := hid_into he9
                clear hk9 he9 C4 p82 p83
                by_cases h1 : er = 0
                · have HK10 := hid_into (HE9.out h1)
                  subst h1
                  clear HE9 HK9
                  go_wp2_with fail
                  go_roundw
                  case rel => exact ⟨i + 1, i + 1, _, _, rfl, by omega, by go_num, by go_num, by omega, hid_into (HK10.out.more (by omega))⟩
                  case measure => simp [intOf]; omega
                · clear HE9
                  go_wp2_with fail
                  go_roundw
                  case rel => exact ⟨i + 1, s, _, _, rfl, by omega, by go_num, rfl, by omega, hid_into (HK9.out.more (by omega))⟩
                  case measure => simp [intOf]; omega
              · go_wp2_with fail
                go_roundw
                case rel => exact ⟨i + 1, s, _, _, rfl, by omega, by go_num, rfl, by omega, hid_into (HK7.out.more (by omega))⟩
                case measure => simp [intOf]; omega
            · have HK6 := hid_into (hne6 h0)
              clear hne6 heq6 C2 S6 p63 p3 r3 HGK HRC
              obtain ⟨q, hq, C5⟩ := HK6.out.crash (by omega) keep tear HKW.out ht
              have t0 := HK6.out.pair.1
              have HQ := hid_into hq
              obtain ⟨hq1, hq2, _⟩ := hq
              clear HK6
              go_wp2_with fail
              refine C5.mono ?_
              rintro e t1 ⟨rfl, ⟨_, t1b⟩, hC6⟩
              have C6 := hC6 t1 (Below.refl _ _)
              clear hC6 C5 t0
              go_wp2_with fail
              refine C6.mono ?_
              rintro e t2 ⟨rfl, hko⟩
              have t2a := hko.pair.1
              have C7 := hko.open
              clear hko C6 t1b
              go_wp2_with fail
              refine C7.mono ?_
              rintro e t3 ⟨lb2, rfl, ⟨_, t3b⟩, hC8⟩
              have C8 := hC8 t3 (Below.refl _ _)
              clear hC8 C7 t2a
              go_wp2_with fail
              refine C8.mono ?_
              rintro e t4 ⟨xb2, rfl, _, hkf⟩
              have HF4 := hid_into hkf
              have C9 := hkf.2.1.next
              clear hkf C8 t3b
              have q1 : IntKind.i64.wrap ((q.length : Int) + 1 - 1) = (q.length : Int) := by rw [IntKind.wrap_i64]; omega
              have q2 : IntKind.i64.wrap ((i : Int) + 1) = (i : Int) + 1 := by rw [IntKind.wrap_i64]; omega
              have g1 : ¬ (q.length : Int) < (s : Int) := by omega
              have g2 : ¬ (i : Int) + 1 < (q.length : Int) := by omega
              go_wp2_with fail
              refine C9.mono ?_
              rintro e t5 ⟨rfl, hs5⟩
              have HF := hid_into (HF4.out.below (hs5.below _))
              clear HF4 hs5 C9
              have g3 : decide (q.length < s) = false := decide_eq_false (by omega)
              have g4 : decide ((i : Int) + 1 < (q.length : Int)) = false := decide_eq_false (by omega)
              go_wp2_with fail
              go_loopw [27, 28, 29] (fun jv _ _ wj => ∃ j : Nat, j ≤ q.length ∧ jv = .int .i64 (j : Int) ∧ Hid (Below t5.heap.size t5 wj)) (fun jv _ _ _ => q.length - (intOf jv).toNat)
              case atStart => exact ⟨0, Nat.zero_le _, rfl, hid_into (Below.refl _ _)⟩
              case round =>
                obtain ⟨j, hj, rfl, HBj⟩ := hrel
                by_cases hjl : j < q.length
                · have hji : j < i := by omega
                  obtain ⟨p, hp⟩ : ∃ p, q[j]? = some p := ⟨_, List.getElem?_eq_getElem hjl⟩
                  obtain ⟨b2, off2, ap2, cp2, zs2, hb2e, hg2, hc2, hbz2, hy2, hzl2⟩ := HRS.out.get (show j < rs.length by omega)
                  clear hb2e hc2 hy2
                  obtain ⟨gl, capl, hlv, hcl⟩ := HF.out.2.2.2.get hji hg2
                  injection hlv with e1 e2 e3
                  subst e1 e3
                  have hgl : gl < t5.heap.size := (HF.out.2.2.2.2 gl rfl).2
                  have HCl := hid_into (fun U (hb : Below t5.heap.size t5 U) => cell_below hb hcl hgl)
                  have C10 := (HF.out.below HBj.out).2.1.entry hp
                  have HP := hid_into hp
                  have HG2 := hid_into hg2
                  have HZ2 := hid_into hbz2
                  have k1 : (0 : Int) ≤ (j : Int) := by omega
                  have k2 : (j : Int) < (q.length : Int) := by omega
                  have k3 : (j : Int) < (i : Int) := by omega
                  have q3 : IntKind.i64.wrap ((j : Int) + 1) = (j : Int) + 1 := by rw [IntKind.wrap_i64]; omega
                  clear hp hg2 hbz2 hcl e2
                  go_wp2_with fail
                  refine C10.mono ?_
                  rintro e t6 ⟨ao6, cap6, rfl, ho6, hb6⟩
                  have HB6 := hid_into (HBj.out.trans (hb6.mono HBj.out.size))
                  have cl6 := HCl.out t6 HB6.out
                  have hW6 := HF.out.1.trans (HB6.out.mono HF.out.1.size)
                  have C11 := same_any _ _ p zs2 t6 ho6.bs (HZ2.out.below hW6 (Nat.le_refl _))
                  have HO6 := hid_into ho6
                  clear C10 ho6 hb6 hW6
                  by_cases hE : eqB p zs2 = true
                  · rw [hE] at C11
                    go_wp2_with fail
                    refine C11.mono ?_
                    rintro e t7 ⟨rfl, hs7⟩
                    have HB7 := hid_into (HB6.out.trans ((hs7.below _).mono HB6.out.size))
                    clear C11 hs7 cl6
                    go_wp2_with fail
                    go_roundw
                    case rel => exact ⟨j + 1, by omega, by go_num, HB7⟩
                    case measure => simp [intOf]; omega
                  · rw [Bool.not_eq_true] at hE
                    have hsj : s ≤ j := Classical.byContradiction fun hlt => by
                      have h3 := HQ.out.2.2 j (by omega)
                      rw [HP.out, List.getElem?_map, List.getElem?_take_of_lt hji, HG2.out] at h3
                      have h4 : p = zs2 := Option.some.inj h3
                      rw [eqB_true h4] at hE
                      cases hE
                    have k4 : (s : Int) ≤ (j : Int) := by omega
                    rw [hE] at C11
                    go_wp2_with fail
                    refine C11.mono ?_
                    rintro e t7 ⟨rfl, hs7⟩
                    have HB7 := hid_into (HB6.out.trans ((hs7.below _).mono HB6.out.size))
                    have hK7 := HF.out.below HB7.out
                    obtain ⟨ax, cx, hx1, hx2⟩ := hK7.2.2.1
                    obtain ⟨gx, au, cu, rfl, hx3, hx4⟩ := hx2 j p HP.out
                    have C12 := same_any _ _ p p t7 (HO6.out.bs.below (hs7.below _) (Nat.le_refl _)) hx4
                    rw [eqB_true rfl] at C12
                    have CK := fun t8 (hs8 : Sm t7 t8) => known_any t8 (HCX.out.to (hK7.1.trans ((hs8.below _).mono hK7.1.size)))
                    have HW7 := hid_into hK7.1
                    have HCK := hid_into CK
                    clear C11 cl6 hx2 hx4 hK7 HO6 CK
                    go_wp2_with fail
                    refine C12.mono ?_
                    rintro e t8 ⟨rfl, hs8⟩
                    have C13 := HCK.out t8 hs8
                    have HW8 := hid_into (HW7.out.trans ((hs8.below _).mono HW7.out.size))
                    clear C12 HCK hx1 hx3
                    go_wp2_with fail
                    refine C13.mono ?_
                    rintro e t9 ⟨rfl, hb9⟩
                    have hB9 := HW8.out.trans (hb9.mono HW8.out.size)
                    go_wp2_with fail
                    go_ret
                    exact ⟨rfl, hB9⟩
                · have k2 : ¬ (j : Int) < (q.length : Int) := by omega
                  have hW := HF.out.1.trans (HBj.out.mono HF.out.1.size)
                  have C13 := known_any _ (HCX.out.to hW)
                  have HW := hid_into hW
                  clear hW
                  go_wp2_with fail
                  refine C13.mono ?_
                  rintro e t9 ⟨rfl, hb9⟩
                  have hB9 := HW.out.trans (hb9.mono HW.out.size)
                  go_wp2_with fail
                  go_ret
                  exact ⟨rfl, hB9⟩
          · have f2 : ¬ (i : Int) < (rs.length : Int) := by omega
            obtain ⟨q, hq, C5⟩ := HK.out.crash (by omega) keep tear HKW.out ht
            have t0 := HK.out.pair.1
            have HQ := hid_into hq
            obtain ⟨hq1, hq2, _⟩ := hq
            clear HK
            go_wp2_with fail
            refine C5.mono ?_
            rintro e t1 ⟨rfl, ⟨_, t1b⟩, hC6⟩
            have C6 := hC6 t1 (Below.refl _ _)
            clear hC6 C5 t0
            go_wp2_with fail
            refine C6.mono ?_
            rintro e t2 ⟨rfl, hko⟩
            have t2a := hko.pair.1
            have C7 := hko.open
            clear hko C6 t1b
            go_wp2_with fail
            refine C7.mono ?_
            rintro e t3 ⟨lb2, rfl, ⟨_, t3b⟩, hC8⟩
            have C8 := hC8 t3 (Below.refl _ _)
            clear hC8 C7 t2a
            go_wp2_with fail
            refine C8.mono ?_
            rintro e t4 ⟨xb2, rfl, _, hkf⟩
            have HF4 := hid_into hkf
            have C9 := hkf.2.1.next
            clear hkf C8 t3b
            have q1 : IntKind.i64.wrap ((q.length : Int) + 1 - 1) = (q.length : Int) := by rw [IntKind.wrap_i64]; omega
            have q2 : IntKind.i64.wrap ((i : Int) + 1) = (i : Int) + 1 := by rw [IntKind.wrap_i64]; omega
            have g1 : ¬ (q.length : Int) < (s : Int) := by omega
            have g2 : ¬ (i : Int) + 1 < (q.length : Int) := by omega
            go_wp2_with fail
            refine C9.mono ?_
            rintro e t5 ⟨rfl, hs5⟩
            have HF := hid_into (HF4.out.below (hs5.below _))
            clear HF4 hs5 C9
            have g3 : decide (q.length < s) = false := decide_eq_false (by omega)
            have g4 : decide ((i : Int) + 1 < (q.length : Int)) = false := decide_eq_false (by omega)
            go_wp2_with fail
            go_loopw [27, 28, 29] (fun jv _ _ wj => ∃ j : Nat, j ≤ q.length ∧ jv = .int .i64 (j : Int) ∧ Hid (Below t5.heap.size t5 wj)) (fun jv _ _ _ => q.length - (intOf jv).toNat)
            case atStart => exact ⟨0, Nat.zero_le _, rfl, hid_into (Below.refl _ _)⟩
            case round =>
              obtain ⟨j, hj, rfl, HBj⟩ := hrel
              by_cases hjl : j < q.length
              · have hji : j < i := by omega
                obtain ⟨p, hp⟩ : ∃ p, q[j]? = some p := ⟨_, List.getElem?_eq_getElem hjl⟩
                obtain ⟨b2, off2, ap2, cp2, zs2, hb2e, hg2, hc2, hbz2, hy2, hzl2⟩ := HRS.out.get (show j < rs.length by omega)
                clear hb2e hc2 hy2
                obtain ⟨gl, capl, hlv, hcl⟩ := HF.out.2.2.2.get hji hg2
                injection hlv with e1 e2 e3
                subst e1 e3
                have hgl : gl < t5.heap.size := (HF.out.2.2.2.2 gl rfl).2
                have HCl := hid_into (fun U (hb : Below t5.heap.size t5 U) => cell_below hb hcl hgl)
                have C10 := (HF.out.below HBj.out).2.1.entry hp
                have HP := hid_into hp
                have HG2 := hid_into hg2
                have HZ2 := hid_into hbz2
                have k1 : (0 : Int) ≤ (j : Int) := by omega
                have k2 : (j : Int) < (q.length : Int) := by omega
                have k3 : (j : Int) < (i : Int) := by omega
                have q3 : IntKind.i64.wrap ((j : Int) + 1) = (j : Int) + 1 := by rw [IntKind.wrap_i64]; omega
                clear hp hg2 hbz2 hcl e2
                go_wp2_with fail
                refine C10.mono ?_
                rintro e t6 ⟨ao6, cap6, rfl, ho6, hb6⟩
                have HB6 := hid_into (HBj.out.trans (hb6.mono HBj.out.size))
                have cl6 := HCl.out t6 HB6.out
                have hW6 := HF.out.1.trans (HB6.out.mono HF.out.1.size)
                have C11 := same_any _ _ p zs2 t6 ho6.bs (HZ2.out.below hW6 (Nat.le_refl _))
                have HO6 := hid_into ho6
                clear C10 ho6 hb6 hW6
                by_cases hE : eqB p zs2 = true
                · rw [hE] at C11
                  go_wp2_with fail
                  refine C11.mono ?_
                  rintro e t7 ⟨rfl, hs7⟩
                  have HB7 := hid_into (HB6.out.trans ((hs7.below _).mono HB6.out.size))
                  clear C11 hs7 cl6
                  go_wp2_with fail
                  go_roundw
                  case rel => exact ⟨j + 1, by omega, by go_num, HB7⟩
                  case measure => simp [intOf]; omega
                · rw [Bool.not_eq_true] at hE
                  have hsj : s ≤ j := Classical.byContradiction fun hlt => by
                    have h3 := HQ.out.2.2 j (by omega)
                    rw [HP.out, List.getElem?_map, List.getElem?_take_of_lt hji, HG2.out] at h3
                    have h4 : p = zs2 := Option.some.inj h3
                    rw [eqB_true h4] at hE
                    cases hE
                  have k4 : (s : Int) ≤ (j : Int) := by omega
                  rw [hE] at C11
                  go_wp2_with fail
                  refine C11.mono ?_
                  rintro e t7 ⟨rfl, hs7⟩
                  have HB7 := hid_into (HB6.out.trans ((hs7.below _).mono HB6.out.size))
                  have hK7 := HF.out.below HB7.out
                  obtain ⟨ax, cx, hx1, hx2⟩ := hK7.2.2.1
                  obtain ⟨gx, au, cu, rfl, hx3, hx4⟩ := hx2 j p HP.out
                  have C12 := same_any _ _ p p t7 (HO6.out.bs.below (hs7.below _) (Nat.le_refl _)) hx4
                  rw [eqB_true rfl] at C12
                  have CK := fun t8 (hs8 : Sm t7 t8) => known_any t8 (HCX.out.to (hK7.1.trans ((hs8.below _).mono hK7.1.size)))
                  have HW7 := hid_into hK7.1
                  have HCK := hid_into CK
                  clear C11 cl6 hx2 hx4 hK7 HO6 CK
                  go_wp2_with fail
                  refine C12.mono ?_
                  rintro e t8 ⟨rfl, hs8⟩
                  have C13 := HCK.out t8 hs8
                  have HW8 := hid_into (HW7.out.trans ((hs8.below _).mono HW7.out.size))
                  clear C12 HCK hx1 hx3
                  go_wp2_with fail
                  refine C13.mono ?_
                  rintro e t9 ⟨rfl, hb9⟩
                  have hB9 := HW8.out.trans (hb9.mono HW8.out.size)
                  go_wp2_with fail
                  go_ret
                  exact ⟨rfl, hB9⟩
              · have k2 : ¬ (j : Int) < (q.length : Int) := by omega
                have hW := HF.out.1.trans (HBj.out.mono HF.out.1.size)
                have C13 := known_any _ (HCX.out.to hW)
                have HW := hid_into hW
                clear hW
                go_wp2_with fail
                refine C13.mono ?_
                rintro e t9 ⟨rfl, hb9⟩
                have hB9 := HW.out.trans (hb9.mono HW.out.size)
                go_wp2_with fail
                go_ret
                exact ⟨rfl, hB9⟩
end Go.Proofs.YtnkjhooeklodcaaGreatDoor
end
