/-
  The document's Parse.
-/
import Derived.Test.YtddmnpfebajnmaaDoorRRead
import Derived.Test.YtddmnpfebajnmaaDoorRCheck
import Derived.Test.YtddmnpfebajnmaaDoorParse
import Derived.Lib.TrimByte
namespace Go.Proofs.YtddmnpfebajnmaaDoor
open Go.RowKit
/-- The rest of a text, cut at its first 0a. -/
structure Cn (s : List UInt8) (a : Nat) (line behind : List UInt8) : Prop where
  c1 : (Lib.cut (s.drop a) [10]).1 = line
  c2 : (Lib.cut (s.drop a) [10]).2.1 = behind
  ne : ∀ j d, j < line.length → s[a + j]? = some d → d ≠ 10
  le : a + line.length ≤ s.length
  end_ : a + line.length < s.length → s[a + line.length]? = some 10
  next : s.drop (a + line.length + 1) = behind
  here : (s.drop a).take line.length = line
theorem Cn.of (s : List UInt8) (a : Nat) (ha : a < s.length) : ∃ line behind, Cn s a line behind := by
  have hlen : (s.drop a).length = s.length - a := by simp
  have hdd : ∀ n, s.drop (a + n) = (s.drop a).drop n := fun n => by rw [List.drop_drop]
  have hget : ∀ j, s[a + j]? = (s.drop a)[j]? := fun j => by rw [List.getElem?_drop]
  rcases parted 10 (s.drop a) with h | ⟨x, y, e, h⟩
  · refine ⟨s.drop a, [], by rw [cut_no 10 _ h], by rw [cut_no 10 _ h], fun j d hj hd => ?_, by omega, fun hlt => absurd hlt (by omega), ?_, List.take_length⟩
    · rw [hget] at hd
      exact fun e => h (e ▸ List.mem_of_getElem? hd)
    · rw [show a + (s.drop a).length + 1 = a + ((s.drop a).length + 1) by omega, hdd]
      exact List.drop_eq_nil_of_le (by omega)
  · have e2 : (s.drop a).length = x.length + (y.length + 1) := by rw [e]; simp
    refine ⟨x, y, by rw [e, cut_at 10 x y h], by rw [e, cut_at 10 x y h], fun j d hj hd => ?_, by omega, fun _ => ?_, ?_, by rw [e]; simp⟩
    · rw [hget, e, List.getElem?_append_left hj] at hd
      exact fun e => h (e ▸ List.mem_of_getElem? hd)
    · rw [hget, e, List.getElem?_append_right (Nat.le_refl _)]
      simp
    · rw [show a + x.length + 1 = a + (x.length + 1) by omega, hdd, e]
      simp
set_option maxRecDepth 20000 in
set_option maxHeartbeats 8000000 in
theorem rparse_any (s : List UInt8) (hl : s.length ≤ 1000000) (w : World) :
    Calls Tryd.prog 23 #[.string ⟨s.toArray⟩] w fun e w' => ∃ rv, e = .returned (.tuple #[rv, .int .i64 (parS s).2.1, .int .i64 (parS s).2.2]) ∧ Ls w' rv (parS s).1 ∧ Below w.heap.size w w' := by
  have HPI := hid_into (PaI.start s)
  have HPA := hid_into (parS_eq s)
  generalize parLs 0 (linesL s) = T at *
  generalize parS s = D at *
  have zs : (⟨s.toArray⟩ : ByteArray).size = s.length := by simp [ByteArray.size]
  obtain ⟨ns, hns⟩ : ∃ ns : Nat, ns = s.length := ⟨_, rfl⟩
  have HNS : Hid (s.length = ns) := hid_into hns.symm
  rw [← hns] at zs hl
  clear hns
  go_enter Tryd.func23, Tryd.ntmps23
  go_wp2_with fail
  go_loopw [5, 6] (fun v r wr => ∃ (acc : List Ii) (ao : Option Addr) (cap : Nat) (a : Nat), v = .slice ao acc.length cap ∧ r = .int .i64 (a : Int) ∧ acc.length ≤ 256 ∧ a ≤ ns + 1 ∧ Hid (Lo wr w.heap.size (.slice ao acc.length cap) acc) ∧ Hid (PaI T acc (s.drop a)) ∧ Hid (Below w.heap.size w wr)) (fun _ r _ => ns + 1 - (intOf r).toNat)
  case atStart => exact ⟨[], none, 0, 0, rfl, rfl, by simp, by omega, hid_into (Lo.nil _ _), hid_into (by rw [List.drop_zero]; exact HPI.out), hid_into (Below.refl _ _)⟩
  case round =>
    clear HPI
    obtain ⟨acc, ao, cap, a, rfl, rfl, hacc, haa, HLo, HPI, HB⟩ := hrel
    by_cases hr : a < ns
    · obtain ⟨line, behind, hC⟩ := Cn.of s a (by have := HNS.out; omega)
      have hne : s.drop a ≠ [] := by
        intro e
        have := congrArg List.length e
        have := HNS.out
        simp at *
        omega
      have ia : (a : Int) < (ns : Int) := by omega
      obtain ⟨pl, hpl⟩ : ∃ pl : Nat, pl = line.length := ⟨_, rfl⟩
      have HPL : Hid (line.length = pl) := hid_into hpl.symm
      have hle := hC.le
      rw [HNS.out, ← hpl] at hle
      have HC := hid_into hC
      have HNE := hid_into hne
      clear hC hne hpl
      go_wp2_with fail
      go_loopw [7] (fun v wx => ∃ e : Nat, a ≤ e ∧ e ≤ a + pl ∧ v = .int .i64 (e : Int) ∧ wx = wr) (fun v _ => a + pl - (intOf v).toNat)
      case atStart => exact ⟨a, by omega, by omega, rfl, rfl⟩
      case round =>
        obtain ⟨e, he1, he2, rfl, hwx⟩ := hrel
        replace hwx := hwx.symm
        subst hwx
        by_cases hlt : e < a + pl
        · obtain ⟨d, hd⟩ : ∃ d, s[e]? = some d := ⟨_, List.getElem?_eq_getElem (by have := HNS.out; omega)⟩
          have f3 : (e : Int) < (ns : Int) := by omega
          have hlt3 : e < (⟨s.toArray⟩ : ByteArray).size := by omega
          have hsd : (⟨s.toArray⟩ : ByteArray)[e]'hlt3 = d := by
            have h2 := (List.getElem?_eq_some_iff.1 hd).2
            rw [ByteArray.getElem_eq_getElem_data]
            simpa using h2
          obtain ⟨c, hc⟩ : ∃ c, d.toNat = c := ⟨_, rfl⟩
          have hne : c ≠ 10 := fun e' => HC.out.ne (e - a) d (by have := HPL.out; omega) (by rw [show a + (e - a) = e by omega]; exact hd) (UInt8.toNat_inj.1 (by rw [hc, e']; rfl))
          have g1 : ((c : Int) != 10) = true := by simp; omega
          have g2 : ((c : Int) == 10) = false := by simp; omega
          clear hd hne
          go_wp2_with fail
          go_roundw
          case rel => exact ⟨e + 1, by omega, by omega, by go_num, trivial⟩
          case measure => simp [intOf]; omega
        · have hee : e = a + pl := by omega
          by_cases hend : e < ns
          · have hd := HC.out.end_ (by have := HPL.out; have := HNS.out; omega)
            rw [HPL.out, ← hee] at hd
            have f3 : (e : Int) < (ns : Int) := by omega
            have hlt3 : e < (⟨s.toArray⟩ : ByteArray).size := by omega
            have hsd : (⟨s.toArray⟩ : ByteArray)[e]'hlt3 = 10 := by
              have h2 := (List.getElem?_eq_some_iff.1 hd).2
              rw [ByteArray.getElem_eq_getElem_data]
              simpa using h2
            clear hd
            by_cases hk : acc.length = 256
            · clear hee
              have HT2 := hid_into (HPI.out.long HNE.out hk)
              have HD3 : Hid (D = ([], 256, 5)) := by show _ = _; rw [HPA.out, HT2.out]; rfl
              have hk' : (256 : Int) ≤ (acc.length : Int) := by omega
              go_wp2_with fail
              go_ret3
              rw [HD3.out]
              exact ⟨_, by first | (simp; done) | simp [hk], (Lo.nil _ 0).ls, HB.out⟩
            · have hk' : ¬ (256 : Int) ≤ (acc.length : Int) := by omega
              have HP1 := hid_into (fun h => HPI.out.none_ HNE.out hk h)
              have HP2 := hid_into (fun x h => HPI.out.some_ HNE.out hk (x := x) h)
              rw [HC.out.c1] at HP1 HP2
              rw [HC.out.c2] at HP2
              have HNX := hid_into HC.out.next
              rw [HPL.out, ← hee] at HNX
              have hx1 : (⟨s.toArray⟩ : ByteArray).extract a e = ⟨line.toArray⟩ := by
                rw [hee, Lib.extract_mk]
                congr 2
                rw [Nat.add_sub_cancel_left, ← HPL.out]
                exact HC.out.here
              have CR := fun W => rread_any line (by have := HPL.out; omega) W
              have HK := hid_into hk
              have b1 : (a : Int) ≤ (e : Int) := by omega
              have b2 : (e : Int) ≤ (ns : Int) := by omega
              have b3 : a ≤ e := by omega
              have hen : e ≤ ns := by omega
              clear hk hee hle he2 hlt
              cases hrd : readL line with
              | none =>
                have HD3 : Hid (D = ([], (acc.length : Int), 19)) := by show _ = _; rw [HPA.out, HP1.out hrd]; rfl
                have CR2 : ∀ W, Calls Tryd.prog 45 #[.string ⟨line.toArray⟩] W fun e w' => ∃ o a, e = .returned (.tuple #[.agg #[.int .i64 o, .int .i64 a], .bool false]) ∧ Below W.heap.size W w' := fun W => (CR W).mono fun e w' ⟨o, a, ok, he, hp, hb⟩ => by
                  unfold ReadP at hp
                  rw [hrd] at hp
                  exact ⟨o, a, by rw [he, hp], hb⟩
                clear HP1 HP2 CR hrd
                go_wp2_with (first
                  | (go_at_call 45; refine (CR2 _).mono ?_; rintro e w4 ⟨o4, a4, rfl, B4⟩))
                go_ret3
                rw [HD3.out]
                have hA5 : Below w4.heap.size w4 (w4.alloc (.cells #[.int .i64 o4, .int .i64 a4] 60)) := (Below.refl _ _).alloc (Nat.le_refl _) _
                have hz4 := B4.size
                have hz3 := HB.out.size
                exact ⟨_, rfl, (Lo.nil _ 0).ls, (HB.out.trans (B4.mono hz3)).trans (hA5.mono (by omega))⟩
              | some x =>
                have HP3 := hid_into (HP2.out x hrd)
                have CR2 : ∀ W, Calls Tryd.prog 45 #[.string ⟨line.toArray⟩] W fun e w' => e = .returned (.tuple #[.agg #[.int .i64 x.1, .int .i64 x.2], .bool true]) ∧ Below W.heap.size W w' := fun W => (CR W).mono fun e w' ⟨o, a, ok, he, hp, hb⟩ => by
                  unfold ReadP at hp
                  rw [hrd] at hp
                  obtain ⟨rfl, h2⟩ := hp
                  exact ⟨by rw [he, h2], hb⟩
                clear HP1 HP2 CR hrd
                go_wp2_with (first
                  | (go_at_call 45; refine (CR2 _).mono ?_; rintro e w4 ⟨rfl, B4⟩; have hA5 : Below w4.heap.size w4 (w4.alloc (.cells #[.int .i64 x.1, .int .i64 x.2] 60)) := ((Below.refl _ _).alloc (Nat.le_refl _) _); have hA6 : Below (w4.alloc (.cells #[.int .i64 x.1, .int .i64 x.2] 60)).heap.size (w4.alloc (.cells #[.int .i64 x.1, .int .i64 x.2] 60)) ((w4.alloc (.cells #[.int .i64 x.1, .int .i64 x.2] 60)).alloc (.cells #[.int .i64 x.1, .int .i64 x.2] 60)) := ((Below.refl _ _).alloc (Nat.le_refl _) _); have hz4 := B4.size; have hz3 := HB.out.size; have hOa := ((HLo.out.below B4).below hA5).below hA6; have HB6 := hid_into ((HB.out.trans (B4.mono hz3)).trans ((hA5.mono (by omega)).trans (hA6.mono (by simp; omega)))); have hLa : Ls ((w4.alloc (.cells #[.int .i64 x.1, .int .i64 x.2] 60)).alloc (.cells #[.int .i64 x.1, .int .i64 x.2] 60)) (.slice (some ⟨w4.heap.size + 1, 0, none⟩) 1 1) [x] := (by have e1 := heap_alloc_new (w4.alloc (.cells #[.int .i64 x.1, .int .i64 x.2] 60)) (.cells (cells2 [x]).toArray 60); rw [World.size_alloc] at e1; exact Ls_of_block (l := [x]) e1 (by unfold maxLen; simp)); clear B4 hA5 hA6)
                  | (at_builtin; refine wpList_append_ls _ rfl (.tmp 46) (.tmp 48) rfl w.heap.size _ acc rfl hOa _ [x] rfl hLa (by simp; omega) (by simp; omega) ?_; intro ao7 cap7 w7 hown7 hg7 hat7; have hB7 : Below w.heap.size w w7 := HB6.out.grown hg7 (by simp; omega) (fun k hk => (hOa.lt k hk).1); have HO7 := hid_into hown7; clear hown7 hg7 hat7))
                go_roundw
                case rel => exact ⟨acc ++ [x], ao7, cap7, e + 1, by simp, by go_num, by have := HK.out; simp; omega, by omega, hid_into (by simpa using HO7.out), hid_into (by rw [HNX.out]; exact HP3.out), hid_into hB7⟩
                case measure => simp [intOf]; omega
          · have f3 : ¬ (e : Int) < (ns : Int) := by omega
            by_cases hk : acc.length = 256
            · clear hee
              have HT2 := hid_into (HPI.out.long HNE.out hk)
              have HD3 : Hid (D = ([], 256, 5)) := by show _ = _; rw [HPA.out, HT2.out]; rfl
              have hk' : (256 : Int) ≤ (acc.length : Int) := by omega
              go_wp2_with fail
              go_ret3
              rw [HD3.out]
              exact ⟨_, by first | (simp; done) | simp [hk], (Lo.nil _ 0).ls, HB.out⟩
            · have hk' : ¬ (256 : Int) ≤ (acc.length : Int) := by omega
              have HP1 := hid_into (fun h => HPI.out.none_ HNE.out hk h)
              have HP2 := hid_into (fun x h => HPI.out.some_ HNE.out hk (x := x) h)
              rw [HC.out.c1] at HP1 HP2
              rw [HC.out.c2] at HP2
              have HNX := hid_into HC.out.next
              rw [HPL.out, ← hee] at HNX
              have hx1 : (⟨s.toArray⟩ : ByteArray).extract a e = ⟨line.toArray⟩ := by
                rw [hee, Lib.extract_mk]
                congr 2
                rw [Nat.add_sub_cancel_left, ← HPL.out]
                exact HC.out.here
              have CR := fun W => rread_any line (by have := HPL.out; omega) W
              have HK := hid_into hk
              have b1 : (a : Int) ≤ (e : Int) := by omega
              have b2 : (e : Int) ≤ (ns : Int) := by omega
              have b3 : a ≤ e := by omega
              have hen : e ≤ ns := by omega
              clear hk hee hle he2 hlt
              cases hrd : readL line with
              | none =>
                have HD3 : Hid (D = ([], (acc.length : Int), 19)) := by show _ = _; rw [HPA.out, HP1.out hrd]; rfl
                have CR2 : ∀ W, Calls Tryd.prog 45 #[.string ⟨line.toArray⟩] W fun e w' => ∃ o a, e = .returned (.tuple #[.agg #[.int .i64 o, .int .i64 a], .bool false]) ∧ Below W.heap.size W w' := fun W => (CR W).mono fun e w' ⟨o, a, ok, he, hp, hb⟩ => by
                  unfold ReadP at hp
                  rw [hrd] at hp
                  exact ⟨o, a, by rw [he, hp], hb⟩
                clear HP1 HP2 CR hrd
                go_wp2_with (first
                  | (go_at_call 45; refine (CR2 _).mono ?_; rintro e w4 ⟨o4, a4, rfl, B4⟩))
                go_ret3
                rw [HD3.out]
                have hA5 : Below w4.heap.size w4 (w4.alloc (.cells #[.int .i64 o4, .int .i64 a4] 60)) := (Below.refl _ _).alloc (Nat.le_refl _) _
                have hz4 := B4.size
                have hz3 := HB.out.size
                exact ⟨_, rfl, (Lo.nil _ 0).ls, (HB.out.trans (B4.mono hz3)).trans (hA5.mono (by omega))⟩
              | some x =>
                have HP3 := hid_into (HP2.out x hrd)
                have CR2 : ∀ W, Calls Tryd.prog 45 #[.string ⟨line.toArray⟩] W fun e w' => e = .returned (.tuple #[.agg #[.int .i64 x.1, .int .i64 x.2], .bool true]) ∧ Below W.heap.size W w' := fun W => (CR W).mono fun e w' ⟨o, a, ok, he, hp, hb⟩ => by
                  unfold ReadP at hp
                  rw [hrd] at hp
                  obtain ⟨rfl, h2⟩ := hp
                  exact ⟨by rw [he, h2], hb⟩
                clear HP1 HP2 CR hrd
                go_wp2_with (first
                  | (go_at_call 45; refine (CR2 _).mono ?_; rintro e w4 ⟨rfl, B4⟩; have hA5 : Below w4.heap.size w4 (w4.alloc (.cells #[.int .i64 x.1, .int .i64 x.2] 60)) := ((Below.refl _ _).alloc (Nat.le_refl _) _); have hA6 : Below (w4.alloc (.cells #[.int .i64 x.1, .int .i64 x.2] 60)).heap.size (w4.alloc (.cells #[.int .i64 x.1, .int .i64 x.2] 60)) ((w4.alloc (.cells #[.int .i64 x.1, .int .i64 x.2] 60)).alloc (.cells #[.int .i64 x.1, .int .i64 x.2] 60)) := ((Below.refl _ _).alloc (Nat.le_refl _) _); have hz4 := B4.size; have hz3 := HB.out.size; have hOa := ((HLo.out.below B4).below hA5).below hA6; have HB6 := hid_into ((HB.out.trans (B4.mono hz3)).trans ((hA5.mono (by omega)).trans (hA6.mono (by simp; omega)))); have hLa : Ls ((w4.alloc (.cells #[.int .i64 x.1, .int .i64 x.2] 60)).alloc (.cells #[.int .i64 x.1, .int .i64 x.2] 60)) (.slice (some ⟨w4.heap.size + 1, 0, none⟩) 1 1) [x] := (by have e1 := heap_alloc_new (w4.alloc (.cells #[.int .i64 x.1, .int .i64 x.2] 60)) (.cells (cells2 [x]).toArray 60); rw [World.size_alloc] at e1; exact Ls_of_block (l := [x]) e1 (by unfold maxLen; simp)); clear B4 hA5 hA6)
                  | (at_builtin; refine wpList_append_ls _ rfl (.tmp 46) (.tmp 48) rfl w.heap.size _ acc rfl hOa _ [x] rfl hLa (by simp; omega) (by simp; omega) ?_; intro ao7 cap7 w7 hown7 hg7 hat7; have hB7 : Below w.heap.size w w7 := HB6.out.grown hg7 (by simp; omega) (fun k hk => (hOa.lt k hk).1); have HO7 := hid_into hown7; clear hown7 hg7 hat7))
                go_roundw
                case rel => exact ⟨acc ++ [x], ao7, cap7, e + 1, by simp, by go_num, by have := HK.out; simp; omega, by omega, hid_into (by simpa using HO7.out), hid_into (by rw [HNX.out]; exact HP3.out), hid_into hB7⟩
                case measure => simp [intOf]; omega
    · have hd : s.drop a = [] := List.drop_eq_nil_of_le (by have := HNS.out; omega)
      have ia : ¬ (a : Int) < (ns : Int) := by omega
      have HT2 := hid_into (PaI.last (by have := HPI.out; rw [hd] at this; exact this))
      have HLs := hid_into HLo.out.ls
      have CK := fun W h' => rcheck_any (.slice ao acc.length cap) acc W h'
      clear hd
      by_cases hok : (chk acc).2 = 0
      · have HD3 : Hid (D = (acc, 0, 0)) := by show _ = _; rw [HPA.out, HT2.out]; exact if_pos hok
        rw [show chk acc = (0, 0) from Okp.chk hok] at CK
        go_wp2_with (first
          | (go_at_call 10; refine (CK _ HLs.out).mono ?_; rintro e w3 ⟨rfl, B3⟩))
        go_ret3
        rw [HD3.out]
        exact ⟨_, rfl, HLs.out.below B3, HB.out.trans (B3.mono HB.out.size)⟩
      · have HD3 : Hid (D = ([], (chk acc).1, (chk acc).2)) := by show _ = _; rw [HPA.out, HT2.out]; exact if_neg hok
        generalize chk acc = c at *
        have hc : (c.2 != 0) = true := by simp [hok]
        go_wp2_with (first
          | (go_at_call 10; refine (CK _ HLs.out).mono ?_; rintro e w3 ⟨rfl, B3⟩))
        go_ret3
        rw [HD3.out]
        exact ⟨_, rfl, (Lo.nil _ 0).ls, HB.out.trans (B3.mono HB.out.size)⟩
end Go.Proofs.YtddmnpfebajnmaaDoor
