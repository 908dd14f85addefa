/-
  A text as a program: Parse.
-/
import Derived.Test.YtddmnpfebajnmaaDoorRead
namespace Go.Proofs.YtddmnpfebajnmaaDoor
open Go.RowKit
def szOf : Value → Nat
  | .string b => b.size
  | _ => 0
theorem szOf_str (l : List UInt8) : szOf (.string ⟨l.toArray⟩) = l.length := by simp [szOf, ByteArray.size]
/-- What the loop of parsing holds. -/
def PaI (T : Except (Int × Int) (List Ii)) (acc : List Ii) (rest : List UInt8) : Prop := T = (parLs acc.length (linesL rest)).map (acc ++ ·)
theorem PaI.start (s : List UInt8) : PaI (parLs 0 (linesL s)) [] s := by
  unfold PaI
  cases h : parLs 0 (linesL s) with
  | error e => rfl
  | ok l => rfl
theorem PaI.long {T : Except (Int × Int) (List Ii)} {acc : List Ii} {rest : List UInt8} (h : PaI T acc rest) (hr : rest ≠ []) (hk : acc.length = 256) : T = .error (256, 5) := by
  unfold PaI at h
  rw [hk, parLs_long _ (by rw [linesL_more hr]; simp)] at h
  exact h
theorem PaI.none_ {T : Except (Int × Int) (List Ii)} {acc : List Ii} {rest : List UInt8} (h : PaI T acc rest) (hr : rest ≠ []) (hk : acc.length ≠ 256) (hn : readL (Lib.cut rest [10]).1 = none) : T = .error ((acc.length : Int), 19) := by
  unfold PaI at h
  rw [linesL_more hr, parLs_none hk hn] at h
  exact h
theorem PaI.some_ {T : Except (Int × Int) (List Ii)} {acc : List Ii} {rest : List UInt8} (h : PaI T acc rest) (hr : rest ≠ []) (hk : acc.length ≠ 256) {x : Ii} (hn : readL (Lib.cut rest [10]).1 = some x) : PaI T (acc ++ [x]) (Lib.cut rest [10]).2.1 := by
  unfold PaI at h ⊢
  rw [linesL_more hr, parLs_some hk hn] at h
  rw [h, show (acc ++ [x]).length = acc.length + 1 by simp]
  cases parLs (acc.length + 1) (linesL (Lib.cut rest [10]).2.1) <;> simp [Except.map]
theorem PaI.last {T : Except (Int × Int) (List Ii)} {acc : List Ii} (h : PaI T acc []) : T = .ok acc := by
  unfold PaI at h
  rw [linesL_nil, parLs] at h
  simpa [Except.map] using h
/-- What parsing answers of lines. -/
noncomputable def parA (T : Except (Int × Int) (List Ii)) : List Ii × Int × Int := match T with
  | .error e => ([], e.1, e.2)
  | .ok l => if (chk l).2 = 0 then (l, 0, 0) else ([], (chk l).1, (chk l).2)
theorem parS_eq (s : List UInt8) : parS s = parA (parLs 0 (linesL s)) := rfl
theorem cut_fst_len (c : UInt8) (s : List UInt8) : (Lib.cut s [c]).1.length ≤ s.length ∧ (Lib.cut s [c]).2.1.length ≤ s.length := by
  rcases parted c s with h | ⟨a, b, rfl, h⟩
  · rw [cut_no c s h]; simp
  · rw [cut_at c a b h]
    simp
    omega
theorem Tb.grownP {w w' : World} {tb base : Nat} {v : Value} {l : List Ii} (h : Tb w tb) (ho : Lo w base v l) (hg : w.grownBy w' v.ownBlock) : Tb w' tb := by
  refine h.keep (hg.block tb (Cw.lt h) fun e => ?_)
  rcases ho.2 with ⟨rfl, _⟩ | ⟨g, cap, cur, rfl, _, hgg, _⟩
  · simp [Value.ownBlock] at e
  · have e' : tb = g := by simpa [Value.ownBlock] using e
    subst e'
    have h' : w.heap[tb]? = some (.cells opsR.toArray 57 (0, 0)) := h
    rw [hgg] at h'
    simp at h'
set_option maxRecDepth 20000 in
set_option maxHeartbeats 8000000 in
theorem parse_any (s : List UInt8) (hl : s.length ≤ 1000000) (w : World) (ht : Tt w) :
    Calls Tryd.prog 22 #[.string ⟨s.toArray⟩] w fun e w' => ∃ rv, e = .returned (.tuple #[rv, .int .i64 (parS s).2.1, .int .i64 (parS s).2.2]) ∧ Ls w' rv (parS s).1 ∧ Below w.heap.size w w' := by
  have HPI := hid_into (PaI.start s)
  have HPA := hid_into (parS_eq s)
  generalize parLs 0 (linesL s) = T at *
  generalize parS s = D at *
  have Ht := hid_into ht
  clear ht
  obtain ⟨cs, hcs⟩ : ∃ cs, cs = opsR := ⟨_, rfl⟩
  obtain ⟨os, hos⟩ : ∃ os, os = zeroT := ⟨_, rfl⟩
  have HI : Hid ((Tryd.prog.info? 57).map (·.size) = some os.length) := by rw [hos]; exact Tryd.size57
  have HLn : Hid (os.length = cs.length) := by rw [hos, hcs]; exact hid_into rfl
  have HC : Hid (∀ v ∈ cs, v.oneCell' = true) := by rw [hcs]; exact hid_into (by decide)
  have HOz : Hid ((Tryd.prog.info? 57).bind (·.zero) = some (.agg os.toArray)) := by rw [hos]; exact Tryd.zero57
  have HOP : ∀ W, Calls Tryd.prog 24 #[] W fun e w' => e = .returned (.agg cs.toArray) ∧ Below W.heap.size W w' := by rw [hcs]; exact ops_any
  have HE : Hid (cs = opsR) := hid_into hcs
  clear hcs hos
  go_enter Tryd.func22, Tryd.ntmps22
  go_wp2_with (first
    | (go_at_call 24; refine (HOP _).mono ?_; rintro e w1 ⟨rfl, B1⟩)
    | (refine wpList_alloc_row rfl 57 rfl os HOz.out ?_; intro W1 hc1 B2 HS1)
    | (refine wpList_store_rw rfl 57 (.tmp 6) (.tmp 15) rfl w1.heap.size os cs 57 rfl rfl hc1 HI HLn HC.out ?_; intro W2 hc2 O2))
  have hs1 := B1.size
  have HT : Hid (Tb W2 w1.heap.size) := by
    have e := HE.out
    subst e
    exact hc2
  have HB : Hid (Below w.heap.size w W2) := B1.trans ((B2.mono (by omega)).trans (O2.below (by omega)))
  clear HE hc1 hc2 O2 B2 HS1 HOz HI HLn HC HOP B1
  have htb : w.heap.size ≤ w1.heap.size := hs1
  generalize w1.heap.size = tb at *
  go_loopw [5, 7] (fun v r wr => ∃ (acc : List Ii) (ao : Option Addr) (cap : Nat) (rest : List UInt8), v = .slice ao acc.length cap ∧ r = .string ⟨rest.toArray⟩ ∧ acc.length ≤ 256 ∧ rest.length ≤ 1000000 ∧ Hid (Lo wr w.heap.size (.slice ao acc.length cap) acc) ∧ Hid (Tb wr tb) ∧ Hid (PaI T acc rest) ∧ Hid (Below w.heap.size w wr)) (fun _ r _ => szOf r)
  case atStart => exact ⟨[], none, 0, s, rfl, rfl, by simp, hl, hid_into (Lo.nil _ _), HT, HPI, HB⟩
  case round =>
    clear HT HB HPI hl
    obtain ⟨acc, ao, cap, rest, rfl, rfl, hacc, hrl, HLo, HT, HPI, HB⟩ := hrel
    by_cases hr : rest = []
    · subst hr
      have HT2 := hid_into HPI.out.last
      have HLs := hid_into HLo.out.ls
      have CK := fun W h' => check_any (.slice ao acc.length cap) acc W h'
      by_cases hok : (chk acc).2 = 0
      · have HD3 : Hid (D = (acc, 0, 0)) := by show _ = _; rw [HPA.out, HT2.out]; exact if_pos hok
        rw [show chk acc = (0, 0) from Okp.chk hok] at CK
        go_wp2_with (first
          | (go_at_call 9; refine (CK _ HLs.out).mono ?_; rintro e w3 ⟨rfl, B3⟩))
        go_ret3
        rw [HD3.out]
        exact ⟨_, rfl, HLs.out.below B3, HB.out.trans (B3.mono HB.out.size)⟩
      · have HD3 : Hid (D = ([], (chk acc).1, (chk acc).2)) := by show _ = _; rw [HPA.out, HT2.out]; exact if_neg hok
        generalize chk acc = c at *
        have hc : (c.2 != 0) = true := by simp [hok]
        go_wp2_with (first
          | (go_at_call 9; refine (CK _ HLs.out).mono ?_; rintro e w3 ⟨rfl, B3⟩))
        go_ret3
        rw [HD3.out]
        exact ⟨_, rfl, (Lo.nil _ 0).ls, HB.out.trans (B3.mono HB.out.size)⟩
    · have hrb : (rest != []) = true := by simp [hr]
      have hrb2 : (rest == []) = false := by simp [hr]
      by_cases hk : acc.length = 256
      · have HT2 := hid_into (HPI.out.long hr hk)
        have HD3 : Hid (D = ([], 256, 5)) := by show _ = _; rw [HPA.out, HT2.out]; rfl
        have hk' : ((acc.length : Int) == 256) = true := by simp [hk]
        go_wp2_with fail
        go_ret3
        rw [HD3.out]
        exact ⟨_, by simp [hk], (Lo.nil _ 0).ls, HB.out⟩
      · have hk' : ((acc.length : Int) == 256) = false := by simp; omega
        have hc1 := cut_fst_len 10 rest
        have hc2 := cut_lt 10 rest hr
        have C43 := cut_any 10 rest hrl wr (Ht.out.below HB.out (Nat.le_refl _))
        have HP1 := hid_into (fun h => HPI.out.none_ hr hk h)
        have HP2 := hid_into (fun x h => HPI.out.some_ hr hk (x := x) h)
        clear HPI hr hrb
        generalize (Lib.cut rest [10]).1 = line at *
        generalize (Lib.cut rest [10]).2.1 = behind at *
        generalize (Lib.cut rest [10]).2.2 = fb at *
        have CR := fun W h1 h2 => read_any tb line W (by omega) h1 h2
        have HCL : Hid (behind.length < rest.length) := hc2
        have HK := hid_into hk
        clear hk hc2
        cases hrd : readL line with
        | none =>
          have HD3 : Hid (D = ([], (acc.length : Int), 19)) := by show _ = _; rw [HPA.out, HP1.out hrd]; rfl
          have CR2 : ∀ W, Tb W tb → Tt W → Calls Tryd.prog 44 #[.pointer (some ⟨tb, 0, none⟩), .string ⟨line.toArray⟩] W fun e w' => ∃ o a, e = .returned (.tuple #[.agg #[.int .i64 o, .int .i64 a], .bool false]) ∧ Below W.heap.size W w' := fun W h1 h2 => (CR W h1 h2).mono fun e w' ⟨o, a, ok, he, hp, hb⟩ => by
            unfold ReadP at hp
            rw [hrd] at hp
            exact ⟨o, a, by rw [he, hp], hb⟩
          clear HP1 HP2 CR hrd
          go_wp2_with (first
            | (go_at_call 43; refine C43.mono ?_; rintro e w3 ⟨rfl, sm3⟩; have hT3 : Tb w3 tb := HT.out.keep (by rw [sm3.heap]); have hB3 := HB.out.trans (sm3.below _); have hTt3 := Ht.out.below hB3 (Nat.le_refl _); have HB3 := hid_into hB3; clear sm3)
            | (go_at_call 44; refine (CR2 _ hT3 hTt3).mono ?_; rintro e w4 ⟨o4, a4, rfl, B4⟩))
          go_ret3
          rw [HD3.out]
          have hA5 : Below w4.heap.size w4 (w4.alloc (.cells #[.int .i64 o4, .int .i64 a4] 60)) := (Below.refl _ _).alloc (Nat.le_refl _) _
          have hz4 := B4.size
          have hz3 := HB3.out.size
          exact ⟨_, rfl, (Lo.nil _ 0).ls, (HB3.out.trans (B4.mono hz3)).trans (hA5.mono (by omega))⟩
        | some x =>
          have HP3 := hid_into (HP2.out x hrd)
          have CR2 : ∀ W, Tb W tb → Tt W → Calls Tryd.prog 44 #[.pointer (some ⟨tb, 0, none⟩), .string ⟨line.toArray⟩] W fun e w' => e = .returned (.tuple #[.agg #[.int .i64 x.1, .int .i64 x.2], .bool true]) ∧ Below W.heap.size W w' := fun W h1 h2 => (CR W h1 h2).mono fun e w' ⟨o, a, ok, he, hp, hb⟩ => by
            unfold ReadP at hp
            rw [hrd] at hp
            obtain ⟨rfl, h2⟩ := hp
            exact ⟨by rw [he, h2], hb⟩
          clear HP1 HP2 CR hrd
          go_wp2_with (first
            | (go_at_call 43; refine C43.mono ?_; rintro e w3 ⟨rfl, sm3⟩; have hT3 : Tb w3 tb := HT.out.keep (by rw [sm3.heap]); have hB3 := HB.out.trans (sm3.below _); have hTt3 := Ht.out.below hB3 (Nat.le_refl _); have HB3 := hid_into hB3; have HL3 := hid_into (HLo.out.sm sm3); have HT3 := hid_into hT3; clear sm3 hB3)
            | (go_at_call 44; refine (CR2 _ hT3 hTt3).mono ?_; rintro e w4 ⟨rfl, B4⟩; have hA5 : Below w4.heap.size w4 (w4.alloc (.cells #[.int .i64 x.1, .int .i64 x.2] 60)) := ((Below.refl _ _).alloc (Nat.le_refl _) _); have hA6 : Below (w4.alloc (.cells #[.int .i64 x.1, .int .i64 x.2] 60)).heap.size (w4.alloc (.cells #[.int .i64 x.1, .int .i64 x.2] 60)) ((w4.alloc (.cells #[.int .i64 x.1, .int .i64 x.2] 60)).alloc (.cells #[.int .i64 x.1, .int .i64 x.2] 60)) := ((Below.refl _ _).alloc (Nat.le_refl _) _); have hz4 := B4.size; have hz3 := HB3.out.size; have hOa := ((HL3.out.below B4).below hA5).below hA6; have HT6 := hid_into (((HT3.out.below B4).below hA5).below hA6); have HB6 := hid_into ((HB3.out.trans (B4.mono hz3)).trans ((hA5.mono (by omega)).trans (hA6.mono (by simp; omega)))); have hLa : Ls ((w4.alloc (.cells #[.int .i64 x.1, .int .i64 x.2] 60)).alloc (.cells #[.int .i64 x.1, .int .i64 x.2] 60)) (.slice (some ⟨w4.heap.size + 1, 0, none⟩) 1 1) [x] := (by have e1 := heap_alloc_new (w4.alloc (.cells #[.int .i64 x.1, .int .i64 x.2] 60)) (.cells (cells2 [x]).toArray 60); rw [World.size_alloc] at e1; exact Ls_of_block (l := [x]) e1 (by unfold maxLen; simp)); clear hT3 hTt3 B4 hA5 hA6)
            | (at_builtin; refine wpList_append_ls _ rfl (.tmp 39) (.tmp 41) rfl w.heap.size _ acc rfl hOa _ [x] rfl hLa (by simp; omega) (by simp; omega) ?_; intro ao7 cap7 w7 hown7 hg7 hat7; have HT7 := hid_into (HT6.out.grownP hOa hg7); have hB7 : Below w.heap.size w w7 := HB6.out.grown hg7 (by simp; omega) (fun k hk => (hOa.lt k hk).1); have HO7 := hid_into hown7; clear hown7 hg7 hat7))
          go_roundw
          case rel => exact ⟨acc ++ [x], ao7, cap7, behind, by simp, rfl, by have := HK.out; simp; omega, by omega, hid_into (by simpa using HO7.out), HT7, HP3, hid_into hB7⟩
          case measure =>
            have h1 := HCL.out
            rw [← szOf_str, ← szOf_str rest] at h1
            exact h1
end Go.Proofs.YtddmnpfebajnmaaDoor
