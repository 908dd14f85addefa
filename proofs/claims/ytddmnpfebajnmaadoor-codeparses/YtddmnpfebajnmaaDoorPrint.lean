/-
  A program as text: strings.Builder's calls in plain words (Bl), Print.
-/
import Derived.Test.YtddmnpfebajnmaaDoorLine
import Derived.Test.YtddmnpfebajnmaaDoorCheck
namespace Go.Proofs.YtddmnpfebajnmaaDoor
open Go.RowKit
/-- Block b is a strings.Builder that holds l; all of it lies from b on. -/
def Bl (w : World) (b : Nat) (l : List UInt8) : Prop := Lib.IsBuilderF 71 5 b b (Lib.byteCells l) w
theorem Bl.lt {w : World} {b : Nat} {l : List UInt8} (h : Bl w b l) : b < w.heap.size := by
  rcases h with ⟨_, v, hb, _⟩ | ⟨_, v, hb, _⟩ <;> exact (Array.getElem?_eq_some_iff.1 hb).1
theorem Bl.keep {w w' : World} {b : Nat} {l : List UInt8} (h : Bl w b l) (hk : ∀ k, k < w.heap.size → w'.heap[k]? = w.heap[k]?) : Bl w' b l := by
  have key : ∀ p, Lib.BuilderAtF 71 5 b b p (Lib.byteCells l) w → Lib.BuilderAtF 71 5 b b p (Lib.byteCells l) w' := by
    rintro p ⟨hB, v, hb, hown, hne⟩
    refine ⟨hB, v, (hk b (Array.getElem?_eq_some_iff.1 hb).1).trans hb, ⟨hown.1, ?_⟩, hne⟩
    rcases hown.2 with hn | ⟨g, cap, cur, fz, hv, hbg, hg, rest⟩
    · exact .inl hn
    · exact .inr ⟨g, cap, cur, fz, hv, hbg, (hk g (Array.getElem?_eq_some_iff.1 hg).1).trans hg, rest⟩
  exact h.elim (fun x => .inl (key _ x)) (fun x => .inr (key _ x))
theorem Bl.below {w w' : World} {b : Nat} {l : List UInt8} (h : Bl w b l) (hb : Below w.heap.size w w') : Bl w' b l := h.keep fun k hk => hb.block k hk
theorem Bl.new {w : World} {b : Nat} (h : w.heap[b]? = some (.cells #[.pointer none, .slice none 0 0] 71 (0, 0))) : Bl w b [] :=
  Or.inl ⟨Nat.le_refl _, .slice none 0 0, h, World.ownsRowF_nil _ _ _ _, by simp [Value.ownBlock]⟩
theorem strCells_mk (s : List UInt8) : Lib.strCells ⟨s.toArray⟩ = Lib.byteCells s := rfl
theorem byteCells_append (a b : List UInt8) : Lib.byteCells (a ++ b) = Lib.byteCells a ++ Lib.byteCells b := by simp [Lib.byteCells]
theorem bstr_any {w : World} {b : Nat} {l : List UInt8} (h : Bl w b l) (s : List UInt8) (hl : l.length + s.length ≤ 140737488355328) :
    Calls Tryd.prog 32 #[.pointer (some ⟨b, 0, none⟩), .string ⟨s.toArray⟩] w fun e w' => e = .returned (.tuple #[.int .i64 s.length, .nilIface]) ∧ Bl w' b (l ++ s) ∧ Below b w w' ∧ Lib.OthersKept 5 (some b) w w' := by
  have hs : (⟨s.toArray⟩ : ByteArray).size = s.length := by simp [ByteArray.size]
  refine (Any.Builder_WriteString_k (ρ := sh_lays166_ren) sh_lays166 sh_extra166 b b (Lib.byteCells l) ⟨s.toArray⟩ w h (by rw [hs]; simpa [Lib.byteCells] using hl) (Nat.le_of_lt h.lt)).mono ?_
  rintro e w' ⟨he, h1, h2, h3⟩
  rw [hs] at he
  refine ⟨he, ?_, h2, h3⟩
  rw [strCells_mk, ← byteCells_append] at h1
  exact Or.inr h1
theorem bbyte_any {w : World} {b : Nat} {l : List UInt8} (h : Bl w b l) (hl : l.length + 1 ≤ 140737488355328) :
    Calls Tryd.prog 34 #[.pointer (some ⟨b, 0, none⟩), .int .u8 10] w fun e w' => e = .returned .nilIface ∧ Bl w' b (l ++ [10]) ∧ Below b w w' ∧ Lib.OthersKept 5 (some b) w w' := by
  refine (Any.Builder_WriteByte_k (ρ := sh_lays167_ren) sh_lays167 sh_extra167 b b (Lib.byteCells l) 10 w h (by simpa [Lib.byteCells] using hl) (Nat.le_of_lt h.lt)).mono ?_
  rintro e w' ⟨he, h1, h2, h3⟩
  refine ⟨he, ?_, h2, h3⟩
  rw [show (Lib.byteCells l ++ [Value.int .u8 10]) = Lib.byteCells (l ++ [10]) from (byteCells_append l [10]).symm] at h1
  exact Or.inr h1
theorem bout_any {w : World} {b : Nat} {l : List UInt8} (h : Bl w b l) :
    Calls Tryd.prog 35 #[.pointer (some ⟨b, 0, none⟩)] w fun e w' => e = .returned (.string ⟨l.toArray⟩) ∧ Below b w w' := by
  refine (Any.Builder_String_any_k (ρ := sh_lays169_ren) sh_lays169 sh_extra169 b b l w h (Nat.le_of_lt h.lt)).mono ?_
  rintro e w' ⟨he, _, h2, _⟩
  exact ⟨he, h2⟩
theorem Tb.others {w w' : World} {g b : Nat} (h : Tb w g) (ho : Lib.OthersKept 5 (some b) w w') (hb : g ≠ b) : Tb w' g :=
  ho g _ h (by intro e; exact hb (Option.some.inj e)) (by intro c fz e; cases e)
/-- A program's text. -/
def textL (l : List Ii) : List UInt8 := l.flatMap fun x => lineL x ++ [10]
def prnL (l : List Ii) : List UInt8 := if (chk l).2 = 0 then textL l else []
theorem textL_snoc (l : List Ii) (x : Ii) : textL (l ++ [x]) = textL l ++ (lineL x ++ [10]) := by simp [textL]
theorem textL_len (l : List Ii) (h : ∀ x ∈ l, In64 x.2) : (textL l).length ≤ 28 * l.length := by
  induction l with
  | nil => simp [textL]
  | cons x l ih =>
    have h1 := lineL_len x (h x (by simp))
    have h2 := ih fun y hy => h y (by simp [hy])
    have e : textL (x :: l) = lineL x ++ [10] ++ textL l := by simp [textL]
    rw [e]
    simp only [List.length_append, List.length_cons, List.length_nil]
    omega
theorem take_snoc2 (l : List Ii) (k : Nat) (x : Ii) (h : l[k]? = some x) : l.take (k + 1) = l.take k ++ [x] := by
  rw [List.take_add_one, h]
  rfl
theorem Okp.in64 {l : List Ii} (h : Okp l) : ∀ x ∈ l, In64 x.2 := fun x hx => by
  have := mayI_arg (h.may x hx) (by have := h.len; omega)
  unfold In64
  omega
theorem Tryd.zero71 : (Tryd.prog.info? 71).bind (·.zero) = some (.agg [Value.pointer none, .slice none 0 0].toArray) := by kernel_rfl
set_option maxRecDepth 20000 in
set_option maxHeartbeats 4000000 in
theorem print_any (v : Value) (l : List Ii) (w : World) (h : Ls w v l) (ht : Tp w) :
    Calls Tryd.prog 13 #[v] w fun e w' => e = .returned (.tuple #[.string ⟨(prnL l).toArray⟩, .int .i64 (chk l).2]) ∧ Below w.heap.size w w' := by
  obtain ⟨ao, cap, rfl, hm⟩ := h.len
  have hm' : l.length ≤ 9223372036854775807 := by unfold maxLen at hm; omega
  have HL := hid_into h
  have HCK := fun W h' => check_any (.slice ao l.length cap) l W h'
  clear h hm
  by_cases hok : (chk l).2 = 0
  · have hO : Okp l := hok
    have HO := hid_into hO
    rw [hO.chk] at HCK
    rw [show prnL l = textL l from if_pos hok, hO.chk]
    have hl := hO.len
    clear hok hO
    obtain ⟨cs, hcs⟩ : ∃ cs, cs = opsR := ⟨_, rfl⟩
    obtain ⟨os, hos⟩ : ∃ os, os = zeroT := ⟨_, rfl⟩
    have HI : Hid ((Tryd.prog.info? 57).map (·.size) = some os.length) := by rw [hos]; exact Tryd.size57
    have HLn : Hid (os.length = cs.length) := by rw [hos, hcs]; exact hid_into rfl
    have HC : Hid (∀ v ∈ cs, v.oneCell' = true) := by rw [hcs]; exact hid_into (by decide)
    have HOz : Hid ((Tryd.prog.info? 57).bind (·.zero) = some (.agg os.toArray)) := by rw [hos]; exact Tryd.zero57
    have HOP : ∀ W, Calls Tryd.prog 24 #[] W fun e w' => e = .returned (.agg cs.toArray) ∧ Below W.heap.size W w' := by rw [hcs]; exact ops_any
    have HE : Hid (cs = opsR) := hid_into hcs
    clear hcs hos
    go_enter Tryd.func13, Tryd.ntmps13
    go_wp2_with (first
      | (go_at_call 9; refine (HCK _ HL.out).mono ?_; rintro e w0 ⟨rfl, B0⟩)
      | (go_at_call 24; refine (HOP _).mono ?_; rintro e w1 ⟨rfl, B1⟩)
      | (refine wpList_alloc_row rfl 71 rfl [.pointer none, .slice none 0 0] Tryd.zero71 ?_; intro W0 hb0 B00 HS0)
      | (refine wpList_alloc_row rfl 57 rfl os HOz.out ?_; intro W1 hc1 B2 HS1)
      | (refine wpList_store_rw rfl 57 (.tmp 7) (.tmp 18) rfl w1.heap.size os cs 57 rfl rfl hc1 HI HLn HC.out ?_; intro W2 hc2 O2))
    have hs0 := B0.size
    have hs1 := B1.size
    have hs00 := HS0.out
    have HT : Hid (Tb W2 w1.heap.size) := by
      have e := HE.out
      subst e
      exact hc2
    have HBl : Hid (Bl W2 w0.heap.size []) := by
      refine Bl.new ?_
      rw [O2.block _ (by omega), B2.block _ (by omega), B1.block _ (by omega)]
      exact hb0
    have HB : Hid (Below w.heap.size w W2) := B0.trans ((B00.mono hs0).trans ((B1.mono (by omega)).trans ((B2.mono (by omega)).trans (O2.below (by omega)))))
    have hne : w1.heap.size ≠ w0.heap.size := by omega
    have htb : w.heap.size ≤ w0.heap.size := hs0
    clear HE hc1 hc2 O2 B2 HS1 HOz HI HLn HC HOP B0 B00 B1 hb0 HS0 hs0 hs1 hs00 HCK
    generalize w0.heap.size = b at *
    generalize w1.heap.size = tb at *
    go_loopw [21] (fun i wr => ∃ k : Nat, k ≤ l.length ∧ i = .int .i64 (k : Int) ∧ Hid (Bl wr b (textL (l.take k))) ∧ Hid (Tb wr tb) ∧ Hid (Below w.heap.size w wr)) (fun i _ => l.length - (intOf i).toNat)
    case atStart => exact ⟨0, Nat.zero_le _, rfl, HBl.out, HT.out, HB.out⟩
    case round =>
      clear HT HB HBl
      obtain ⟨k, hk, rfl, HBl, HT, HB⟩ := hrel
      by_cases hlt : k < l.length
      · obtain ⟨⟨o, a⟩, hx⟩ : ∃ x, l[k]? = some x := ⟨_, List.getElem?_eq_getElem hlt⟩
        obtain ⟨g, off, hao, x0, x1⟩ := HL.out.at HB.out (Nat.le_refl _) k _ hx
        subst hao
        simp only at x0 x1
        have hmem := List.mem_of_getElem? hx
        have hmay := HO.out.may _ hmem
        have ha : In64 a := HO.out.in64 _ hmem
        obtain ⟨o1, o2⟩ := mayI_op hmay
        simp only at o1 o2
        obtain ⟨n, rfl⟩ := Int.eq_ofNat_of_zero_le (show 0 ≤ o by omega)
        have HX := hid_into (take_snoc2 l k _ hx)
        have hA : Below wr.heap.size wr (wr.alloc (.cells #[.int .i64 (n : Int), .int .i64 a] 60)) := (Below.refl _ _).alloc (Nat.le_refl _) _
        have HT2 := hid_into (HT.out.below hA)
        have HB2 := hid_into (HB.out.trans (hA.mono HB.out.size))
        have HBl2 := hid_into (HBl.out.below hA)
        have HTp := hid_into (ht.below HB2.out (Nat.le_refl _))
        have hline := line_any tb n a _ HTp.out HT2.out (by omega) (by omega) ha
        have hll := lineL_len ((n : Int), a) ha
        have HTL : Hid ((textL (l.take k)).length ≤ 28 * 256) := by
          have h1 := textL_len (l.take k) (fun y hy => HO.out.in64 y (List.mem_of_mem_take hy))
          have h2 : (l.take k).length ≤ 256 := by rw [List.length_take]; omega
          show _ ≤ _
          omega
        have HTS : Hid (textL (l.take (k + 1)) = textL (l.take k) ++ lineL ((n : Int), a) ++ [10]) := hid_into (by rw [HX.out, textL_snoc, List.append_assoc])
        clear hx hmem hmay hA HX HT HBl
        generalize lineL ((n : Int), a) = ln at *
        generalize textL (l.take k) = tx at *
        go_wp2_with (first
          | (go_at_call 33; refine hline.mono ?_; rintro e w3 ⟨rfl, B3⟩; have HBl3 := hid_into (HBl2.out.below B3); have HT3 := hid_into (HT2.out.below B3); have HB3 := hid_into (HB2.out.trans (B3.mono HB2.out.size)); clear B3)
          | (go_at_call 32; refine (bstr_any HBl3.out ln (by have := HTL.out; omega)).mono ?_; rintro e w4 ⟨rfl, h4, B4, O4⟩; have HBl4 := hid_into h4; have HT4 := hid_into (HT3.out.others O4 hne); have HB4 := hid_into (HB3.out.trans (B4.mono htb)); clear h4 B4 O4)
          | (go_at_call 34; refine (bbyte_any HBl4.out (by have := HTL.out; simp only [List.length_append]; omega)).mono ?_; rintro e w5 ⟨rfl, h5, B5, O5⟩; have HBl5 := hid_into h5; have HT5 := hid_into (HT4.out.others O5 hne); have HB5 := hid_into (HB4.out.trans (B5.mono htb)); clear h5 B5 O5))
        go_roundw
        case rel => exact ⟨k + 1, by omega, by go_num, by rw [HTS.out]; exact HBl5, HT5, HB5⟩
        case measure => simp [intOf]; omega
      · obtain rfl : k = l.length := by omega
        have e : l.take l.length = l := List.take_length
        rw [e] at HBl
        go_wp2_with (go_at_call 35; refine (bout_any HBl.out).mono ?_; rintro e w5 ⟨rfl, B5⟩)
        go_ret2
        exact ⟨rfl, HB.out.trans (B5.mono htb)⟩
  · have HP : Hid (prnL l = []) := hid_into (if_neg hok)
    generalize chk l = c at *
    have hne : (c.2 != 0) = true := by simp [hok]
    go_enter Tryd.func13, Tryd.ntmps13
    go_wp2_with (first
      | (go_at_call 9; refine (HCK _ HL.out).mono ?_; rintro e w0 ⟨rfl, B0⟩))
    go_ret2
    exact ⟨by rw [HP.out]; rfl, B0⟩
end Go.Proofs.YtddmnpfebajnmaaDoor
