/-
  The law's known: what lasts, and a draw of the rest. It answers true, and writes nothing that was there.
-/
import Derived.Test.YthkgmnmdojmfgaaCrash
import Derived.Lib.SlBytesConst
namespace Go.Proofs.Ythkgmnmdojmfgaa
open Go.RowKit Go.Maps
variable {X : Nm → Prop} {w w' : World} {F : Nat → Prop} {sb : Nat} {mb : Option Nat} {room : Int} {fs : Fls} {lit : Bool} {left : Int}

/-- A disk of the call's own, from world w0 on: nothing below w0's size is written. -/
def Ss (w0 w : World) (sb : Nat) (room : Int) (fs : Fls) (lit : Bool) (left : Int) : Prop := ∃ F mb, Dk w F sb mb room fs lit left ∧ (∀ k, F k → w0.heap.size ≤ k) ∧ Below w0.heap.size w0 w
theorem Ss.res {w0 w w' : World} {fs' : Fls} {lit' : Bool} {left' : Int} (hF : ∀ k, F k → w0.heap.size ≤ k) (hB : Below w0.heap.size w0 w) (h : Res F sb room fs' lit' left' w w') : Ss w0 w' sb room fs' lit' left' := by
  obtain ⟨mb', h1, hG⟩ := h
  refine ⟨_, mb', h1, fun k hk => ?_, hB.trans (hG.below hB.size hF)⟩
  rcases hk with hk | hk
  · exact hF k hk
  · exact Nat.le_trans hB.size hk
theorem Ss.below {w0 w w' : World} (h : Ss w0 w sb room fs lit left) (hb : Below w.heap.size w w') : Ss w0 w' sb room fs lit left := by
  obtain ⟨F, mb, h1, hF, hB⟩ := h
  exact ⟨F, mb, h1.to hb, hF, hB.trans (hb.mono hB.size)⟩
theorem Ss.bel {w0 w : World} (h : Ss w0 w sb room fs lit left) : Below w0.heap.size w0 w := by
  obtain ⟨F, mb, h1, hF, hB⟩ := h
  exact hB
theorem GRes.ss {P : Int → Fls → Prop} {w0 w w' : World} {e : Ending} (hF : ∀ k, F k → w0.heap.size ≤ k) (hB : Below w0.heap.size w0 w) (h : GRes P F sb room lit left w e w') : ∃ ev fs', P ev fs' ∧ e = .returned (.int .i64 ev) ∧ Ss w0 w' sb room fs' lit (burnL ev lit left) := by
  obtain ⟨ev, fs', hP, he, hR⟩ := h
  exact ⟨ev, fs', hP, he, Ss.res hF hB hR⟩
/-- What one of the five does to a disk of the call's own. -/
def SRes (P : Int → Fls → Prop) (w0 : World) (sb : Nat) (room : Int) (lit : Bool) (left : Int) (e : Ending) (w' : World) : Prop := ∃ ev fs', P ev fs' ∧ e = .returned (.int .i64 ev) ∧ Ss w0 w' sb room fs' lit (burnL ev lit left)
section
variable {w0 : World}
theorem Ss.write (h : Ss w0 w sb room fs lit left) (x : Nm) (hx : x.length ≤ maxLen) (ap : Option Addr) (cp : Nat) (ps : List Int) (hps : Bs w (.slice ap ps.length cp) ps) (hby : Byt ps) :
    Calls Try.prog 15 #[.pointer (some ⟨sb, 0, none⟩), encStr x, .slice ap ps.length cp] w fun e w' => SRes (fiveP lit left (noneB x) fs (writeP fs x ps room)) w0 sb room lit left e w' := by
  obtain ⟨F, mb, h1, hF, hB⟩ := h
  exact (Write_any h1 x hx ap cp ps hps hby).mono fun e w' hr => GRes.ss hF hB hr
theorem Ss.sync (h : Ss w0 w sb room fs lit left) (x : Nm) (hx : x.length ≤ maxLen) :
    Calls Try.prog 19 #[.pointer (some ⟨sb, 0, none⟩), encStr x] w fun e w' => SRes (fiveP lit left (noneB x) fs (syncP fs x)) w0 sb room lit left e w' := by
  obtain ⟨F, mb, h1, hF, hB⟩ := h
  exact (Sync_any h1 x hx).mono fun e w' hr => GRes.ss hF hB hr
theorem Ss.remove (h : Ss w0 w sb room fs lit left) (x : Nm) (hx : x.length ≤ maxLen) :
    Calls Try.prog 22 #[.pointer (some ⟨sb, 0, none⟩), encStr x] w fun e w' => SRes (fiveP lit left (noneB x) fs (removeP fs x)) w0 sb room lit left e w' := by
  obtain ⟨F, mb, h1, hF, hB⟩ := h
  exact (Remove_any h1 x hx).mono fun e w' hr => GRes.ss hF hB hr
theorem Ss.rename (h : Ss w0 w sb room fs lit left) (x y : Nm) (hx : x.length ≤ maxLen) (hy : y.length ≤ maxLen) :
    Calls Try.prog 24 #[.pointer (some ⟨sb, 0, none⟩), encStr x, encStr y] w fun e w' => SRes (fiveP lit left (noneB x || noneB y) fs (renameP fs x y)) w0 sb room lit left e w' := by
  obtain ⟨F, mb, h1, hF, hB⟩ := h
  exact (Rename_any h1 x y hx hy).mono fun e w' hr => GRes.ss hF hB hr
theorem Ss.fuse (h : Ss w0 w sb room fs lit left) (n : Int) (hn : (Lit.int .i64 n).wf = true) :
    Calls Try.prog 21 #[.pointer (some ⟨sb, 0, none⟩), .int .i64 n] w fun e w' => e = .returned (.tuple #[]) ∧ Ss w0 w' sb room fs (decide (0 ≤ n)) (max n 0) := by
  obtain ⟨F, mb, h1, hF, hB⟩ := h
  refine (Fuse_any h1 n hn).mono ?_
  rintro e w' ⟨he, h2, hG⟩
  exact ⟨he, F, mb, h2, hF, hB.trans (hG.below hB.size hF)⟩
theorem Ss.crash (h : Ss w0 w sb room fs lit left) (keep t : Int) (hk : keep < 9223372036854775808) (ht : 0 ≤ t ∧ t < 256) :
    Calls Try.prog 16 #[.pointer (some ⟨sb, 0, none⟩), .int .i64 keep, .int .u8 t] w fun e w' => e = .returned (.tuple #[]) ∧ ∃ fs', abs fs' = (abs fs).map (crA keep.toNat t) ∧ Ss w0 w' sb room fs' false 0 := by
  obtain ⟨F, mb, h1, hF, hB⟩ := h
  refine (Crash_any h1 keep t hk ht).mono ?_
  rintro e w' ⟨he, fs', ha, hR⟩
  exact ⟨he, fs', ha, Ss.res hF hB hR⟩
theorem Ss.read (h : Ss w0 w sb room fs lit left) (x : Nm) (hx : x.length ≤ maxLen) :
    Calls Try.prog 20 #[.pointer (some ⟨sb, 0, none⟩), encStr x] w fun e w' => ∃ ao cap, e = .returned (.tuple #[.slice ao (at0 fs x).zs.length cap, .int .i64 (none7 fs x)]) ∧ Ow w' w.heap.size (.slice ao (at0 fs x).zs.length cap) (at0 fs x).zs ∧ Below w.heap.size w w' := by
  obtain ⟨F, mb, h1, hF, hB⟩ := h
  exact Read_any h1 x hx
theorem Ss.names (h : Ss w0 w sb room fs lit left) :
    Calls Try.prog 25 #[.pointer (some ⟨sb, 0, none⟩)] w fun e w' => ∃ v, e = .returned v ∧ w'.ownsRow w.heap.size 9 1 v fs.length ((nms fs).map encStr) ∧ Below w.heap.size w w' := by
  obtain ⟨F, mb, h1, hF, hB⟩ := h
  exact Names_any h1
theorem Ss.new (w : World) (room : Int) (h : 0 ≤ room ∧ room ≤ 1073741824) :
    Calls Try.prog 11 #[.int .i64 room] w fun e w' => e = .returned (.tuple #[.pointer (some ⟨w.heap.size, 0, none⟩), .int .i64 0]) ∧ Ss w w' w.heap.size room [] false 0 := by
  refine (New_any room w h).mono ?_
  rintro e w' ⟨he, h1, hB⟩
  exact ⟨he, _, _, h1, fun k hk => by rw [hk]; exact Nat.le_refl _, hB⟩
end
theorem fiveP_go {lit : Bool} {left : Int} {nn : Bool} {P : Int → Fls → Prop} {ev : Int} {fs' : Fls} (h : fiveP lit left nn fs P ev fs') (h1 : burntB lit left = false) (h2 : nn = false) : P ev fs' := by
  simp only [fiveP, h1, h2] at h
  exact h
theorem none_a : noneB [97] = false := by decide
theorem one_put (x : Nm) (f g : Fl) : pt [(x, g)] x f = [(x, f)] := by simp [pt, dl, ins]
theorem one_lk (x : Nm) (f : Fl) : lk [(x, f)] x = some f := by simp [lk]
theorem one_at (x : Nm) (f : Fl) : at0 [(x, f)] x = f := by simp only [at0, one_lk]
theorem one_abs {fs : Fls} {x : Nm} {zs : List Int} {l : Nat} (h : abs fs = [(x, zs, l)]) : ∃ v, fs = [(x, ⟨v, zs, l⟩)] := by
  match fs, h with
  | [(y, ⟨v, zs', l'⟩)], h =>
    simp only [abs, List.map_cons, List.map_nil, List.cons.injEq, Prod.mk.injEq, and_true] at h
    obtain ⟨rfl, rfl, rfl⟩ := h
    exact ⟨v, rfl⟩
  | [], h => simp [abs] at h
  | _ :: _ :: _, h => simp [abs] at h
theorem byt5 : Byt [49, 50, 51, 52, 53] := by unfold Byt; decide
theorem byt3 : Byt [54, 55, 56] := by unfold Byt; decide
theorem crA_known : [(([97] : Nm), ([49, 50, 51, 52, 53, 54, 55, 56] : List Int), 5)].map (crA 1 1) = [([97], [49, 50, 51, 52, 53, 55], 6)] := by decide
set_option maxRecDepth 8000 in
set_option maxHeartbeats 1600000 in
theorem known_any (w : World) : Calls Try.prog 10 #[] w fun e w' => e = .returned (.bool true) ∧ Below w.heap.size w w' := by
  have kc := fun (w : World) (C : Array Value) (n c : Nat) => Lib.run_convert_bytes_const (P := Try.prog) w 32 5 C n c Try.underlying32 Try.underlying5
  go_enter Try.func10, Try.ntmps10
  go_wp2_with fail
  refine (Ss.new w 100 (by decide)).mono ?_
  rintro e W1 ⟨rfl, h1⟩
  have b1 : Bs (W1.alloc (.cells #[.int .u8 49, .int .u8 50, .int .u8 51, .int .u8 52, .int .u8 53] 5 (5, 6))) (.slice (some ⟨W1.heap.size, 0, none⟩) 5 5) [49, 50, 51, 52, 53] := Bs_of_block (zs := [49, 50, 51, 52, 53]) (heap_alloc_new W1 _) (by simp [maxLen])
  have h1' := h1.below ((Below.refl _ W1).alloc (Nat.le_refl _) (.cells #[.int .u8 49, .int .u8 50, .int .u8 51, .int .u8 52, .int .u8 53] 5 (5, 6)))
  go_wp2_with fail
  refine (h1'.write [97] (by decide) _ 5 [49, 50, 51, 52, 53] b1 byt5).mono ?_
  rintro e W2 ⟨ev, fs2, hP, rfl, h2⟩
  obtain ⟨he, v2, hf⟩ := fiveP_go hP rfl none_a
  have he0 : ev = 0 := by rw [he]; decide
  have hf0 : fs2 = [([97], ⟨v2, [49, 50, 51, 52, 53], 0⟩)] := by rw [hf]; rfl
  subst he0; subst hf0
  replace h2 : Ss w W2 w.heap.size 100 [([97], ⟨v2, [49, 50, 51, 52, 53], 0⟩)] false 0 := h2
  clear hP he hf b1 h1 h1'
  go_wp2_with fail
  refine (h2.sync [97] (by decide)).mono ?_
  rintro e W3 ⟨ev, fs3, hP, rfl, h3⟩
  obtain ⟨he, hf⟩ := fiveP_go hP rfl none_a
  have he0 : ev = 0 := by rw [he]; rfl
  have hf0 : fs3 = [([97], ⟨v2, [49, 50, 51, 52, 53], 5⟩)] := by rw [hf]; rfl
  subst he0; subst hf0
  replace h3 : Ss w W3 w.heap.size 100 [([97], ⟨v2, [49, 50, 51, 52, 53], 5⟩)] false 0 := h3
  clear hP he hf h2
  have b3 : Bs (W3.alloc (.cells #[.int .u8 54, .int .u8 55, .int .u8 56] 5 (3, 4))) (.slice (some ⟨W3.heap.size, 0, none⟩) 3 3) [54, 55, 56] := Bs_of_block (zs := [54, 55, 56]) (heap_alloc_new W3 _) (by simp [maxLen])
  have h3' := h3.below ((Below.refl _ W3).alloc (Nat.le_refl _) (.cells #[.int .u8 54, .int .u8 55, .int .u8 56] 5 (3, 4)))
  go_wp2_with fail
  refine (h3'.write [97] (by decide) _ 3 [54, 55, 56] b3 byt3).mono ?_
  rintro e W4 ⟨ev, fs4, hP, rfl, h4⟩
  obtain ⟨he, v4, hf⟩ := fiveP_go hP rfl none_a
  have he0 : ev = 0 := by rw [he]; rfl
  have hf0 : fs4 = [([97], ⟨v4, [49, 50, 51, 52, 53, 54, 55, 56], 5⟩)] := by rw [hf]; rfl
  subst he0; subst hf0
  replace h4 : Ss w W4 w.heap.size 100 [([97], ⟨v4, [49, 50, 51, 52, 53, 54, 55, 56], 5⟩)] false 0 := h4
  clear hP he hf b3 h3 h3'
  go_wp2_with fail
  refine (h4.crash 1 1 (by decide) (by decide)).mono ?_
  rintro e W5 ⟨rfl, fs5, ha, h5⟩
  have ha' : abs fs5 = [([97], [49, 50, 51, 52, 53, 55], 6)] := ha.trans crA_known
  obtain ⟨v5, rfl⟩ := one_abs ha'
  clear ha ha' h4
  go_wp2_with fail
  refine (h5.read [97] (by decide)).mono ?_
  rw [one_at]
  rintro e W6 ⟨ao, cap, rfl, ho6, B6⟩
  have B06 : Below w.heap.size w W6 := h5.bel.trans (B6.mono h5.bel.size)
  have en : none7 [([97], (⟨v5, [49, 50, 51, 52, 53, 55], 6⟩ : Fl))] [97] = 0 := rfl
  rw [en]
  have b6 : Bs (W6.alloc (.cells #[.int .u8 49, .int .u8 50, .int .u8 51, .int .u8 52, .int .u8 53, .int .u8 55] 5 (6, 7))) (.slice (some ⟨W6.heap.size, 0, none⟩) 6 6) [49, 50, 51, 52, 53, 55] := Bs_of_block (zs := [49, 50, 51, 52, 53, 55]) (heap_alloc_new W6 _) (by simp [maxLen])
  have b7 := ho6.bs.below ((Below.refl _ W6).alloc (Nat.le_refl _) (.cells #[.int .u8 49, .int .u8 50, .int .u8 51, .int .u8 52, .int .u8 53, .int .u8 55] 5 (6, 7))) (Nat.le_refl _)
  clear ho6 B6 h5 en
  go_wp2_with fail
  refine (same_any _ _ _ _ _ b7 b6).mono ?_
  rintro e W7 ⟨rfl, hsm⟩
  rw [eqB_true rfl]
  have B07 : Below w.heap.size w W7 := (B06.alloc B06.size _).trans (hsm.below _)
  clear b6 b7 hsm B06
  go_wp2_with fail
  go_ret
  exact ⟨rfl, B07⟩
end Go.Proofs.Ythkgmnmdojmfgaa
