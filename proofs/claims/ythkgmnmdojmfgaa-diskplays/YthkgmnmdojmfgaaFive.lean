/-
  The five: Write, Sync, Cut, Rename, Remove, by contracts.
-/
import Derived.Test.YthkgmnmdojmfgaaGateB
namespace Go.Proofs.Ythkgmnmdojmfgaa
open Go.RowKit Go.Maps
variable {X : Nm → Prop} {w w' : World} {F : Nat → Prop} {sb : Nat} {mb : Option Nat} {room : Int} {fs : Fls} {lit : Bool} {left : Int}

/-- What one of the five answers, and the files behind it: dead, a name that is none, or what is done. -/
def fiveP (lit : Bool) (left : Int) (nn : Bool) (fs : Fls) (P : Int → Fls → Prop) (ev : Int) (fs' : Fls) : Prop :=
  if burntB lit left then ev = 9 ∧ fs' = fs else if nn then ev = 1 ∧ fs' = fs else P ev fs'
theorem GRes.below {P : Int → Fls → Prop} {e : Ending} {W W' : World} (h : GRes P F sb room lit left W e W') (hb : Below w.heap.size w W) : GRes P F sb room lit left w e W' := by
  obtain ⟨ev, fs', hP, he, mb', h1, hG⟩ := h
  refine ⟨ev, fs', hP, he, mb', h1.more fun k hk _ => ?_, ((Grows.refl F w).bel hb).trans hG fun _ hk => Or.inl hk⟩
  rcases hk with hk | hk
  · exact Or.inl hk
  · exact Or.inr (Nat.le_trans hb.size hk)
theorem GRes.stay {P : Int → Fls → Prop} {e : Ending} {ev : Int} (h : Dk w F sb mb room fs lit left) (hb : Below w.heap.size w w') (he : e = .returned (.int .i64 ev)) (hP : P ev fs) (h0 : ev ≠ 0) : GRes P F sb room lit left w e w' := by
  refine ⟨ev, fs, hP, he, mb, ?_, (Grows.refl F w).bel hb⟩
  have e1 : burnL ev lit left = left := by simp [burnL, h0]
  rw [e1]
  exact (h.to hb).pl _
/-- The gate, whatever comes. -/
theorem gate_any (P : Int → Fls → Prop) (nn : Bool) (h : Dk w F sb mb room fs lit left) (fn : FuncId) (en : ∀ (args : Array Value) (w : World), (callFunc fn args).run Try.prog w = .ok (.enter fn args) w) (sa sv : Value)
    (hn : ∀ w1, Below w.heap.size w w1 → Calls Try.prog 54 #[sv, .func (.func 55) #[] #[]] w1 fun e w' => e = .returned (.bool nn) ∧ w' = w1)
    (hdo : ∀ w1, Below w.heap.size w w1 → Calls Try.prog fn #[sa] w1 fun e w' => ∃ ev fs', P ev fs' ∧ e = .returned (.int .i64 ev) ∧ Res F sb room fs' lit left w1 w') :
    Calls Try.prog 31 #[.pointer (some ⟨sb, 0, none⟩), .func (.func fn) #[sa] #[], sv] w fun e w' => GRes (fiveP lit left nn fs P) F sb room lit left w e w' := by
  cases hb : burntB lit left with
  | true =>
    refine (gate_dead h _ sv hb).mono ?_
    rintro e W ⟨he, hB⟩
    exact GRes.stay h hB he (by simp [fiveP, hb]) (by decide)
  | false =>
    cases nn with
    | true =>
      refine (gate_arg h _ sv hb hn).mono ?_
      rintro e W ⟨he, hB⟩
      exact GRes.stay h hB he (by simp [fiveP, hb]) (by decide)
    | false =>
      refine (gate_do P h fn en sa sv hb hn hdo).mono ?_
      rintro e W ⟨ev, fs', hP, he, hR⟩
      exact ⟨ev, fs', by simpa [fiveP, hb] using hP, he, hR⟩
theorem below_cw {w W : World} {cs : List Value} {t : TypeId} (hb : Below (w.alloc (.cells cs.toArray t)).heap.size (w.alloc (.cells cs.toArray t)) W) : Cw W w.heap.size cs t := (Cw.new w cs t).below hb (by simp)
def syncP (fs : Fls) (x : Nm) (ev : Int) (fs' : Fls) : Prop := ev = none7 fs x ∧ fs' = syncF fs x
def removeP (fs : Fls) (x : Nm) (ev : Int) (fs' : Fls) : Prop := ev = none7 fs x ∧ fs' = dl fs x
def renameP (fs : Fls) (x y : Nm) (ev : Int) (fs' : Fls) : Prop := ev = none7 fs x ∧ fs' = renF fs x y
def cutP (fs : Fls) (x : Nm) (m : Int) (ev : Int) (fs' : Fls) : Prop := ev = cutE fs x m ∧ fs' = cutF fs x m
def writeP (fs : Fls) (x : Nm) (ps : List Int) (room : Int) (ev : Int) (fs' : Fls) : Prop := ev = wrE fs x ps.length room ∧ ∃ v, fs' = wrF fs x ps room v
set_option maxHeartbeats 800000 in
theorem Sync_any (h : Dk w F sb mb room fs lit left) (x : Nm) (hx : x.length ≤ maxLen) :
    Calls Try.prog 19 #[.pointer (some ⟨sb, 0, none⟩), encStr x] w fun e w' => GRes (fiveP lit left (noneB x) fs (syncP fs x)) F sb room lit left w e w' := by
  have hmf : ∀ (fn : Fn) (first cap : Array Value) (w : World), (Instr.makeFunc fn first cap).run Try.prog w = .ok (.func fn first cap) w := fun _ _ _ _ => rfl
  have B0 : Below w.heap.size w (w.alloc (.cells #[encStr x] 9)) := (Below.refl _ _).alloc (Nat.le_refl _) _
  have hg := gate_any (syncP fs x) (noneB x) (h.to B0) 47 (enters_of Try.func47 (by kernel_rfl) rfl) (.agg #[.pointer (some ⟨sb, 0, none⟩), encStr x, .string ⟨#[]⟩, .slice none 0 0, .int .i64 0]) (.slice (some ⟨w.heap.size, 0, none⟩) 1 1)
    (fun w1 hb => has_one w.heap.size x w1 (below_cw (cs := [encStr x]) hb))
    (fun w1 hb => (sync_any ((h.to B0).to hb) x hx _ _ _).mono fun e w' hr => ⟨_, _, ⟨rfl, rfl⟩, hr.1, hr.2⟩)
  have HG := hid_into hg
  have HB := hid_into B0
  clear hg B0
  go_enter Try.func19, Try.ntmps19
  go_wp2_with fail
  refine HG.out.mono ?_
  rintro e W2 ⟨ev, fs', hP, rfl, hR⟩
  have HR : Hid (GRes (fiveP lit left (noneB x) fs (syncP fs x)) F sb room lit left w (.returned (.int .i64 ev)) W2) := GRes.below ⟨ev, fs', hP, rfl, hR⟩ HB.out
  clear hP hR
  go_wp2_with fail
  go_ret
  exact HR.out
set_option maxHeartbeats 800000 in
theorem Remove_any (h : Dk w F sb mb room fs lit left) (x : Nm) (hx : x.length ≤ maxLen) :
    Calls Try.prog 22 #[.pointer (some ⟨sb, 0, none⟩), encStr x] w fun e w' => GRes (fiveP lit left (noneB x) fs (removeP fs x)) F sb room lit left w e w' := by
  have hmf : ∀ (fn : Fn) (first cap : Array Value) (w : World), (Instr.makeFunc fn first cap).run Try.prog w = .ok (.func fn first cap) w := fun _ _ _ _ => rfl
  have B0 : Below w.heap.size w (w.alloc (.cells #[encStr x] 9)) := (Below.refl _ _).alloc (Nat.le_refl _) _
  have hg := gate_any (removeP fs x) (noneB x) (h.to B0) 48 (enters_of Try.func48 (by kernel_rfl) rfl) (.agg #[.pointer (some ⟨sb, 0, none⟩), encStr x, .string ⟨#[]⟩, .slice none 0 0, .int .i64 0]) (.slice (some ⟨w.heap.size, 0, none⟩) 1 1)
    (fun w1 hb => has_one w.heap.size x w1 (below_cw (cs := [encStr x]) hb))
    (fun w1 hb => (remove_any ((h.to B0).to hb) x hx _ _ _).mono fun e w' hr => ⟨_, _, ⟨rfl, rfl⟩, hr.1, hr.2⟩)
  have HG := hid_into hg
  have HB := hid_into B0
  clear hg B0
  go_enter Try.func22, Try.ntmps22
  go_wp2_with fail
  refine HG.out.mono ?_
  rintro e W2 ⟨ev, fs', hP, rfl, hR⟩
  have HR : Hid (GRes (fiveP lit left (noneB x) fs (removeP fs x)) F sb room lit left w (.returned (.int .i64 ev)) W2) := GRes.below ⟨ev, fs', hP, rfl, hR⟩ HB.out
  clear hP hR
  go_wp2_with fail
  go_ret
  exact HR.out
set_option maxHeartbeats 800000 in
theorem Cut_any (h : Dk w F sb mb room fs lit left) (x : Nm) (hx : x.length ≤ maxLen) (m : Int) (hm : (Lit.int .i64 m).wf = true) :
    Calls Try.prog 23 #[.pointer (some ⟨sb, 0, none⟩), encStr x, .int .i64 m] w fun e w' => GRes (fiveP lit left (noneB x) fs (cutP fs x m)) F sb room lit left w e w' := by
  have hmf : ∀ (fn : Fn) (first cap : Array Value) (w : World), (Instr.makeFunc fn first cap).run Try.prog w = .ok (.func fn first cap) w := fun _ _ _ _ => rfl
  have B0 : Below w.heap.size w (w.alloc (.cells #[encStr x] 9)) := (Below.refl _ _).alloc (Nat.le_refl _) _
  have hg := gate_any (cutP fs x m) (noneB x) (h.to B0) 49 (enters_of Try.func49 (by kernel_rfl) rfl) (.agg #[.pointer (some ⟨sb, 0, none⟩), encStr x, .string ⟨#[]⟩, .slice none 0 0, .int .i64 m]) (.slice (some ⟨w.heap.size, 0, none⟩) 1 1)
    (fun w1 hb => has_one w.heap.size x w1 (below_cw (cs := [encStr x]) hb))
    (fun w1 hb => (cut_any ((h.to B0).to hb) x hx _ _ m hm).mono fun e w' hr => ⟨_, _, ⟨rfl, rfl⟩, hr.1, hr.2⟩)
  have HG := hid_into hg
  have HB := hid_into B0
  clear hg B0
  go_enter Try.func23, Try.ntmps23
  go_wp2_with fail
  refine HG.out.mono ?_
  rintro e W2 ⟨ev, fs', hP, rfl, hR⟩
  have HR : Hid (GRes (fiveP lit left (noneB x) fs (cutP fs x m)) F sb room lit left w (.returned (.int .i64 ev)) W2) := GRes.below ⟨ev, fs', hP, rfl, hR⟩ HB.out
  clear hP hR
  go_wp2_with fail
  go_ret
  exact HR.out
set_option maxHeartbeats 800000 in
theorem Rename_any (h : Dk w F sb mb room fs lit left) (x y : Nm) (hx : x.length ≤ maxLen) (hy : y.length ≤ maxLen) :
    Calls Try.prog 24 #[.pointer (some ⟨sb, 0, none⟩), encStr x, encStr y] w fun e w' => GRes (fiveP lit left (noneB x || noneB y) fs (renameP fs x y)) F sb room lit left w e w' := by
  have hmf : ∀ (fn : Fn) (first cap : Array Value) (w : World), (Instr.makeFunc fn first cap).run Try.prog w = .ok (.func fn first cap) w := fun _ _ _ _ => rfl
  have B0 : Below w.heap.size w (w.alloc (.cells #[encStr x, encStr y] 9)) := (Below.refl _ _).alloc (Nat.le_refl _) _
  have hg := gate_any (renameP fs x y) (noneB x || noneB y) (h.to B0) 50 (enters_of Try.func50 (by kernel_rfl) rfl) (.agg #[.pointer (some ⟨sb, 0, none⟩), encStr x, encStr y, .slice none 0 0, .int .i64 0]) (.slice (some ⟨w.heap.size, 0, none⟩) 2 2)
    (fun w1 hb => has_two w.heap.size x y w1 (below_cw (cs := [encStr x, encStr y]) hb))
    (fun w1 hb => (rename_any ((h.to B0).to hb) x y hx hy _ _).mono fun e w' hr => ⟨_, _, ⟨rfl, rfl⟩, hr.1, hr.2⟩)
  have HG := hid_into hg
  have HB := hid_into B0
  clear hg B0
  go_enter Try.func24, Try.ntmps24
  go_wp2_with fail
  refine HG.out.mono ?_
  rintro e W2 ⟨ev, fs', hP, rfl, hR⟩
  have HR : Hid (GRes (fiveP lit left (noneB x || noneB y) fs (renameP fs x y)) F sb room lit left w (.returned (.int .i64 ev)) W2) := GRes.below ⟨ev, fs', hP, rfl, hR⟩ HB.out
  clear hP hR
  go_wp2_with fail
  go_ret
  exact HR.out
set_option maxHeartbeats 800000 in
theorem Write_any (h : Dk w F sb mb room fs lit left) (x : Nm) (hx : x.length ≤ maxLen) (ap : Option Addr) (cp : Nat) (ps : List Int) (hps : Bs w (.slice ap ps.length cp) ps) (hby : Byt ps) :
    Calls Try.prog 15 #[.pointer (some ⟨sb, 0, none⟩), encStr x, .slice ap ps.length cp] w fun e w' => GRes (fiveP lit left (noneB x) fs (writeP fs x ps room)) F sb room lit left w e w' := by
  have hmf : ∀ (fn : Fn) (first cap : Array Value) (w : World), (Instr.makeFunc fn first cap).run Try.prog w = .ok (.func fn first cap) w := fun _ _ _ _ => rfl
  have B0 : Below w.heap.size w (w.alloc (.cells #[encStr x] 9)) := (Below.refl _ _).alloc (Nat.le_refl _) _
  have hg := gate_any (writeP fs x ps room) (noneB x) (h.to B0) 32 (enters_of Try.func32 (by kernel_rfl) rfl) (.agg #[.pointer (some ⟨sb, 0, none⟩), encStr x, .string ⟨#[]⟩, .slice ap ps.length cp, .int .i64 0]) (.slice (some ⟨w.heap.size, 0, none⟩) 1 1)
    (fun w1 hb => has_one w.heap.size x w1 (below_cw (cs := [encStr x]) hb))
    (fun w1 hb => (write_any ((h.to B0).to hb) x hx _ _ ap cp ps ((hps.below B0 (Nat.le_refl _)).below hb (Nat.le_refl _)) hby).mono fun e w' hr => by
      obtain ⟨he, v, hR⟩ := hr
      exact ⟨_, _, ⟨rfl, v, rfl⟩, he, hR⟩)
  have HG := hid_into hg
  have HB := hid_into B0
  clear hg B0
  go_enter Try.func15, Try.ntmps15
  go_wp2_with fail
  refine HG.out.mono ?_
  rintro e W2 ⟨ev, fs', hP, rfl, hR⟩
  have HR : Hid (GRes (fiveP lit left (noneB x) fs (writeP fs x ps room)) F sb room lit left w (.returned (.int .i64 ev)) W2) := GRes.below ⟨ev, fs', hP, rfl, hR⟩ HB.out
  clear hP hR
  go_wp2_with fail
  go_ret
  exact HR.out
end Go.Proofs.Ythkgmnmdojmfgaa
