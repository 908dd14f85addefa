/-
  What is known of a session that is told the truth (Kv), in order (Pf); two of them that tell each other (Tt): in the end both are sure of all. No walk.
-/
import Derived.Test.YtbfldcieibdapaaGreatM09
namespace Go.Proofs.YtbfldcieibdapaaGreat
/-- What is known is what was done. -/
structure Kv (s : Sa) (mine his : Nat → Int) : Prop where
  mv : ∀ j, (In.at0 s.m j).2 = true → (In.at0 s.m j).1 = mine j
  hv : ∀ j, (In.at0 s.h j).2 = true → (In.at0 s.h j).1 = his j
def prM (me : Int) (a b : Int) : Int × Int := if me = 0 then (a, b) else (b, a)
section
variable {s : Sa} {G : Gm} {mine his : Nat → Int} {p q : Nat}
theorem Kv.use (h : Kv s mine his) {k : Nat} (hk : k < s.B) : s.use k = prM s.me (mine k) (his k) := by
  have h1 : k < In.kn s.m := by have : s.B = min (In.kn s.m) (In.kn s.h) := rfl; omega
  have h2 : k < In.kn s.h := by have : s.B = min (In.kn s.m) (In.kn s.h) := rfl; omega
  have e1 := gv_known h1
  have e2 := gv_known h2
  rw [h.mv k (In.kn_mark _ _ h1)] at e1
  rw [h.hv k (In.kn_mark _ _ h2)] at e2
  unfold Sa.use Sa.r0 Sa.r1 prM
  split <;> rw [e1, e2]
theorem Kv.sure (h : Kv s mine his) : s.sure G = endG G.l G.cap G.fuel (startS G.seed) ((List.range s.B).map fun k => prM s.me (mine k) (his k)) := by
  have e : s.usL s.B = (List.range s.B).map fun k => prM s.me (mine k) (his k) := List.map_congr_left fun k hk => h.use (List.mem_range.1 hk)
  unfold Sa.sure Sa.at
  rw [e]
theorem Kv.work (h : Kv s mine his) (d e : Int) : Kv (s.work d e) mine his := ⟨h.mv, h.hv⟩
theorem Kv.put (h : Kv s mine his) (hf : s.Fit G) (hP : (s.P : Int) < G.cap) : Kv (s.put (mine s.P)) mine his := by
  have hm := hf.Pm hP
  refine ⟨fun j hj => ?_, h.hv⟩
  have hj' : (In.at0 (s.m.set s.P (mine s.P, true)) j).2 = true := hj
  show (In.at0 (s.m.set s.P (mine s.P, true)) j).1 = mine j
  rw [In.at0_set hm] at hj' ⊢
  by_cases e : j = s.P
  · rw [if_pos e, e]
  · rw [if_neg e] at hj' ⊢
    exact h.mv j hj'
theorem Kv.hear (h : Kv s mine his) (hf : s.Fit G) {f : Nat} (hc : (f : Int) < G.cap) : Kv (s.hear f (his f)) mine his := by
  have hm : f < s.h.length := by have := hf.hl; omega
  refine ⟨h.mv, fun j hj => ?_⟩
  have hj' : (In.at0 (s.h.set f (his f, true)) j).2 = true := hj
  show (In.at0 (s.h.set f (his f, true)) j).1 = his j
  rw [In.at0_set hm] at hj' ⊢
  by_cases e : j = f
  · rw [if_pos e, e]
  · rw [if_neg e] at hj' ⊢
    exact h.hv j hj'
theorem Kv.loc (h : Kv s mine his) (hG : G.Ok) (hs : s.Ok G) : Kv (locS s G (mine s.P)) mine his := by
  unfold locS
  split
  · rename_i c
    obtain ⟨h1, h2, _⟩ := locA_go c
    exact (h.put hs.fit (Sa.P_cap hG hs.fit h1).2).work _ _
  · exact h
theorem remS_go {f x : Int} (h : remA s G f x = 0) : ∃ d e, remS s G f x = (s.hear f.toNat x).work d e := by
  unfold remS
  rw [if_pos h]
  split
  · exact ⟨_, _, rfl⟩
  · exact ⟨0, 0, by unfold Sa.work; simp⟩
theorem Kv.rem (h : Kv s mine his) (hs : s.Ok G) (f : Nat) : Kv (remS s G (f : Int) (his f)) mine his := by
  by_cases c : remA s G (f : Int) (his f) = 0
  · obtain ⟨d, e, hd⟩ := remS_go c
    obtain ⟨hr, _⟩ := remA_go c
    rw [Int.toNat_natCast] at hd hr
    rw [hd]
    exact (h.hear hs.fit hr.cap).work _ _
  · unfold remS
    rw [if_neg c]
    exact h
theorem remA_told {f x : Int} (h : remA s G f x = 0) (hs : s.Ok G) (j : Nat) : (In.at0 (remS s G f x).h j).2 = if (j : Int) = f then true else (In.at0 s.h j).2 := by
  obtain ⟨d, e, hd⟩ := remS_go h
  obtain ⟨hr, _⟩ := remA_go h
  rw [hd]
  have hm : f.toNat < s.h.length := by have := hs.fit.hl; have := hr.cap; omega
  show (In.at0 (s.h.set f.toNat (x, true)) j).2 = _
  rw [In.at0_set hm]
  have := hr.fk
  by_cases e : j = f.toNat
  · rw [if_pos e, if_pos (by omega)]
  · rw [if_neg e, if_neg (by omega)]
theorem remS_me (s : Sa) (G : Gm) (f x : Int) : (remS s G f x).me = s.me ∧ (remS s G f x).P = s.P := by
  unfold remS
  split
  · split <;> exact ⟨rfl, rfl⟩
  · exact ⟨rfl, rfl⟩
theorem locS_me (s : Sa) (G : Gm) (x : Int) : (locS s G x).me = s.me ∧ (locS s G x).h = s.h := by
  unfold locS
  split <;> exact ⟨rfl, rfl⟩
theorem locS_P (hG : G.Ok) (hs : s.Ok G) (x : Int) : (locS s G x).P = if (locA s G).2 = 0 then s.P + 1 else s.P := by
  unfold locS
  by_cases c : (locA s G).2 = 0
  · rw [if_pos c, if_pos c]
    obtain ⟨h1, h2, _⟩ := locA_go c
    exact Sa.put_P hs.fit (Sa.P_cap hG hs.fit h1).2 x
  · rw [if_neg c, if_neg c]
theorem sure_le (s : Sa) (G : Gm) : (s.sure G).frame ≤ (s.B : Int) := by
  obtain ⟨n, h1, h2, _⟩ := (way s G s.B).fr
  rw [show s.sure G = s.at G s.B from rfl, h2]
  omega
theorem sure_B (s : Sa) (G : Gm) (h : (s.sure G).over = false) : (s.sure G).frame = (s.B : Int) := by
  rcases (way s G s.B).ov with h1 | h1
  · exact h1
  · rw [show s.sure G = s.at G s.B from rfl, h1] at h; cases h
/-- A session that has done p frames and was told q, one behind the other. -/
structure Pf (G : Gm) (s : Sa) (mine his : Nat → Int) (p q : Nat) : Prop where
  ok : s.Ok G
  P : s.P = p
  kh : In.kn s.h = q
  free : ∀ k, q ≤ k → (In.at0 s.h k).2 = false
  kv : Kv s mine his
theorem Pf.B (h : Pf G s mine his p q) : s.B = min p q := by
  have h1 := h.P
  have h2 := h.kh
  unfold Sa.P at h1
  unfold Sa.B
  rw [h1, h2]
theorem Pf.ple (h : Pf G s mine his p q) : (p : Int) ≤ G.cap := by have := h.ok.fit.P_le; rw [h.P] at this; exact this
theorem Pf.win (h : Pf G s mine his p q) : p ≤ min p q + 8 := by
  have h1 := h.ok.win
  have h2 := sure_le s G
  rw [h.B] at h2
  rw [h.P] at h1
  omega
theorem Pf.loc (h : Pf G s mine his p q) (hG : G.Ok) (hx : 0 ≤ mine p ∧ mine p < 65536) : Pf G (locS s G (mine p)) mine his (if (locA s G).2 = 0 then p + 1 else p) q := by
  have hk := h.kv.loc hG h.ok
  rw [h.P] at hk
  refine ⟨h.ok.loc hG hx, ?_, ?_, ?_, hk⟩
  · rw [locS_P hG h.ok, h.P]
  · rw [(locS_me s G _).2]; exact h.kh
  · rw [(locS_me s G _).2]; exact h.free
theorem Pf.loc_ok (h : Pf G s mine his p q) (ho : (s.sure G).over = false) (hpq : p ≤ q) : (locA s G).2 = 0 := by
  have hB := h.B
  have hf := sure_B s G ho
  have hP := h.P
  have e : s.now G = s.sure G := by unfold Sa.now Sa.sure; rw [hB, hP, Nat.min_eq_left hpq]
  unfold locA
  rw [e, if_neg (by rw [ho]; decide), if_neg (by rw [hf, hB, hP]; omega)]
theorem Pf.rem (h : Pf G s mine his p q) (hx : 0 ≤ his q ∧ his q < 65536) : Pf G (remS s G (q : Int) (his q)) mine his p (if remA s G (q : Int) (his q) = 0 then q + 1 else q) := by
  have hk := h.kv.rem h.ok q
  have hok := h.ok.rem (f := (q : Int)) hx
  by_cases c : remA s G (q : Int) (his q) = 0
  · rw [if_pos c]
    have ht := remA_told c h.ok
    obtain ⟨hr, _⟩ := remA_go c
    refine ⟨hok, by rw [(remS_me s G _ _).2]; exact h.P, ?_, ?_, hk⟩
    · refine In.kn_of (by have h1 := hok.fit.hl; have h2 := hr.cap; omega) (fun j hj => ?_) (fun _ => ?_)
      · rw [ht]
        split
        · rfl
        · exact In.kn_mark s.h j (by rw [h.kh]; omega)
      · rw [ht, if_neg (by omega)]
        exact h.free _ (by omega)
    · intro k hk
      rw [ht, if_neg (by omega)]
      exact h.free _ (by omega)
  · rw [if_neg c]
    have e : remS s G (q : Int) (his q) = s := by unfold remS; rw [if_neg c]
    rw [e]
    exact h
theorem Pf.rem_ok (h : Pf G s mine his p q) (ho : (s.sure G).over = false) (hc : (q : Int) < G.cap) (hw : q ≤ min p q + 24) (x : Int) : remA s G (q : Int) x = 0 := by
  have hlen := h.ok.fit.hl
  have hf := sure_B s G ho
  have hB := h.B
  have hE : In.putE s.h (q : Int) x = 0 := by
    unfold In.putE
    rw [if_neg (by omega), Int.toNat_natCast, if_neg (by rw [h.free q (Nat.le_refl _)]; decide)]
  unfold remA
  rw [if_neg (by omega), if_neg (by rw [ho]; decide), if_neg (by rw [hf, hB]; omega)]
  exact hE
end
/-- All that both did. -/
def allS (a b : List Int) : Sa := ⟨0, a.map fun x => (x, true), b.map fun x => (x, true), 0, 0⟩
def gd (a : List Int) (k : Nat) : Int := a.getD k 0
theorem kn_all : ∀ a : List Int, In.kn (a.map fun x => (x, true)) = a.length
  | [] => rfl
  | x :: a => by
    have := kn_all a
    simp only [List.map_cons, In.kn, if_true, List.length_cons, this]
theorem at0_all (a : List Int) (k : Nat) : (In.at0 (a.map fun x => (x, true)) k).1 = gd a k := by
  simp only [In.at0, gd, List.getD, List.getElem?_map]
  cases a[k]? <;> rfl
theorem allS_kv (a b : List Int) : Kv (allS a b) (gd a) (gd b) := ⟨fun j _ => at0_all a j, fun j _ => at0_all b j⟩
theorem allS_B (a b : List Int) : (allS a b).B = min a.length b.length := by
  unfold Sa.B allS
  simp only [kn_all]
theorem allS_use {a b : List Int} {k : Nat} (h : k < a.length) (hb : b.length = a.length) : (allS a b).use k = (gd a k, gd b k) := by
  have := (allS_kv a b).use (k := k) (by rw [allS_B]; omega)
  rw [this]
  rfl
theorem at_one {s : Sa} {G : Gm} {j k : Nat} (h : (s.at G j).frame = (s.at G k).frame) (hjk : j ≤ k) : s.at G j = s.at G k := by
  obtain ⟨⟨n, n1, n2, n3, n4, n5⟩, no⟩ := way s G k
  by_cases c : n ≤ j
  · exact n5 j c hjk
  · have := n3 j (by omega)
    omega
/-- Two sessions that tell each other. -/
structure Tt where
  x : Sa
  y : Sa
  i : Nat
  k : Nat
  u : Nat
  v : Nat
structure Tt.Ok (t : Tt) (G : Gm) (a b : List Int) : Prop where
  x : Pf G t.x (gd a) (gd b) t.i t.v
  y : Pf G t.y (gd b) (gd a) t.k t.u
  mx : t.x.me = 0
  my : t.y.me = 1
  iL : t.i ≤ a.length
  kL : t.k ≤ a.length
  ui : t.u ≤ t.i
  vk : t.v ≤ t.k
def tstep (G : Gm) (a b : List Int) (r : Int) (t : Tt) : Tt :=
  if r = 0 then (if t.i < a.length then { t with x := locS t.x G (gd a t.i), i := if (locA t.x G).2 = 0 then t.i + 1 else t.i } else t)
  else if r = 1 then (if t.k < b.length then { t with y := locS t.y G (gd b t.k), k := if (locA t.y G).2 = 0 then t.k + 1 else t.k } else t)
  else if r = 2 then (if t.u < t.i then { t with y := remS t.y G (t.u : Int) (gd a t.u), u := if remA t.y G (t.u : Int) (gd a t.u) = 0 then t.u + 1 else t.u } else t)
  else (if t.v < t.k then { t with x := remS t.x G (t.v : Int) (gd b t.v), v := if remA t.x G (t.v : Int) (gd b t.v) = 0 then t.v + 1 else t.v } else t)
theorem gd_in {a : List Int} (ha : ∀ z ∈ a, 0 ≤ z ∧ z < 65536) (k : Nat) : 0 ≤ gd a k ∧ gd a k < 65536 := by
  unfold gd
  by_cases h : k < a.length
  · have e : a.getD k 0 = a[k] := by simp [List.getD, h]
    rw [e]
    exact ha _ (List.getElem_mem h)
  · have e : a.getD k 0 = 0 := by simp [List.getD, List.getElem?_eq_none (by omega : a.length ≤ k)]
    rw [e]; decide
section
variable {G : Gm} {a b : List Int} {t : Tt}
/-- Inputs that may be. -/
structure Inp (G : Gm) (a b : List Int) : Prop where
  g : G.Ok
  av : ∀ z ∈ a, 0 ≤ z ∧ z < 65536
  bv : ∀ z ∈ b, 0 ≤ z ∧ z < 65536
  ll : b.length = a.length
theorem Tt.Ok.step (h : t.Ok G a b) (hI : Inp G a b) (r : Int) : (tstep G a b r t).Ok G a b := by
  obtain ⟨h1, h2, h3, h4, h5, h6, h7, h8⟩ := h
  have hl := hI.ll
  unfold tstep
  split
  · split
    · exact ⟨h1.loc hI.g (gd_in hI.av _), h2, by rw [show (locS t.x G (gd a t.i)).me = t.x.me from (locS_me _ _ _).1]; exact h3, h4, by show (if (locA t.x G).2 = 0 then t.i + 1 else t.i) ≤ a.length; split <;> omega, h6, by show t.u ≤ (if (locA t.x G).2 = 0 then t.i + 1 else t.i); split <;> omega, h8⟩
    · exact ⟨h1, h2, h3, h4, h5, h6, h7, h8⟩
  · split
    · split
      · exact ⟨h1, h2.loc hI.g (gd_in hI.bv _), h3, by rw [show (locS t.y G (gd b t.k)).me = t.y.me from (locS_me _ _ _).1]; exact h4, h5, by show (if (locA t.y G).2 = 0 then t.k + 1 else t.k) ≤ a.length; split <;> omega, h7, by show t.v ≤ (if (locA t.y G).2 = 0 then t.k + 1 else t.k); split <;> omega⟩
      · exact ⟨h1, h2, h3, h4, h5, h6, h7, h8⟩
    · split
      · split
        · exact ⟨h1, h2.rem (gd_in hI.av _), h3, by rw [show (remS t.y G (t.u : Int) (gd a t.u)).me = t.y.me from (remS_me _ _ _ _).1]; exact h4, h5, h6, by show (if remA t.y G (t.u : Int) (gd a t.u) = 0 then t.u + 1 else t.u) ≤ t.i; split <;> omega, h8⟩
        · exact ⟨h1, h2, h3, h4, h5, h6, h7, h8⟩
      · split
        · exact ⟨h1.rem (gd_in hI.bv _), h2, by rw [show (remS t.x G (t.v : Int) (gd b t.v)).me = t.x.me from (remS_me _ _ _ _).1]; exact h3, h4, h5, h6, h7, by show (if remA t.x G (t.v : Int) (gd b t.v) = 0 then t.v + 1 else t.v) ≤ t.k; split <;> omega⟩
        · exact ⟨h1, h2, h3, h4, h5, h6, h7, h8⟩
/-- The plain fold over the first j of both. -/
def allW (G : Gm) (a b : List Int) (j : Nat) : Sp := (allS a b).at G j
theorem Tt.Ok.sx (h : t.Ok G a b) (hI : Inp G a b) : t.x.sure G = allW G a b (min t.i t.v) := by
  have hB := h.x.B
  have hl := hI.ll
  have h5 := h.iL
  unfold Sa.sure allW
  rw [hB]
  refine Sa.at_congr fun k hk => ?_
  rw [h.x.kv.use (by omega), allS_use (by omega) hl, h.mx]
  rfl
theorem Tt.Ok.sy (h : t.Ok G a b) (hI : Inp G a b) : t.y.sure G = allW G a b (min t.k t.u) := by
  have hB := h.y.B
  have hl := hI.ll
  have h5 := h.kL
  unfold Sa.sure allW
  rw [hB]
  refine Sa.at_congr fun k hk => ?_
  rw [h.y.kv.use (by omega), allS_use (by omega) hl, h.my]
  rfl
theorem Tt.Ok.same (h : t.Ok G a b) (hI : Inp G a b) (he : (t.x.sure G).frame = (t.y.sure G).frame) : t.x.sure G = t.y.sure G := by
  rw [h.sx hI, h.sy hI] at he ⊢
  unfold allW at he ⊢
  rcases Nat.le_total (min t.i t.v) (min t.k t.u) with c | c
  · exact at_one he c
  · exact (at_one he.symm c).symm
/-- Whether it is over there. -/
def ovW (G : Gm) (a b : List Int) (j : Nat) : Prop := (allW G a b j).over = true
theorem ovW_mono {j k : Nat} (h : ovW G a b j) (hk : j ≤ k) : ovW G a b k ∧ allW G a b k = allW G a b j := by
  have e := Sa.at_stay (s := allS a b) (G := G) h k hk
  refine ⟨?_, e⟩
  unfold ovW allW at *
  rw [e]
  exact h
theorem not_ov {j : Nat} (h : ¬ ovW G a b j) : (allW G a b j).over = false := by
  unfold ovW at h
  simpa using h
/-- What a step does to the numbers. -/
structure Mv0 (G : Gm) (a b : List Int) (t t' : Tt) : Prop where
  i0 : t.i ≤ t'.i ∧ t'.i ≤ t.i + 1
  k0 : t'.k = t.k
  u0 : t'.u = t.u
  v0 : t'.v = t.v
  go : t.i < a.length → t.i ≤ t.v → ¬ ovW G a b (min t.i t.v) → t'.i = t.i + 1
theorem mv0 (h : t.Ok G a b) (hI : Inp G a b) : Mv0 G a b t (tstep G a b 0 t) := by
  unfold tstep
  rw [if_pos rfl]
  split
  · rename_i c
    refine ⟨by show t.i ≤ (if (locA t.x G).2 = 0 then t.i + 1 else t.i) ∧ (if (locA t.x G).2 = 0 then t.i + 1 else t.i) ≤ t.i + 1; split <;> omega, rfl, rfl, rfl, fun _ h2 h3 => ?_⟩
    have := h.x.loc_ok (by rw [h.sx hI]; exact not_ov h3) h2
    show (if (locA t.x G).2 = 0 then t.i + 1 else t.i) = t.i + 1
    rw [if_pos this]
  · rename_i c
    exact ⟨⟨Nat.le_refl _, Nat.le_succ _⟩, rfl, rfl, rfl, fun h1 => absurd h1 c⟩
structure Mv1 (G : Gm) (a b : List Int) (t t' : Tt) : Prop where
  k0 : t.k ≤ t'.k ∧ t'.k ≤ t.k + 1
  i0 : t'.i = t.i
  u0 : t'.u = t.u
  v0 : t'.v = t.v
  go : t.k < a.length → t.k ≤ t.u → ¬ ovW G a b (min t.k t.u) → t'.k = t.k + 1
theorem mv1 (h : t.Ok G a b) (hI : Inp G a b) : Mv1 G a b t (tstep G a b 1 t) := by
  have hl := hI.ll
  unfold tstep
  rw [if_neg (by decide), if_pos rfl]
  split
  · rename_i c
    refine ⟨by show t.k ≤ (if (locA t.y G).2 = 0 then t.k + 1 else t.k) ∧ (if (locA t.y G).2 = 0 then t.k + 1 else t.k) ≤ t.k + 1; split <;> omega, rfl, rfl, rfl, fun _ h2 h3 => ?_⟩
    have := h.y.loc_ok (by rw [h.sy hI]; exact not_ov h3) h2
    show (if (locA t.y G).2 = 0 then t.k + 1 else t.k) = t.k + 1
    rw [if_pos this]
  · rename_i c
    exact ⟨⟨Nat.le_refl _, Nat.le_succ _⟩, rfl, rfl, rfl, fun h1 => absurd h1 (by omega)⟩
structure Mv2 (G : Gm) (a b : List Int) (t t' : Tt) : Prop where
  u0 : t.u ≤ t'.u ∧ t'.u ≤ t.u + 1
  i0 : t'.i = t.i
  k0 : t'.k = t.k
  v0 : t'.v = t.v
  go : t.u < t.i → ¬ ovW G a b (min t.k t.u) → t'.u = t.u + 1
theorem mv2 (h : t.Ok G a b) (hI : Inp G a b) : Mv2 G a b t (tstep G a b 2 t) := by
  unfold tstep
  rw [if_neg (by decide), if_neg (by decide), if_pos rfl]
  split
  · rename_i c
    refine ⟨by show t.u ≤ (if remA t.y G (t.u : Int) (gd a t.u) = 0 then t.u + 1 else t.u) ∧ (if remA t.y G (t.u : Int) (gd a t.u) = 0 then t.u + 1 else t.u) ≤ t.u + 1; split <;> omega, rfl, rfl, rfl, fun _ h3 => ?_⟩
    have h5 := h.x.ple
    have h6 := h.x.win
    have h7 := h.vk
    have := h.y.rem_ok (by rw [h.sy hI]; exact not_ov h3) (by omega) (by omega) (gd a t.u)
    show (if remA t.y G (t.u : Int) (gd a t.u) = 0 then t.u + 1 else t.u) = t.u + 1
    rw [if_pos this]
  · rename_i c
    exact ⟨⟨Nat.le_refl _, Nat.le_succ _⟩, rfl, rfl, rfl, fun h1 => absurd h1 c⟩
structure Mv3 (G : Gm) (a b : List Int) (t t' : Tt) : Prop where
  v0 : t.v ≤ t'.v ∧ t'.v ≤ t.v + 1
  i0 : t'.i = t.i
  k0 : t'.k = t.k
  u0 : t'.u = t.u
  go : t.v < t.k → ¬ ovW G a b (min t.i t.v) → t'.v = t.v + 1
theorem mv3 (h : t.Ok G a b) (hI : Inp G a b) : Mv3 G a b t (tstep G a b 3 t) := by
  unfold tstep
  rw [if_neg (by decide), if_neg (by decide), if_neg (by decide)]
  split
  · rename_i c
    refine ⟨by show t.v ≤ (if remA t.x G (t.v : Int) (gd b t.v) = 0 then t.v + 1 else t.v) ∧ (if remA t.x G (t.v : Int) (gd b t.v) = 0 then t.v + 1 else t.v) ≤ t.v + 1; split <;> omega, rfl, rfl, rfl, fun _ h3 => ?_⟩
    have h5 := h.y.ple
    have h6 := h.y.win
    have h7 := h.ui
    have := h.x.rem_ok (by rw [h.sx hI]; exact not_ov h3) (by omega) (by omega) (gd b t.v)
    show (if remA t.x G (t.v : Int) (gd b t.v) = 0 then t.v + 1 else t.v) = t.v + 1
    rw [if_pos this]
  · rename_i c
    exact ⟨⟨Nat.le_refl _, Nat.le_succ _⟩, rfl, rfl, rfl, fun h1 => absurd h1 c⟩
/-- Behind c rounds of four. -/
structure Cyc (G : Gm) (a b : List Int) (t : Tt) (c : Nat) : Prop where
  y : ovW G a b (min t.k t.u) ∨ min c t.i ≤ t.u
  x : ovW G a b (min t.i t.v) ∨ min c t.k ≤ t.v
  m : ovW G a b (min t.i t.v) ∨ ovW G a b (min t.k t.u) ∨ min (a.length + 1) c ≤ min t.i t.k + 1
def cycT (G : Gm) (a b : List Int) (t : Tt) : Tt := tstep G a b 3 (tstep G a b 2 (tstep G a b 1 (tstep G a b 0 t)))
theorem cyc_zero (t : Tt) : Cyc G a b t 0 := ⟨Or.inr (by omega), Or.inr (by omega), Or.inr (Or.inr (by omega))⟩
theorem cyc_next (h : t.Ok G a b) (hI : Inp G a b) {c : Nat} (hc : Cyc G a b t c) : Cyc G a b (cycT G a b t) (c + 1) := by
  have o1 := h.step hI 0
  have o2 := o1.step hI 1
  have o3 := o2.step hI 2
  have m0 := mv0 h hI
  have m1 := mv1 o1 hI
  have m2 := mv2 o2 hI
  have m3 := mv3 o3 hI
  unfold cycT
  generalize tstep G a b 0 t = t1 at *
  generalize tstep G a b 1 t1 = t2 at *
  generalize tstep G a b 2 t2 = t3 at *
  generalize tstep G a b 3 t3 = t4 at *
  obtain ⟨a1, a2, a3, a4, a5⟩ := m0
  obtain ⟨b1, b2, b3, b4, b5⟩ := m1
  obtain ⟨c1, c2, c3, c4, c5⟩ := m2
  obtain ⟨d1, d2, d3, d4, d5⟩ := m3
  obtain ⟨e1, e2, e3⟩ := hc
  have up : ∀ j k : Nat, j ≤ k → ¬ ovW G a b k → ¬ ovW G a b j := fun j k hjk hk hj => hk (ovW_mono hj hjk).1
  have PY : ¬ ovW G a b (min t4.k t4.u) → min (c + 1) t4.i ≤ t4.u := fun no => by
    have n2 : ¬ ovW G a b (min t2.k t2.u) := up _ _ (by omega) no
    have n0 : ¬ ovW G a b (min t.k t.u) := up _ _ (by omega) no
    have q1 := e1.resolve_left n0
    by_cases g : t2.u < t2.i
    · have := c5 g n2
      omega
    · omega
  have PX : ¬ ovW G a b (min t4.i t4.v) → min (c + 1) t4.k ≤ t4.v := fun no => by
    have n3 : ¬ ovW G a b (min t3.i t3.v) := up _ _ (by omega) no
    have n0 : ¬ ovW G a b (min t.i t.v) := up _ _ (by omega) no
    have q1 := e2.resolve_left n0
    by_cases g : t3.v < t3.k
    · have := d5 g n3
      omega
    · omega
  refine ⟨?_, ?_, ?_⟩
  · by_cases no : ovW G a b (min t4.k t4.u)
    · exact Or.inl no
    · exact Or.inr (PY no)
  · by_cases no : ovW G a b (min t4.i t4.v)
    · exact Or.inl no
    · exact Or.inr (PX no)
  · by_cases nx : ovW G a b (min t4.i t4.v)
    · exact Or.inl nx
    · by_cases ny : ovW G a b (min t4.k t4.u)
      · exact Or.inr (Or.inl ny)
      · refine Or.inr (Or.inr ?_)
        have nx0 : ¬ ovW G a b (min t.i t.v) := up _ _ (by omega) nx
        have ny0 : ¬ ovW G a b (min t.k t.u) := up _ _ (by omega) ny
        have ny1 : ¬ ovW G a b (min t1.k t1.u) := up _ _ (by omega) ny
        have q1 := e1.resolve_left ny0
        have q2 := e2.resolve_left nx0
        have q3 := (e3.resolve_left nx0).resolve_left ny0
        have q4 := a5
        have q5 := b5
        by_cases g0 : t.i < a.length ∧ t.i ≤ t.v
        · have r0 := q4 g0.1 g0.2 nx0
          by_cases g1 : t1.k < a.length ∧ t1.k ≤ t1.u
          · have r1 := q5 g1.1 g1.2 ny1
            omega
          · omega
        · by_cases g1 : t1.k < a.length ∧ t1.k ≤ t1.u
          · have r1 := q5 g1.1 g1.2 ny1
            omega
          · omega
/-- In the end. -/
theorem cyc_end (h : t.Ok G a b) (hI : Inp G a b) {c : Nat} (hc : Cyc G a b t c) (hL : a.length < c) : t.x.sure G = allW G a b a.length ∧ t.y.sure G = allW G a b a.length := by
  obtain ⟨e1, e2, e3⟩ := hc
  have h1 := h.iL
  have h2 := h.kL
  have h3 := h.ui
  have h4 := h.vk
  rw [h.sx hI, h.sy hI]
  have fin : ∀ j, j ≤ a.length → ovW G a b j → allW G a b j = allW G a b a.length := fun j hj ho => ((ovW_mono ho hj).2).symm
  by_cases ox : ovW G a b (min t.i t.v)
  · refine ⟨fin _ (by omega) ox, ?_⟩
    by_cases oy : ovW G a b (min t.k t.u)
    · exact fin _ (by omega) oy
    · have := e1.resolve_left oy
      exact absurd (ovW_mono ox (show min t.i t.v ≤ min t.k t.u by omega)).1 oy
  · by_cases oy : ovW G a b (min t.k t.u)
    · refine ⟨?_, fin _ (by omega) oy⟩
      have := e2.resolve_left ox
      exact absurd (ovW_mono oy (show min t.k t.u ≤ min t.i t.v by omega)).1 ox
    · have q1 := e1.resolve_left oy
      have q2 := e2.resolve_left ox
      have q3 := (e3.resolve_left ox).resolve_left oy
      rw [show min t.i t.v = a.length by omega, show min t.k t.u = a.length by omega]
      exact ⟨rfl, rfl⟩
/-- All rounds, by what is picked. -/
def tpick (ps : List Int) (n : Nat) : Int := if n < ps.length then ps.getD n 0 else (n : Int)
def trun (G : Gm) (a b : List Int) (ps : List Int) (t : Tt) : Nat → Tt
  | 0 => t
  | n + 1 => tstep G a b (tpick ps n % 4) (trun G a b ps t n)
theorem trun_ok (h : t.Ok G a b) (hI : Inp G a b) (ps : List Int) : ∀ n, (trun G a b ps t n).Ok G a b
  | 0 => h
  | n + 1 => (trun_ok h hI ps n).step hI _
theorem trun_cyc (h : t.Ok G a b) (hI : Inp G a b) {ps : List Int} (hp : ps.length ≤ 100) : ∀ c, Cyc G a b (trun G a b ps t (100 + 4 * c)) c
  | 0 => cyc_zero _
  | c + 1 => by
    have ih := cyc_next (trun_ok h hI ps (100 + 4 * c)) hI (trun_cyc h hI hp c)
    have e : ∀ r : Nat, r < 4 → tpick ps (100 + 4 * c + r) % 4 = (r : Int) := fun r hr => by
      unfold tpick
      rw [if_neg (by omega)]
      omega
    have e0 := e 0 (by omega)
    have e1 := e 1 (by omega)
    have e2 := e 2 (by omega)
    have e3 := e 3 (by omega)
    have : trun G a b ps t (100 + 4 * (c + 1)) = cycT G a b (trun G a b ps t (100 + 4 * c)) := by
      show tstep G a b (tpick ps (100 + 4 * c + 3) % 4) (tstep G a b (tpick ps (100 + 4 * c + 2) % 4) (tstep G a b (tpick ps (100 + 4 * c + 1) % 4) (tstep G a b (tpick ps (100 + 4 * c + 0) % 4) (trun G a b ps t (100 + 4 * c))))) = _
      rw [e0, e1, e2, e3]
      rfl
    rw [this]
    exact ih
theorem trun_end (h : t.Ok G a b) (hI : Inp G a b) {ps : List Int} (hp : ps.length ≤ 100) (hL : a.length ≤ 40) : (trun G a b ps t 400).x.sure G = allW G a b a.length ∧ (trun G a b ps t 400).y.sure G = allW G a b a.length :=
  cyc_end (trun_ok h hI ps 400) hI (trun_cyc h hI hp 75) (by omega)
end
end Go.Proofs.YtbfldcieibdapaaGreat
