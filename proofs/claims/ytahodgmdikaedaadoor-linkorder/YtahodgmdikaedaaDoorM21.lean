/-
  Joined from: HeldT, HeldM.
-/
import Derived.Test.YtahodgmdikaedaaDoorM17
import Derived.Deep.RegionHeld3
section
/-
  HeldL's law for an operation that z waits for through others: what is listed is closed under 'waits for', and stays so.
-/
namespace Go.Proofs.YtahodgmdikaedaaDoor
open Go.RowKit
section
variable {P : Program} {md : Region.Mode} {ops : Array Oper} {Q : Exit → Act → World → Prop} {z : Nat} {S : World → Prop}
/-- z waits for i through those. -/
def waitsT (md : Region.Mode) (ops : Array Oper) : Nat → List Nat → Nat → Bool
  | z, [], i => waitsB md ops z i
  | z, p :: ps, i => waitsB md ops z p && waitsT md ops p ps i
def closedB (md : Region.Mode) (ops : Array Oper) (listed : Array Bool) : Bool :=
  (List.range ops.size).all fun j => !listed.getD j false || ((ops[j]?).map (·.after.all fun e => !Region.binds md e || listed.getD e.on false)).getD true
def Cl (md : Region.Mode) (ops : Array Oper) (listed : Array Bool) : Prop :=
  ∀ (j : Nat) (o : Oper), ops[j]? = some o → listed.getD j false = true → ∀ e ∈ o.after, Region.binds md e = true → listed.getD e.on false = true
theorem Cl.of {listed : Array Bool} (h : closedB md ops listed = true) : Cl md ops listed := by
  intro j o ho hl e he hb
  have h1 := List.all_eq_true.1 h j (List.mem_range.2 (Array.getElem?_eq_some_iff.1 ho).1)
  rw [hl, ho] at h1
  simp only [Bool.not_true, Bool.false_or, Option.map_some, Option.getD_some] at h1
  obtain ⟨k, hk, rfl⟩ := Array.mem_iff_getElem.1 he
  have h2 := Array.all_eq_true.1 h1 k hk
  rw [hb] at h2
  simpa using h2
theorem Cl.set {listed : Array Bool} {j : Nat} (h : Cl md ops listed) (hr : j ∈ Region.ready md ops listed) : Cl md ops (listed.setIfInBounds j true) := by
  intro k o ho hl e he hb
  obtain ⟨_, oj, hoj, hall⟩ := mem_ready.1 hr
  by_cases hk : j = k
  · subst hk
    obtain rfl : oj = o := Option.some.inj (hoj.symm.trans ho)
    exact getD_set_true (hall e he hb)
  · rw [getD_set_ne false hk] at hl
    exact getD_set_true (h k o ho hl e he hb)
theorem waitsB_spec {z i : Nat} {o : Oper} (h : waitsB md ops z i = true) (ho : ops[z]? = some o) : ∃ e ∈ o.after, Region.binds md e = true ∧ e.on = i := by
  simp only [waitsB, ho, Array.any_eq_true, Bool.and_eq_true, beq_iff_eq] at h
  obtain ⟨x, hx, hb, hon⟩ := h
  exact ⟨_, Array.getElem_mem hx, hb, hon⟩
theorem waitsB_some {z i : Nat} (h : waitsB md ops z i = true) : ∃ o, ops[z]? = some o := by
  cases ho : ops[z]? with
  | none => simp [waitsB, ho] at h
  | some o => exact ⟨o, rfl⟩
theorem waitsT_listed {listed : Array Bool} {i : Nat} (hc : Cl md ops listed) : ∀ (ps : List Nat) (z : Nat) (o : Oper), waitsT md ops z ps i = true → ops[z]? = some o → (∀ e ∈ o.after, Region.binds md e = true → listed.getD e.on false = true) → listed.getD i false = true
  | [], z, o, h, ho, hall => by
    obtain ⟨e, he, hb, rfl⟩ := waitsB_spec h ho
    exact hall e he hb
  | p :: ps, z, o, h, ho, hall => by
    simp only [waitsT, Bool.and_eq_true] at h
    obtain ⟨e, he, hb, hp⟩ := waitsB_spec h.1 ho
    have hl : listed.getD p false = true := by rw [← hp]; exact hall e he hb
    have hs : ∃ op, ops[p]? = some op := by
      cases ps with
      | nil => exact waitsB_some h.2
      | cons q qs => simp only [waitsT, Bool.and_eq_true] at h; exact waitsB_some h.2.1
    obtain ⟨op, hop⟩ := hs
    exact waitsT_listed hc ps p op h.2 hop fun e he hb => hc p op hop hl e he hb
theorem getD_un {listed : Array Bool} {i : Nat} (h : listed.getD i true = false) : ¬ listed.getD i false = true := by
  rcases Nat.lt_or_ge i listed.size with hl | hl
  · simp [hl] at h ⊢
    exact h
  · simp [Array.getElem?_eq_none hl]
theorem wpT_first {i : Nat} {oi : Oper} {v : Value} {ps : List Nat} (hi : ops[i]? = some oi) (hz : waitsT md ops z ps i = true) (hsel : ∀ (j : Nat) (o : Oper) cs b, ops[j]? = some o → o.op ≠ .select cs b) (hQ : ∀ c a w, Q (.panic c) (a.put oi.dst v) w → Q (.panic c) a w) :
    ∀ (n : Nat) (listed : Array Bool) (a : Act) (w : World), Cl md ops listed →
      (∀ j oj, ops[j]? = some oj → j ≠ i → listed.getD j true = false → (∀ e ∈ oj.after, Region.binds md e = true → e.on ≠ i) → oi.apart ops oj = true) →
      i ∈ Region.ready md ops listed → YieldsIf P ops S oi v a → S w → wpL P md ops Q z S n (listed.setIfInBounds i true) (a.put oi.dst v) w → wpL P md ops Q z S (n + 1) listed a w
  | 0, listed, a, w, _, _, hr, hy, hS, H => by
    refine ⟨fun h => (by rw [h] at hr; cases hr), fun j hj => ?_⟩
    by_cases e : j = i
    · rw [e]; exact hy.wpOp hi hS ⟨fun _ => hS, H⟩
    · have h0 := ready_mono hj e
      rw [H.1] at h0
      cases h0
  | n + 1, listed, a, w, hcl, hfree, hr, hy, hS, H => by
    refine ⟨fun h => (by rw [h] at hr; cases hr), fun j hj => ?_⟩
    by_cases e : j = i
    · rw [e]; exact hy.wpOp hi hS ⟨fun _ => hS, H⟩
    · obtain ⟨hjun, oj, hoj, hall⟩ := mem_ready.1 hj
      have hnot : ∀ d ∈ oj.after, Region.binds md d = true → d.on ≠ i := fun d hd hb heq => by
        have k1 := hall d hd hb
        rw [heq] at k1
        exact getD_un (mem_ready.1 hr).1 k1
      have hjz : j ≠ z := fun h => by
        subst h
        exact getD_un (mem_ready.1 hr).1 (waitsT_listed hcl ps j oj hz hoj hall)
      have hr' : i ∈ Region.ready md ops (listed.setIfInBounds j true) := ready_mono hr (Ne.symm e)
      have step := wpOp_putIf hoj (hfree j oj hoj e hjun hnot) (fun cs b => hsel i oi cs b hi) (fun cs b => hsel j oj cs b hoj) hQ hy (H.2 j (ready_mono hj e))
      refine wpOp_mono (fun b u k => ?_) step
      obtain ⟨k1, k2, k3⟩ := k
      rw [Array.setIfInBounds_comm _ _ (Ne.symm e)] at k3
      have hSu : S u := k2 hjz
      refine ⟨fun _ => hSu, wpT_first hi hz hsel hQ n (listed.setIfInBounds j true) b u (hcl.set hj) ?_ hr' k1 hSu k3⟩
      intro k ok hk hki hun hno
      refine hfree k ok hk hki ?_ hno
      by_cases hjk : j = k
      · rw [← hjk]; exact hjun
      · rw [getD_set_ne true hjk] at hun; exact hun
/-- Number i may be taken first: it yields v in every world that meets S; z waits for it through ps. -/
theorem wpT_take (i d : Nat) (ps : List Nat) {oi : Oper} {v : Value} {n : Nat} {listed : Array Bool} {a : Act} {w : World} (hi : ops[i]? = some oi) (hd : oi.dst = some d) (hs : Region.noSelect ops = true) (hf : Region.free md ops listed i = true) (hr : (Region.ready md ops listed).contains i = true) (hz : waitsT md ops z ps i = true) (hc : closedB md ops listed = true)
    (hQ : ∀ c a w, Q (.panic c) (a.put (some d) v) w → Q (.panic c) a w) (hS : S w) (hy : YieldsIf P ops S oi v a)
    (h : wpL P md ops Q z S n (listed.setIfInBounds i true) (a.put (some d) v) w) : wpL P md ops Q z S (n + 1) listed a w := by
  rw [← hd] at hQ h
  exact wpT_first hi hz (Region.noSelect_spec hs) hQ n listed a w (Cl.of hc) (Region.free_spec hi hf) (by simpa using hr) hy hS h
end
end Go.Proofs.YtahodgmdikaedaaDoor
end

section
/-
  A region that draws its order and stores, by its operation z, into a cell that it has read: what is held (S) need not hold from z on.
-/
namespace Go.Proofs.YtahodgmdikaedaaDoor
open Go.RowKit
section
variable {P : Program} {md : Region.Mode} {ops : Array Oper} {Q : Exit → Act → World → Prop} {z : Nat} {S : World → Prop}
/-- Whatever order is picked from here on; S holds behind each operation up to z. -/
def wpM (P : Program) (md : Region.Mode) (ops : Array Oper) (Q : Exit → Act → World → Prop) (z : Nat) (S : World → Prop) : Nat → Array Bool → Act → World → Prop
  | 0, listed, a, w => Region.ready md ops listed = [] ∧ Q .normal a w
  | n + 1, listed, a, w => (Region.ready md ops listed = [] → Q .normal a w) ∧
      ∀ i ∈ Region.ready md ops listed, wpOp P ops Q i (fun b u => (listed.getD z true = false → i ≠ z → S u) ∧ wpM P md ops Q z S n (listed.setIfInBounds i true) b u) a w
theorem wpM_any : ∀ (n : Nat) (listed : Array Bool) (a : Act) (w : World), wpM P md ops Q z S n listed a w → wpAny P md ops Q n listed a w
  | 0, _, _, _, h => h
  | n + 1, _, _, _, h => ⟨h.1, fun i hi => wpOp_mono (fun b u k => wpM_any n _ b u k.2) (h.2 i hi)⟩
theorem wpM_first {i : Nat} {oi : Oper} {v : Value} (hi : ops[i]? = some oi) (hz : waitsB md ops z i = true) (hsel : ∀ (j : Nat) (o : Oper) cs b, ops[j]? = some o → o.op ≠ .select cs b) (hQ : ∀ c a w, Q (.panic c) (a.put oi.dst v) w → Q (.panic c) a w) :
    ∀ (n : Nat) (listed : Array Bool) (a : Act) (w : World), listed.getD z true = false → i ≠ z →
      (∀ j oj, ops[j]? = some oj → j ≠ i → listed.getD j true = false → (∀ e ∈ oj.after, Region.binds md e = true → e.on ≠ i) → oi.apart ops oj = true) →
      i ∈ Region.ready md ops listed → YieldsIf P ops S oi v a → S w → wpM P md ops Q z S n (listed.setIfInBounds i true) (a.put oi.dst v) w → wpM P md ops Q z S (n + 1) listed a w
  | 0, listed, a, w, hlz, hiz, _, hr, hy, hS, H => by
    refine ⟨fun h => (by rw [h] at hr; cases hr), fun j hj => ?_⟩
    by_cases e : j = i
    · rw [e]; exact hy.wpOp hi hS ⟨fun _ _ => hS, H⟩
    · have h0 := ready_mono hj e
      rw [H.1] at h0
      cases h0
  | n + 1, listed, a, w, hlz, hiz, hfree, hr, hy, hS, H => by
    refine ⟨fun h => (by rw [h] at hr; cases hr), fun j hj => ?_⟩
    by_cases e : j = i
    · rw [e]; exact hy.wpOp hi hS ⟨fun _ _ => hS, H⟩
    · obtain ⟨hjun, oj, hoj, hall⟩ := mem_ready.1 hj
      have hnot : ∀ d ∈ oj.after, Region.binds md d = true → d.on ≠ i := fun d hd hb heq => by
        have k1 := hall d hd hb
        have k0 := (mem_ready.1 hr).1
        rw [heq] at k1
        rcases Nat.lt_or_ge i listed.size with hl | hl
        · simp [hl] at k0 k1
          rw [k0] at k1
          cases k1
        · simp [Array.getElem?_eq_none hl] at k1
      have hjz : j ≠ z := fun h => by
        subst h
        simp only [waitsB, hoj, Array.any_eq_true, Bool.and_eq_true, beq_iff_eq] at hz
        obtain ⟨x, hx, hb, ho⟩ := hz
        exact hnot _ (Array.getElem_mem hx) hb ho
      have hr' : i ∈ Region.ready md ops (listed.setIfInBounds j true) := ready_mono hr (Ne.symm e)
      have step := wpOp_putIf hoj (hfree j oj hoj e hjun hnot) (fun cs b => hsel i oi cs b hi) (fun cs b => hsel j oj cs b hoj) hQ hy (H.2 j (ready_mono hj e))
      refine wpOp_mono (fun b u k => ?_) step
      obtain ⟨k1, k2, k3⟩ := k
      rw [Array.setIfInBounds_comm _ _ (Ne.symm e)] at k3
      have hSu : S u := k2 (by rw [getD_set_ne true hiz]; exact hlz) hjz
      refine ⟨fun _ _ => hSu, wpM_first hi hz hsel hQ n (listed.setIfInBounds j true) b u (by rw [getD_set_ne true hjz]; exact hlz) hiz ?_ hr' k1 hSu k3⟩
      intro k ok hk hki hun hno
      refine hfree k ok hk hki ?_ hno
      by_cases hjk : j = k
      · rw [← hjk]; exact hjun
      · rw [getD_set_ne true hjk] at hun; exact hun
theorem wpMT_first {i : Nat} {oi : Oper} {v : Value} {ps : List Nat} (hi : ops[i]? = some oi) (hz : waitsT md ops z ps i = true) (hsel : ∀ (j : Nat) (o : Oper) cs b, ops[j]? = some o → o.op ≠ .select cs b) (hQ : ∀ c a w, Q (.panic c) (a.put oi.dst v) w → Q (.panic c) a w) :
    ∀ (n : Nat) (listed : Array Bool) (a : Act) (w : World), Cl md ops listed → listed.getD z true = false → i ≠ z →
      (∀ j oj, ops[j]? = some oj → j ≠ i → listed.getD j true = false → (∀ e ∈ oj.after, Region.binds md e = true → e.on ≠ i) → oi.apart ops oj = true) →
      i ∈ Region.ready md ops listed → YieldsIf P ops S oi v a → S w → wpM P md ops Q z S n (listed.setIfInBounds i true) (a.put oi.dst v) w → wpM P md ops Q z S (n + 1) listed a w
  | 0, listed, a, w, _, hlz, hiz, _, hr, hy, hS, H => by
    refine ⟨fun h => (by rw [h] at hr; cases hr), fun j hj => ?_⟩
    by_cases e : j = i
    · rw [e]; exact hy.wpOp hi hS ⟨fun _ _ => hS, H⟩
    · have h0 := ready_mono hj e
      rw [H.1] at h0
      cases h0
  | n + 1, listed, a, w, hcl, hlz, hiz, hfree, hr, hy, hS, H => by
    refine ⟨fun h => (by rw [h] at hr; cases hr), fun j hj => ?_⟩
    by_cases e : j = i
    · rw [e]; exact hy.wpOp hi hS ⟨fun _ _ => hS, H⟩
    · obtain ⟨hjun, oj, hoj, hall⟩ := mem_ready.1 hj
      have hnot : ∀ d ∈ oj.after, Region.binds md d = true → d.on ≠ i := fun d hd hb heq => by
        have k1 := hall d hd hb
        have k0 := (mem_ready.1 hr).1
        rw [heq] at k1
        rcases Nat.lt_or_ge i listed.size with hl | hl
        · simp [hl] at k0 k1
          rw [k0] at k1
          cases k1
        · simp [Array.getElem?_eq_none hl] at k1
      have hjz : j ≠ z := fun h => by
        subst h
        exact getD_un (mem_ready.1 hr).1 (waitsT_listed hcl ps j oj hz hoj hall)
      have hr' : i ∈ Region.ready md ops (listed.setIfInBounds j true) := ready_mono hr (Ne.symm e)
      have step := wpOp_putIf hoj (hfree j oj hoj e hjun hnot) (fun cs b => hsel i oi cs b hi) (fun cs b => hsel j oj cs b hoj) hQ hy (H.2 j (ready_mono hj e))
      refine wpOp_mono (fun b u k => ?_) step
      obtain ⟨k1, k2, k3⟩ := k
      rw [Array.setIfInBounds_comm _ _ (Ne.symm e)] at k3
      have hSu : S u := k2 (by rw [getD_set_ne true hiz]; exact hlz) hjz
      refine ⟨fun _ _ => hSu, wpMT_first hi hz hsel hQ n (listed.setIfInBounds j true) b u (hcl.set hj) (by rw [getD_set_ne true hjz]; exact hlz) hiz ?_ hr' k1 hSu k3⟩
      intro k ok hk hki hun hno
      refine hfree k ok hk hki ?_ hno
      by_cases hjk : j = k
      · rw [← hjk]; exact hjun
      · rw [getD_set_ne true hjk] at hun; exact hun
/-- Number i may be taken first: it yields v in every world that meets S; z waits for it through ps. -/
theorem wpMT_take (i d : Nat) (ps : List Nat) {oi : Oper} {v : Value} {n : Nat} {listed : Array Bool} {a : Act} {w : World} (hi : ops[i]? = some oi) (hd : oi.dst = some d) (hs : Region.noSelect ops = true) (hf : Region.free md ops listed i = true) (hr : (Region.ready md ops listed).contains i = true) (hz : waitsT md ops z ps i = true) (hc : closedB md ops listed = true) (hlz : listed.getD z true = false) (hiz : (i == z) = false)
    (hQ : ∀ c a w, Q (.panic c) (a.put (some d) v) w → Q (.panic c) a w) (hS : S w) (hy : YieldsIf P ops S oi v a)
    (h : wpM P md ops Q z S n (listed.setIfInBounds i true) (a.put (some d) v) w) : wpM P md ops Q z S (n + 1) listed a w := by
  rw [← hd] at hQ h
  exact wpMT_first hi hz (Region.noSelect_spec hs) hQ n listed a w (Cl.of hc) hlz (by simpa using hiz) (Region.free_spec hi hf) (by simpa using hr) hy hS h
theorem wpM_free {i : Nat} {oi : Oper} {v : Value} (hi : ops[i]? = some oi) (hsel : ∀ (j : Nat) (o : Oper) cs b, ops[j]? = some o → o.op ≠ .select cs b) (hQ : ∀ c a w, Q (.panic c) (a.put oi.dst v) w → Q (.panic c) a w) (hiz : i ≠ z) :
    ∀ (n : Nat) (listed : Array Bool) (a : Act) (w : World),
      (∀ j oj, ops[j]? = some oj → j ≠ i → listed.getD j true = false → (∀ e ∈ oj.after, Region.binds md e = true → e.on ≠ i) → oi.apart ops oj = true) →
      i ∈ Region.ready md ops listed → YieldsIf P ops (fun _ => True) oi v a → (listed.getD z true = false → S w) → wpM P md ops Q z S n (listed.setIfInBounds i true) (a.put oi.dst v) w → wpM P md ops Q z S (n + 1) listed a w
  | 0, listed, a, w, _, hr, hy, hS, H => by
    refine ⟨fun h => (by rw [h] at hr; cases hr), fun j hj => ?_⟩
    by_cases e : j = i
    · rw [e]; exact hy.wpOp hi trivial ⟨fun h _ => hS h, H⟩
    · have h0 := ready_mono hj e
      rw [H.1] at h0
      cases h0
  | n + 1, listed, a, w, hfree, hr, hy, hS, H => by
    refine ⟨fun h => (by rw [h] at hr; cases hr), fun j hj => ?_⟩
    by_cases e : j = i
    · rw [e]; exact hy.wpOp hi trivial ⟨fun h _ => hS h, H⟩
    · obtain ⟨hjun, oj, hoj, hall⟩ := mem_ready.1 hj
      have hnot : ∀ d ∈ oj.after, Region.binds md d = true → d.on ≠ i := fun d hd hb heq => by
        have k1 := hall d hd hb
        have k0 := (mem_ready.1 hr).1
        rw [heq] at k1
        rcases Nat.lt_or_ge i listed.size with hl | hl
        · simp [hl] at k0 k1
          rw [k0] at k1
          cases k1
        · simp [Array.getElem?_eq_none hl] at k1
      have hr' : i ∈ Region.ready md ops (listed.setIfInBounds j true) := ready_mono hr (Ne.symm e)
      have step := wpOp_putIf hoj (hfree j oj hoj e hjun hnot) (fun cs b => hsel i oi cs b hi) (fun cs b => hsel j oj cs b hoj) hQ hy (H.2 j (ready_mono hj e))
      refine wpOp_mono (fun b u k => ?_) step
      obtain ⟨k1, k2, k3⟩ := k
      rw [Array.setIfInBounds_comm _ _ (Ne.symm e)] at k3
      have hSu : listed.getD z true = false → j ≠ z → S u := fun h1 h2 => k2 (by rw [getD_set_ne true hiz]; exact h1) h2
      refine ⟨hSu, wpM_free hi hsel hQ hiz n (listed.setIfInBounds j true) b u ?_ hr' k1 ?_ k3⟩
      · intro k ok hk hki hun hno
        refine hfree k ok hk hki ?_ hno
        by_cases hjk : j = k
        · rw [← hjk]; exact hjun
        · rw [getD_set_ne true hjk] at hun; exact hun
      · intro h
        by_cases hjz : j = z
        · subst hjz
          rcases Nat.lt_or_ge j listed.size with hl | hl
          · simp [hl] at h
          · simp at h
        · rw [getD_set_ne true hjz] at h
          exact hSu h hjz
/-- Number i may be taken first: it yields v in every world that meets S. -/
theorem wpM_take (i d : Nat) {oi : Oper} {v : Value} {n : Nat} {listed : Array Bool} {a : Act} {w : World} (hi : ops[i]? = some oi) (hd : oi.dst = some d) (hs : Region.noSelect ops = true) (hf : Region.free md ops listed i = true) (hr : (Region.ready md ops listed).contains i = true) (hz : waitsB md ops z i = true) (hlz : listed.getD z true = false) (hiz : (i == z) = false)
    (hQ : ∀ c a w, Q (.panic c) (a.put (some d) v) w → Q (.panic c) a w) (hS : S w) (hy : YieldsIf P ops S oi v a)
    (h : wpM P md ops Q z S n (listed.setIfInBounds i true) (a.put (some d) v) w) : wpM P md ops Q z S (n + 1) listed a w := by
  rw [← hd] at hQ h
  exact wpM_first hi hz (Region.noSelect_spec hs) hQ n listed a w hlz (by simpa using hiz) (Region.free_spec hi hf) (by simpa using hr) hy hS h
/-- It yields v whatever the world. -/
theorem wpM_takeF (i d : Nat) {oi : Oper} {v : Value} {n : Nat} {listed : Array Bool} {a : Act} {w : World} (hi : ops[i]? = some oi) (hd : oi.dst = some d) (hs : Region.noSelect ops = true) (hf : Region.free md ops listed i = true) (hr : (Region.ready md ops listed).contains i = true) (hiz : (i == z) = false)
    (hQ : ∀ c a w, Q (.panic c) (a.put (some d) v) w → Q (.panic c) a w) (hS : listed.getD z true = false → S w) (hy : YieldsIf P ops (fun _ => True) oi v a)
    (h : wpM P md ops Q z S n (listed.setIfInBounds i true) (a.put (some d) v) w) : wpM P md ops Q z S (n + 1) listed a w := by
  rw [← hd] at hQ h
  exact wpM_free hi (Region.noSelect_spec hs) hQ (by simpa using hiz) n listed a w (Region.free_spec hi hf) (by simpa using hr) hy hS h
/-- One alone may come up. -/
theorem wpM_one {i : Nat} {o : Oper} {n : Nat} {listed : Array Bool} {a : Act} {w : World} (hr : Region.ready md ops listed = [i]) (ho : ops[i]? = some o)
    (h : ∀ K : Act → World → Prop, Hid (∀ b u, (listed.getD z true = false → i ≠ z → S u) → wpM P md ops Q z S n (listed.setIfInBounds i true) b u → K b u) → if Region.wanted o (yielded ops a.tmps) = true then Oper.wp P o a w K Q else K (a.put o.dst undef) w) : wpM P md ops Q z S (n + 1) listed a w := by
  refine ⟨fun e => (by rw [hr] at e; cases e), fun j hj => ?_⟩
  rw [hr] at hj
  have e : j = i := by simpa using hj
  subst e
  exact wpOp_step ho (fun K hK => h K (fun b u k1 k2 => hK b u ⟨k1, k2⟩))
theorem wpM_done {listed : Array Bool} {a : Act} {w : World} (hr : Region.ready md ops listed = []) (h : Q .normal a w) : ∀ n, wpM P md ops Q z S n listed a w
  | 0 => ⟨hr, h⟩
  | _ + 1 => ⟨fun _ => h, fun i hi => by rw [hr] at hi; cases hi⟩
theorem wp_region_M {id : Nat} {a : Act} {w : World} (z : Nat) (S : World → Prop) (hm : P.follows .mixedOrders = true) (h : wpM P .any ops Q z S ops.size (Array.replicate ops.size false) a w.drew) : (Code.region id ops true).wp P Q a w :=
  wp_region_any hm (wpM_any _ _ _ _ h)
end
end Go.Proofs.YtahodgmdikaedaaDoor
end
