/-
  The document's Due, by contract.
-/
import Derived.Test.YtilaankipjcgaaaRefNext
import Derived.Test.YtilaankipjcgaaaRefCan
namespace Go.Proofs.Ytilaankipjcgaaa
open Go.RowKit Go.Maps
variable {w w' : World} {F : Nat → Prop} {rb : Nat} {v : Value} {L s : List Pr}
theorem Rm.len (h : Rm w F rb s) : s.length ≤ 4096 := by obtain ⟨v, L, h⟩ := h; rw [← h.perm.length_eq]; exact h.few
theorem Rm.dis (h : Rm w F rb s) : Dis s := by obtain ⟨v, L, h⟩ := h; exact h.dis
/-- What the document's Due has when it has gone so far. -/
structure RDue (w : World) (F : Nat → Prop) (rb : Nat) (s : List Pr) (now : Int) (wr : World) (v : Value) (s1 : List Pr) (zs : List Int) (Fr : Nat → Prop) : Prop where
  tm : Rm wr Fr rb s1
  sub : ∀ k, Fr k → F k ∨ w.heap.size ≤ k
  lt : ∀ k, Fr k → k < wr.heap.size
  row : Ir wr v zs
  own : ∀ k, v.ownBlock = some k → w.heap.size ≤ k ∧ ¬ Fr k
  grows : Grows F w wr
  d : dues s now = zs ++ dues s1 now
  r : rest s now = rest s1 now
  n : zs.length + s1.length = s.length
set_option maxRecDepth 20000 in
set_option maxHeartbeats 2000000 in
theorem rdue_any (h : Rm w F rb s) (now : Int) (hF : ∀ k, F k → k < w.heap.size) : Calls Try.prog 15 #[.pointer (some ⟨rb, 0, none⟩), .int .i64 now] w fun e w' =>
    ∃ v, e = .returned v ∧ Ir w' v (dues s now) ∧ (∀ k, v.ownBlock = some k → w.heap.size ≤ k) ∧ Rm w' (Pl F w.heap.size) rb (rest s now) ∧ Grows F w w' := by
  have hl4 := h.len
  go_enter Try.func15, Try.ntmps15
  go_wp2_with fail
  go_loopw [5] (fun x wr => ∃ s1 zs ao cap Fr, x = .slice ao (List.length zs) cap ∧ Hid (RDue w F rb s now wr x s1 zs Fr)) (fun x _ => s.length - lenOf x)
  case atStart => exact ⟨s, [], none, 0, F, rfl, h, fun k hk => Or.inl hk, hF, World.ownsRow_nil _ _ _ _, (fun k hk => by cases hk), Grows.refl _ _, rfl, rfl, by simp⟩
  case round =>
    obtain ⟨s1, zs, ao, cap, Fr, rfl, HI⟩ := hrel
    have hn := HI.out.n
    have hTm := HI.out.tm
    cases s1 with
    | nil =>
      have HT := hid_into hTm
      clear hTm
      go_wp2_with (go_at_call 17; refine (rnext_nil HT.out).mono ?_; rintro e w2 ⟨rfl, B2⟩)
      go_ret
      have hd := HI.out.d
      have hr := HI.out.r
      simp only [dues, rest, List.takeWhile_nil, List.dropWhile_nil, List.map_nil, List.append_nil] at hd hr
      refine ⟨_, rfl, ?_, fun k hk => (HI.out.own k hk).1, ?_, HI.out.grows.trans (Grows.of_below B2 (fun _ => False) fun k h1 h2 => by omega) fun k hk => hk.elim⟩
      · show Ir _ _ (dues s now)
        simp only [dues]
        rw [hd]; exact HI.out.row.keep fun k hk => B2.block k (HI.out.row.lt hk)
      · simp only [rest]
        rw [hr]; exact (HT.out.keep fun k _ hk => B2.block k hk).more fun k hk _ => HI.out.sub k hk
    | cons p r =>
      have HT := hid_into hTm
      have hdis := hTm.dis
      have hgp : get (p :: r) p.1 = some p.2 := get_of_mem hdis List.mem_cons_self
      have hrm := rm_head hdis
      clear hTm hdis
      by_cases hle : p.2 ≤ now
      · have HG := hid_into hgp
        have HRm := hid_into hrm
        clear hgp hrm
        have hng : ¬ now < p.2 := by omega
        have HR := hid_into HI.out.row
        go_wp2_with (first
          | (go_at_call 17; refine (rnext_cons HT.out).mono ?_; rintro e w2 ⟨rfl, B2⟩; have HT2 := hid_into (HT.out.keep (w' := w2) fun k _ hk => B2.block k hk); have HR2 := hid_into (HR.out.keep (w' := w2) fun k hk => B2.block k (HR.out.lt hk)); replace B2 := hid_into B2)
          | (go_at_call 12; refine (rcancel_some HT2.out p.1 p.2 HG.out).mono ?_; rintro e w3 ⟨rfl, h3, hg3⟩; have HR3 := hid_into (HR2.out.keep (w' := w3) fun k hk => hg3.block k (HR2.out.lt hk) (HI.out.own k hk).2); have hcl : (w3.alloc (.cells #[.int .i64 p.1] 3)).cell? ⟨w3.heap.size, 0, none⟩ = some (.int .i64 p.1) := (Cw.new w3 [_] 3).cell 0; replace hcl := hid_into hcl; replace h3 := hid_into h3; replace hg3 := hid_into hg3)
          | (at_builtin; refine wpList_append1 Try.underlying35 Try.info3 rfl (by decide) _ rfl (.tmp 26) (.tmp 28) rfl (.slice ao zs.length cap) zs.length (zs.map (Value.int .i64)) (by rfl) (World.ownsRow.alloc HR3.out _) w3.heap.size (.int .i64 p.1) (by rfl) hcl.out rfl (by omega) ?_; intro ao4 cap4 w4 ho4 hg4 hbk4))
        go_roundw
        case rel =>
          have hs0 := HI.out.grows.size
          have hs1 := B2.out.size
          have hs2 := hg3.out.size
          have hown := HI.out.own
          have hob : ∀ k, (Value.slice ao zs.length cap).ownBlock = some k → k < wr.heap.size := fun k hk => HR.out.lt hk
          have hs4 : w3.heap.size + 1 ≤ w4.heap.size := by have := hg4.size; simp at this; exact this
          have hblk : ∀ k, Pl Fr w2.heap.size k → k < w3.heap.size → w4.heap[k]? = w3.heap[k]? := fun k hf hk => by
            have h1 : (Value.slice ao zs.length cap).ownBlock ≠ some k := fun e => by
              rcases hf with hf | hf
              · exact (hown k e).2 hf
              · have := hob k e; omega
            rw [hg4.block k (by simp; omega) (fun e => h1 e.symm), Below.heap_alloc _ _ _ hk]
          have hd := HI.out.d
          have hr := HI.out.r
          rw [dues_cons hle] at hd
          rw [rest_cons hle] at hr
          have h3' := h3.out
          rw [HRm.out] at h3'
          refine ⟨r, zs ++ [p.1], ao4, cap4, fun k => Pl Fr w2.heap.size k ∧ k < w3.heap.size, by simp, (h3'.more (G := fun k => Pl Fr w2.heap.size k ∧ k < w3.heap.size) fun k hk hl => ⟨hk, hl⟩).keep fun k hk _ => hblk k hk.1 hk.2, ?_, ?_, ?_, ?_, ?_, ?_, hr, ?_⟩
          · rintro k ⟨hk | hk, _⟩
            · exact HI.out.sub k hk
            · exact Or.inr (by omega)
          · rintro k ⟨_, hk⟩; omega
          · show World.ownsRow _ _ _ _ _ _ _
            simpa using ho4
          · intro k hk
            rcases hbk4 with e | e
            · rw [e] at hk
              refine ⟨(hown k hk).1, ?_⟩
              rintro ⟨h5 | h5, _⟩
              · exact (hown k hk).2 h5
              · have := hob k hk; omega
            · rw [e] at hk; simp at hk
              refine ⟨by omega, ?_⟩
              rintro ⟨_, h5⟩; omega
          · have G2 : Grows (fun _ => False) wr w2 := Grows.of_below B2.out (fun _ => False) fun k h1 h2 => by omega
            exact ((((HI.out.grows.trans G2 fun k hk => hk.elim).trans hg3.out fun k hk => HI.out.sub k hk).trans (Grows.alloc (fun _ => False) _ _) fun k hk => hk.elim).trans (Grows.grownBy (F := fun k => (Value.slice ao zs.length cap).ownBlock = some k) hg4 fun k hk => hk) fun k hk => Or.inr (hown k hk).1)
          · rw [hd]; simp
          · simp at hn ⊢; omega
        case measure => simp at hn; simp [lenOf]; omega
      · have hng : now < p.2 := by omega
        go_wp2_with (first
          | (go_at_call 17; refine (rnext_cons HT.out).mono ?_; rintro e w2 ⟨rfl, B2⟩) | fail)
        go_ret
        have hd := HI.out.d
        have hr := HI.out.r
        rw [dues_stop hng, List.append_nil] at hd
        rw [rest_stop hng] at hr
        refine ⟨_, rfl, by rw [hd]; exact HI.out.row.keep fun k hk => B2.block k (HI.out.row.lt hk), fun k hk => (HI.out.own k hk).1, by rw [hr]; exact (HT.out.keep fun k _ hk => B2.block k hk).more fun k hk _ => HI.out.sub k hk, HI.out.grows.trans (Grows.of_below B2 (fun _ => False) fun k h1 h2 => by omega) fun k hk => hk.elim⟩
end Go.Proofs.Ytilaankipjcgaaa
