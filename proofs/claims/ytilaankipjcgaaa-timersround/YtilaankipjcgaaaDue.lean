/-
  timers' Cancel, Next, Due, by contracts.
-/
import Derived.Test.YtilaankipjcgaaaSet
namespace Go.Proofs.Ytilaankipjcgaaa
open Go.RowKit Go.Maps
variable {w w' : World} {F : Nat → Prop} {sb : Nat} {mb : Option Nat} {v : Value} {q : List Th} {s : List Pr}
set_option maxHeartbeats 1000000 in
theorem cancel_none (h : Tm w F sb s) (id : Int) (hid : In64 id) (hg : get s id = none) :
    Calls Try.prog 11 #[.pointer (some ⟨sb, 0, none⟩), .int .i64 id] w fun e w' => e = .returned (.tuple #[.int .i64 0, .bool false]) ∧ w' = w := by
  obtain ⟨mb, v, q, h⟩ := h
  obtain ⟨ms, hms, hlk⟩ := look_no h hid
  have c0 : w.cell? ⟨sb, 0, none⟩ = some (.map mb) := by rw [h.tq.st.cell]; rfl
  have hl : lkM ms id = none := by
    rcases h.find id hms with ⟨_, hl⟩ | ⟨i, t, _, _, hgs, _⟩
    · exact hl
    · rw [hg] at hgs; cases hgs
  rw [hl] at hlk
  simp only [ptrO] at hlk
  clear h hms
  go_enter Try.func11, Try.ntmps11
  go_wp2_with fail
  go_ret2
  exact ⟨rfl, rfl⟩
set_option maxHeartbeats 1000000 in
theorem cancel_some (h : Tm w F sb s) (id d : Int) (hid : In64 id) (hg : get s id = some d) :
    Calls Try.prog 11 #[.pointer (some ⟨sb, 0, none⟩), .int .i64 id] w fun e w' => e = .returned (.tuple #[.int .i64 d, .bool true]) ∧ Tm w' F sb (rm s id) ∧ Grows F w w' := by
  obtain ⟨mb, v, q, h⟩ := h
  obtain ⟨ms, hms, hlk⟩ := look_no h hid
  have c0 : w.cell? ⟨sb, 0, none⟩ = some (.map mb) := by rw [h.tq.st.cell]; rfl
  rcases h.find id hms with ⟨hgn, _⟩ | ⟨i, t, hi, rfl, hgs, hl⟩
  · rw [hg] at hgn; cases hgn
  rw [hg] at hgs
  obtain rfl : d = t.due := Option.some.inj hgs
  rw [hl] at hlk
  simp only [ptrO, ptrV] at hlk
  clear hms hl hgs
  go_enter Try.func11, Try.ntmps11
  go_wp2_with (go_at_call 23; refine (take_any h i t hi).mono ?_; rintro e w2 ⟨rfl, v2, q2, h2, hg2, pl, hc2⟩; have t1 : w2.cell? ⟨t.b, 1, none⟩ = some (.int .i64 t.due) := (by rw [hc2.cell]; rfl))
  go_ret2
  exact ⟨rfl, ⟨mb, v2, q2, h2⟩, hg2⟩
theorem cancel_nil (w : World) (id : Int) : Calls Try.prog 11 #[.pointer none, .int .i64 id] w fun e w' => e = .returned (.tuple #[.int .i64 0, .bool false]) ∧ w' = w := by
  go_enter Try.func11, Try.ntmps11
  go_wp2_with fail
  go_ret2
  exact ⟨rfl, rfl⟩
/-- The first of the heap is the first of the row. -/
theorem Tx.head {p : Pr} {r : List Pr} (h : Tx w F sb mb v q (p :: r)) : ∃ t, q[0]? = some t ∧ t.pr = p := by
  have hl : 0 < q.length := by rw [h.len]; simp
  refine ⟨q[0], List.getElem?_eq_getElem hl, ?_⟩
  apply srt_first h.srt (h.perm.mem_iff.1 (List.mem_map_of_mem (List.getElem_mem hl)))
  intro y hy
  obtain ⟨x, hx, rfl⟩ := List.mem_map.1 (h.perm.mem_iff.2 hy)
  obtain ⟨i, hi⟩ := List.getElem?_of_mem hx
  have hil := (List.getElem?_eq_some_iff.1 hi).1
  have := h.hp.first i hil
  simp only [fn, List.getD, hi, List.getElem?_eq_getElem hl, Option.getD_some] at this
  exact this
set_option maxHeartbeats 1000000 in
theorem next_cons {p : Pr} {r : List Pr} (h : Tm w F sb (p :: r)) : Calls Try.prog 16 #[.pointer (some ⟨sb, 0, none⟩)] w fun e w' => e = .returned (.tuple #[.int .i64 p.1, .int .i64 p.2, .bool true]) ∧ Sm w w' := by
  have hT := h
  obtain ⟨mb, v, q, h⟩ := h
  obtain ⟨t, ht, rfl⟩ := h.head
  have hl : 0 < q.length := (List.getElem?_eq_some_iff.1 ht).1
  obtain ⟨g, cap, hv, hc1, hc2, -⟩ := h.tq.qu.form hl
  obtain ⟨a0, a1, a2, -⟩ := h.tq.qu.cells hv ht
  have c1 := h.tq.cell
  rw [hv] at c1
  have hne : (((t.pr :: r).length : Int) == 0) = false := by simp; omega
  have hl4 := h.tq.qu.len
  unfold maxLen at hc2
  have HT := hid_into hT
  clear h hT hv
  go_enter Try.func16, Try.ntmps16
  go_wp2_with (go_at_call 18; refine (tlen_any HT.out).mono ?_; rintro e w2 ⟨rfl, rfl⟩)
  go_quiet (fail)
  go_wp2_with fail
  exact bodyPost_ret (v := .tuple #[.int .i64 t.id, .int .i64 t.due, .bool true]) (by simp [results, Try.results16, go_sem]) rfl ⟨rfl, Sm.drewN _ _⟩
theorem next_nil (h : Tm w F sb []) : Calls Try.prog 16 #[.pointer (some ⟨sb, 0, none⟩)] w fun e w' => e = .returned (.tuple #[.int .i64 0, .int .i64 0, .bool false]) ∧ Sm w w' := by
  have HT := hid_into h
  clear h
  go_enter Try.func16, Try.ntmps16
  go_wp2_with (go_at_call 18; refine (tlen_any HT.out).mono ?_; rintro e w2 ⟨rfl, rfl⟩; simp only [List.length_nil])
  exact bodyPost_ret (v := .tuple #[.int .i64 0, .int .i64 0, .bool false]) (by simp [results, Try.results16, go_sem]) rfl ⟨rfl, Sm.refl _⟩
theorem next_none (w : World) : Calls Try.prog 16 #[.pointer none] w fun e w' => e = .returned (.tuple #[.int .i64 0, .int .i64 0, .bool false]) ∧ w' = w := by
  go_enter Try.func16, Try.ntmps16
  go_wp2_with (go_at_call 18; refine (tlen_nil _).mono ?_; rintro e w2 ⟨rfl, rfl⟩)
  exact bodyPost_ret (v := .tuple #[.int .i64 0, .int .i64 0, .bool false]) (by simp [results, Try.results16, go_sem]) rfl ⟨rfl, rfl⟩
/-- A row of numbers of one's own. -/
def Ir (w : World) (v : Value) (zs : List Int) : Prop := w.ownsRow 0 3 1 v zs.length (zs.map (Value.int .i64))
theorem Ir.keep {v : Value} {zs : List Int} (h : Ir w v zs) (hk : ∀ k, v.ownBlock = some k → w'.heap[k]? = w.heap[k]?) : Ir w' v zs := ownsRow_keep h hk
theorem Ir.lt {v : Value} {zs : List Int} (h : Ir w v zs) {k : Nat} (hk : v.ownBlock = some k) : k < w.heap.size := (World.ownsRow.lt h k hk).2
theorem Ir.form {v : Value} {zs : List Int} (h : Ir w v zs) : ∃ ao cap, v = .slice ao zs.length cap := by
  rcases h.2 with ⟨h1, h2⟩ | ⟨g, cap, cur, h1, _⟩
  · exact ⟨none, 0, by rw [h1, h2]⟩
  · exact ⟨_, cap, h1⟩
theorem dues_cons {p : Pr} {r : List Pr} {now : Int} (h : p.2 ≤ now) : dues (p :: r) now = p.1 :: dues r now := by simp [dues, h]
theorem rest_cons {p : Pr} {r : List Pr} {now : Int} (h : p.2 ≤ now) : rest (p :: r) now = rest r now := by simp [rest, h]
theorem dues_stop {p : Pr} {r : List Pr} {now : Int} (h : now < p.2) : dues (p :: r) now = [] := by
  have : ¬ p.2 ≤ now := by omega
  simp [dues, this]
theorem rest_stop {p : Pr} {r : List Pr} {now : Int} (h : now < p.2) : rest (p :: r) now = p :: r := by
  have : ¬ p.2 ≤ now := by omega
  simp [rest, this]
theorem rm_head {p : Pr} {r : List Pr} (h : Dis (p :: r)) : rm (p :: r) p.1 = r := rm_cons_eq fun x hx => Ne.symm ((List.pairwise_cons.1 h).1 x hx)
/-- What Due has when it has gone so far. -/
structure DueI (w : World) (F : Nat → Prop) (sb : Nat) (s : List Pr) (now : Int) (wr : World) (v : Value) (s1 : List Pr) (zs : List Int) : Prop where
  tm : Tm wr F sb s1
  row : Ir wr v zs
  own : ∀ k, v.ownBlock = some k → w.heap.size ≤ k
  grows : Grows F w wr
  d : dues s now = zs ++ dues s1 now
  r : rest s now = rest s1 now
  n : zs.length + s1.length = s.length
def lenOf : Value → Nat | .slice _ n _ => n | _ => 0
set_option maxRecDepth 20000 in
set_option maxHeartbeats 2000000 in
theorem due_any (h : Tm w F sb s) (now : Int) (hF : ∀ k, F k → k < w.heap.size) : Calls Try.prog 14 #[.pointer (some ⟨sb, 0, none⟩), .int .i64 now] w fun e w' =>
    ∃ v, e = .returned v ∧ Ir w' v (dues s now) ∧ (∀ k, v.ownBlock = some k → w.heap.size ≤ k) ∧ Tm w' F sb (rest s now) ∧ Grows F w w' := by
  have hl4 := h.len
  go_enter Try.func14, Try.ntmps14
  go_wp2_with fail
  go_loopw [5] (fun x wr => ∃ s1 zs ao cap, x = .slice ao (List.length zs) cap ∧ Hid (DueI w F sb s now wr x s1 zs)) (fun x _ => s.length - lenOf x)
  case atStart => exact ⟨s, [], none, 0, rfl, h, World.ownsRow_nil _ _ _ _, (fun k hk => by cases hk), Grows.refl _ _, rfl, rfl, by simp⟩
  case round =>
    obtain ⟨s1, zs, ao, cap, rfl, HI⟩ := hrel
    have hn := HI.out.n
    have hTm := HI.out.tm
    cases s1 with
    | nil =>
      have HT := hid_into hTm
      clear hTm
      go_wp2_with (go_at_call 18; refine (tlen_any HT.out).mono ?_; rintro e w2 ⟨rfl, rfl⟩; simp only [List.length_nil])
      go_ret
      have hd := HI.out.d
      have hr := HI.out.r
      simp only [dues, rest, List.takeWhile_nil, List.dropWhile_nil, List.map_nil, List.append_nil] at hd hr
      refine ⟨_, rfl, ?_, HI.out.own, ?_, HI.out.grows⟩
      · show Ir _ _ (dues s now)
        simp only [dues]
        rw [hd]; exact HI.out.row
      · simp only [rest]
        rw [hr]; exact HT.out
    | cons p r =>
      obtain ⟨mb, v, q, hx⟩ := hTm
      obtain ⟨t, ht, hp⟩ := hx.head
      have hl : 0 < q.length := (List.getElem?_eq_some_iff.1 ht).1
      obtain ⟨g, cap2, hv, hc1, hc2, -⟩ := hx.tq.qu.form hl
      obtain ⟨a0, a1, a2, -⟩ := hx.tq.qu.cells hv ht
      have c1 := hx.tq.cell
      rw [hv] at c1
      have hl4' := hx.tq.qu.len
      have hgt : decide ((0 : Int) < ((p :: r).length : Int)) = true := by simp
      have hpos : (0 : Int) < ((p :: r).length : Int) := by simp
      obtain ⟨n1, hn1⟩ : ∃ n1, n1 = (p :: r).length := ⟨_, rfl⟩
      rw [← hn1] at hn hgt hpos
      have HN1 := hid_into hn1
      unfold maxLen at hc2
      have HX := hid_into hx
      have HT : Hid (Tm wr F sb (p :: r)) := ⟨mb, v, q, hx⟩
      clear hx hv hn1
      by_cases hle : p.2 ≤ now
      · have hdu : t.due ≤ now := by rw [← hp] at hle; exact hle
        have HP := hid_into hp
        clear hp hle
        have HR := hid_into HI.out.row
        go_wp2_with (first
          | (go_at_call 18; refine (tlen_any HT.out).mono ?_; rintro e w2 ⟨rfl, rfl⟩; rw [← HN1.out])
          | (go_at_call 23; refine (take_any HX.out 0 t ht).mono ?_; rintro e w2 ⟨rfl, v2, q2, h2, hg2, pl, hb2⟩; have t0 : w2.cell? ⟨t.b, 0, none⟩ = some (.int .i64 t.id) := (by rw [hb2.cell]; rfl); replace HR := hid_into (HR.out.keep (w' := w2) (fun k hk => hg2.block k (HR.out.lt hk) (fun hf => by have := hF k hf; have := HI.out.own k hk; omega))); have hcl : (w2.alloc (.cells #[.int .i64 t.id] 3)).cell? ⟨w2.heap.size, 0, none⟩ = some (.int .i64 t.id) := (Cw.new w2 [_] 3).cell 0; replace hcl := hid_into hcl; replace h2 := hid_into h2; replace hg2 := hid_into hg2; clear hb2)
          | (at_builtin; refine wpList_append1 Try.underlying35 Try.info3 rfl (by decide) _ rfl (.tmp 32) (.tmp 37) rfl (.slice ao zs.length cap) zs.length (zs.map (Value.int .i64)) (by rfl) (World.ownsRow.alloc HR.out _) w2.heap.size (.int .i64 t.id) (by rfl) hcl.out rfl (by omega) ?_; intro ao3 cap3 w3 ho3 hg3 hbk3))
        go_roundw
        case rel =>
          have hid : t.id = p.1 := by rw [← HP.out]; rfl
          have hs0 := HI.out.grows.size
          have hs1 := hg2.out.size
          have hblk : ∀ k, F k → k < w2.heap.size → w3.heap[k]? = w2.heap[k]? := fun k hf hk => by
            have h1 : (Value.slice ao zs.length cap).ownBlock ≠ some k := fun e => by have := hF k hf; have := HI.out.own k e; omega
            rw [hg3.block k (by simp; omega) (fun e => h1 e.symm), Below.heap_alloc _ _ _ hk]
          have hd := HI.out.d
          have hr := HI.out.r
          have hle : p.2 ≤ now := by rw [← HP.out]; exact hdu
          rw [dues_cons hle] at hd
          rw [rest_cons hle] at hr
          have h2' : Tm w2 F sb r := by
            have := h2.out
            rw [hid, rm_head HX.out.dis] at this
            exact ⟨mb, v2, q2, this⟩
          refine ⟨r, zs ++ [t.id], ao3, cap3, by simp, h2'.keep hblk, ?_, ?_, ?_, ?_, hr, ?_⟩
          · show World.ownsRow _ _ _ _ _ _ _
            simpa using ho3
          · intro k hk
            rcases hbk3 with e | e
            · exact HI.out.own k (by rw [← e]; exact hk)
            · rw [e] at hk; simp at hk; omega
          · refine ((HI.out.grows.trans hg2.out fun k hk => Or.inl hk).trans (Grows.alloc (fun _ => False) _ _) fun k hk => hk.elim).trans (Grows.grownBy (F := fun k => (Value.slice ao zs.length cap).ownBlock = some k) hg3 fun k hk => hk) fun k hk => Or.inr (HI.out.own k hk)
          · rw [hd, hid]; simp
          · have := HN1.out; simp at this ⊢; omega
        case measure => simp [lenOf]; omega
      · have hdu : now < t.due := by rw [← hp] at hle; simp [Th.pr] at hle; exact hle
        have HP := hid_into hp
        clear hp hle
        go_wp2_with (first
          | (go_at_call 18; refine (tlen_any HT.out).mono ?_; rintro e w2 ⟨rfl, rfl⟩; rw [← HN1.out]) | fail)
        go_ret
        have hd := HI.out.d
        have hr := HI.out.r
        have hlt : now < p.2 := by rw [← HP.out]; exact hdu
        rw [dues_stop hlt, List.append_nil] at hd
        rw [rest_stop hlt] at hr
        refine ⟨_, rfl, by rw [hd]; exact HI.out.row, HI.out.own, by rw [hr]; exact HT.out, HI.out.grows⟩
end Go.Proofs.Ytilaankipjcgaaa
