/-
  NetDrops' own walk.
-/
import Derived.Test.YtnfmhcljncdkgaaTwiceWalk
import Derived.Deep.DeepCutAuto
import Derived.Deep.CutBlock
namespace Go.Proofs.Ytnfmhcljncdkgaa
open Go.RowKit
/-- Numbers that came in: where each stands. -/
theorem int_at {W : World} {a : Option Addr} {n cap : Nat} {l : List Int} {i : Nat} {z : Int} (h : Ax.Rw W 1 i64c a n cap l) (hi : l[i]? = some z) : ∃ g off, a = some ⟨g, off, none⟩ ∧ W.cell? ⟨g, off + i, none⟩ = some (.int .i64 z) := by
  obtain ⟨g, off, ha, hc⟩ := h.at' i z hi
  exact ⟨g, off, ha, by have := hc 0 _ rfl; simpa using this⟩
/-- The message of the i-th number. -/
def dmk (z : Int) (i : Nat) : Mg := ⟨z % 4, z / 4 % 4, [(i : Int)]⟩
def dsent (l : List Int) (k : Nat) : List Mg := (List.range k).map fun i => dmk (l.getD i 0) i
theorem dsent_succ (l : List Int) (k : Nat) : dsent l (k + 1) = dsent l k ++ [dmk (l.getD k 0) k] := by simp [dsent, List.range_succ]
theorem dsent_len (l : List Int) (k : Nat) : (dsent l k).length = k := by simp [dsent]
def dwant (l : List Int) (node : Int) (k : Nat) : List Int := ((List.range k).filter fun i : Nat => !hitB node (dmk (l.getD i 0) i)).map fun i : Nat => (i : Int)
theorem dwant_succ (l : List Int) (node : Int) (k : Nat) : dwant l node (k + 1) = if hitB node (dmk (l.getD k 0) k) then dwant l node k else dwant l node k ++ [(k : Int)] := by
  unfold dwant
  rw [List.range_succ, List.filter_append, List.map_append]
  generalize hd : dmk (l.getD k 0) k = d
  cases h : hitB node d with
  | true => simp only [List.filter_cons, hd, h]; simp
  | false => simp only [List.filter_cons, hd, h]; simp
theorem dwant_drop (l : List Int) (node : Int) (k : Nat) : dropN (dsent l k) node = (dwant l node k).map fun z => dmk (l.getD z.toNat 0) z.toNat := by
  rw [dropN_hit]
  induction k with
  | zero => simp [dsent, dwant]
  | succ k ih =>
    rw [dsent_succ, dwant_succ, List.filter_append, ih]
    generalize hd : dmk (l.getD k 0) k = d
    cases h : hitB node d with
    | true => rw [if_pos rfl, List.filter_cons, h]; simp
    | false => rw [if_neg (by decide), List.filter_cons, h, List.map_append]; simp only [Bool.not_false, if_true, List.filter_nil, List.map_cons, List.map_nil, Int.toNat_natCast]; rw [hd]
theorem dwant_at {l : List Int} {node : Int} {k i : Nat} {z : Int} (h : (dwant l node k)[i]? = some z) : ∃ j : Nat, z = (j : Int) ∧ j < k := by
  have := List.mem_of_getElem? h
  unfold dwant at this
  rw [List.mem_map] at this
  obtain ⟨j, hj, rfl⟩ := this
  rw [List.mem_filter, List.mem_range] at hj
  exact ⟨j, rfl, hj.1⟩
theorem dwant_len (l : List Int) (node : Int) (k : Nat) : (dwant l node k).length ≤ k := by
  unfold dwant
  rw [List.length_map]
  exact Nat.le_trans (List.length_filter_le _ _) (by simp)
theorem i64k : Ax.Kd Try.prog 51 3 1 i64c where
  ty := Try.underlying51
  len := fun _ => rfl
  one := fun s u hu => by simp only [i64c, List.mem_cons, List.not_mem_nil, or_false] at hu; rw [hu]; rfl
  pos := by decide
  inf := ⟨.int .i64 0, 8, by kernel_rfl, rfl, by decide⟩
/-- The law's own row of numbers. -/
abbrev Wn (w : World) (base : Nat) (v : Value) (l : List Int) : Prop := Ax.Ro w base 3 1 i64c v l
theorem Wn.grow {w w' : World} {base : Nat} {v : Value} {l : List Int} (h : Wn w base v l) (hb : Below w.heap.size w w') : Wn w' base v l := h.keep fun k _ _ hlt => hb.block k hlt
theorem Wn.at {w : World} {base : Nat} {v : Value} {l : List Int} {i : Nat} {z : Int} (h : Wn w base v l) (hi : l[i]? = some z) : ∃ g cap, v = .slice (some ⟨g, 0, none⟩) l.length cap ∧ w.cell? ⟨g, i, none⟩ = some (.int .i64 z) := by
  obtain ⟨g, cap, hv, _, _, _, _, hc⟩ := Ax.Ro.spot h (fun e => by rw [e] at hi; simp at hi)
  exact ⟨g, cap, hv, hc i _ (by have := Ax.fm_at (c := 1) (en := i64c) (fun _ => rfl) l i 0 z (.int .i64 z) hi rfl; rw [Nat.mul_one, Nat.add_zero] at this; exact this)⟩
/-- A Net of the law's own beside its row of numbers. -/
structure Dw (w0 w : World) (nb : Nat) (L : List Mg) (v : Value) (l : List Int) : Prop where
  ex : ∃ vN, Np w w0.heap.size nb vN L ∧ ∀ b, v.ownBlock = some b → ¬ Nf nb vN b
  b : Below w0.heap.size w0 w
  r : Wn w w0.heap.size v l
section
variable {w0 w w' : World} {nb : Nat} {L : List Mg} {v : Value} {l : List Int}
theorem Dw.step (h : Dw w0 w nb L v l) (hb : Below w.heap.size w w') : Dw w0 w' nb L v l := by
  obtain ⟨vN, hn, hd⟩ := h.ex
  exact ⟨⟨vN, hn.below hb, hd⟩, h.b.trans (hb.mono h.b.size), h.r.grow hb⟩
theorem Dw.nx {vN v' : Value} {L' : List Mg} (h : Dw w0 w nb L v l) (hn : Np w w0.heap.size nb vN L) (hd : ∀ b, v.ownBlock = some b → ¬ Nf nb vN b) (hx : Nx w w' w0.heap.size nb vN v' L') : Dw w0 w' nb L' v l := by
  refine ⟨⟨v', hx.n, fun b hb hN => ?_⟩, h.b.trans (hx.belowB h.b.size hn.lo), h.r.keep fun k hk _ hlt => hx.g.block k hlt (hd k hk)⟩
  rcases hN with rfl | hN
  · exact hd _ hb (Or.inl rfl)
  · rcases hx.o b hN with h1 | h1
    · exact hd _ hb (Or.inr h1)
    · have := (h.r.lt b hb).2; omega
theorem dw_send (h : Dw w0 w nb L v l) (m : Mg) {s : Value} (hs : Bs w s m.d) : Calls Try.prog 11 #[.pointer (some ⟨nb, 0, none⟩), .agg #[.int .i64 m.fr, .int .i64 m.to, s]] w fun e w' => e = .returned (.bool (sendB L)) ∧ Dw w0 w' nb (sendN L m) v l := by
  obtain ⟨vN, hn, hd⟩ := h.ex
  refine (send_any hn h.b.size m hs).mono ?_
  rintro e w' ⟨rfl, v', hx⟩
  exact ⟨rfl, h.nx hn hd hx⟩
theorem dw_send2 {W : World} (h : Dw w0 w nb L v l) (hb : Below w.heap.size w W) (m : Mg) {s : Value} (hs : Bs W s m.d) : Calls Try.prog 11 #[.pointer (some ⟨nb, 0, none⟩), .agg #[.int .i64 m.fr, .int .i64 m.to, s]] W fun e w' => e = .returned (.bool (sendB L)) ∧ Dw w0 w' nb (sendN L m) v l ∧ ∀ c cs t, w.heap.size ≤ c → Cw W c cs t → Cw w' c cs t := by
  obtain ⟨vN, hn, hd⟩ := h.ex
  have h1 := h.step hb
  refine (send_any (hn.below hb) h1.b.size m hs).mono ?_
  rintro e w' ⟨rfl, v', hx⟩
  exact ⟨rfl, h1.nx (hn.below hb) hd hx, fun c cs t hc hcw => hx.g.cw hcw fun hN => by have := hn.hi c hN; omega⟩
theorem dw_drop (h : Dw w0 w nb L v l) (node : Int) : Calls Try.prog 22 #[.pointer (some ⟨nb, 0, none⟩), .int .i64 node] w fun e w' => e = .returned (.int .i64 ((L.length : Int) - ((dropN L node).length : Int))) ∧ Dw w0 w' nb (dropN L node) v l := by
  obtain ⟨vN, hn, hd⟩ := h.ex
  refine (drop_any hn node).mono ?_
  rintro e w' ⟨rfl, v', hx⟩
  exact ⟨rfl, h.nx hn hd hx⟩
theorem dw_len (h : Dw w0 w nb L v l) : Calls Try.prog 24 #[.pointer (some ⟨nb, 0, none⟩)] w fun e w' => e = .returned (.int .i64 (L.length : Int)) ∧ w' = w := by
  obtain ⟨vN, hn, hd⟩ := h.ex
  exact len_any hn
theorem dw_give (h : Dw w0 w nb L v l) (hL : L ≠ []) (hg : ∀ m ∈ L, Gd m) (pick : Int) : Calls Try.prog 15 #[.pointer (some ⟨nb, 0, none⟩), .int .i64 pick] w fun e w' => ∃ m ao n c, giveM L pick = some m ∧ e = .returned (.tuple #[.agg #[.int .i64 m.fr, .int .i64 m.to, .slice ao n c], .bool true]) ∧ Dw w0 w' nb (giveN L pick) v l ∧ Bs w' (.slice ao n c) m.d := by
  obtain ⟨vN, hn, hd⟩ := h.ex
  refine (give_any hn hL hg pick).mono ?_
  rintro e w' ⟨m, v', ao, n, c, hm, rfl, hx, hof, _⟩
  exact ⟨m, ao, n, c, hm, rfl, h.nx hn hd hx, hof.bs⟩
/-- One number more. -/
theorem dw_app (h : Dw w0 w nb L v l) (z : Int) (hl : l.length ≤ 1000) : ∃ v' w', (∀ ty, (Builtin.append_ #[51, 51] ty #[v, .slice (some ⟨w.heap.size, 0, none⟩) 1 1]).run Try.prog (w.alloc (.cells #[.int .i64 z] 3)) = .ok v' w') ∧ Dw w0 w' nb L v' (l ++ [z]) := by
  have h1 : Dw w0 (w.alloc (.cells #[.int .i64 z] 3)) nb L v l := h.step ((Below.refl _ _).alloc (Nat.le_refl _) _)
  obtain ⟨v', w', hr, h2, h3, h4⟩ := Ax.Ro.app i64k h1.r ⟨w.heap.size, 0, none⟩ 1 [z] (by
    intro j u hu
    rw [Addr.add_lit, cell_of_row _ _ _ _ _ _ (heap_alloc_new w _)]
    simpa [i64c] using hu) (by simp; omega) h1.b.size
  obtain ⟨vN, hn, hd⟩ := h1.ex
  refine ⟨v', w', hr, ⟨vN, hn.keep fun k hk => h3.block k (hn.hi k hk) fun e => hd k e.symm hk, fun b hb hN => ?_⟩, Ax.grown_below h3 h1.b h1.b.size fun k hk => (h1.r.lt k hk).1, h2⟩
  rcases h4 with h5 | h5
  · exact hd b (by rw [← h5]; exact hb) hN
  · rw [hb] at h5
    have h6 : b = (w.alloc (.cells #[.int .i64 z] 3)).heap.size := Option.some.inj h5
    have := hn.hi b hN
    omega
end
/-- An append whose run is known. -/
theorem wpList_append_eq {o : Oper} {a : Act} {w w' : World} {ops : Array Oper} {rest : List Oper} {Q : Exit → Act → World → Prop} (hgd : o.guard = none) (t : TypeId) (s x : Operand) (ho : o.op = .call { callee := .builtin .append, args := #[s, x], argTypes := #[t, t] })
    (v u v' : Value) (hs : a.eval s = v) (hx : a.eval x = u) (hr : ∀ ty, (Builtin.append_ #[t, t] ty #[v, u]).run Try.prog w = .ok v' w') (h : wpList Try.prog ops Q rest (a.put o.dst v') w') : wpList Try.prog ops Q (o :: rest) a w := by
  refine wpList_plain hgd fun _ hK => ?_
  unfold Oper.wp execOp
  simp only [ho, resolve, invoke, builtin, Sem.run_bind, Sem.run_pure, Result.andThen_ok, List.map_toArray, List.map_cons, List.map_nil, hs, hx, hr]
  exact hK _ _ h
theorem d_one (wr : World) (a b : Int) (x : Int) : Cw ((wr.alloc (.cells #[.int .u8 x] 5)).alloc (.cells #[.int .i64 a, .int .i64 b, .slice (some ⟨wr.heap.size, 0, none⟩) 1 1] 25)).drew (wr.heap.size + 1) [.int .i64 a, .int .i64 b, .slice (some ⟨wr.heap.size, 0, none⟩) 1 1] 25 ∧ Bs ((wr.alloc (.cells #[.int .u8 x] 5)).alloc (.cells #[.int .i64 a, .int .i64 b, .slice (some ⟨wr.heap.size, 0, none⟩) 1 1] 25)).drew (.slice (some ⟨wr.heap.size, 0, none⟩) 1 1) [x] ∧ Below wr.heap.size wr ((wr.alloc (.cells #[.int .u8 x] 5)).alloc (.cells #[.int .i64 a, .int .i64 b, .slice (some ⟨wr.heap.size, 0, none⟩) 1 1] 25)).drew := by
  have hs := World.size_alloc wr (.cells #[.int .u8 x] 5)
  have c1 := Cw.new (wr.alloc (.cells #[.int .u8 x] 5)) [.int .i64 a, .int .i64 b, .slice (some ⟨wr.heap.size, 0, none⟩) 1 1] 25
  rw [hs] at c1
  have b0 : Bs (wr.alloc (.cells #[.int .u8 x] 5)) (.slice (some ⟨wr.heap.size, 0, none⟩) 1 1) [x] := Bs_of_block (zs := [x]) (heap_alloc_new wr _) (by simp [maxLen])
  have b1 := b0.below ((Below.refl _ _).alloc (Nat.le_refl _) (.cells #[.int .i64 a, .int .i64 b, .slice (some ⟨wr.heap.size, 0, none⟩) 1 1] 25)) (Nat.le_refl _)
  exact ⟨c1, (Sm.drewN _ 1).bs b1, (((Below.refl _ _).alloc (Nat.le_refl _) _).alloc (by omega) _).drew⟩
theorem d_two (wr : World) (a b : Int) (x : Int) : Cw ((wr.alloc (.cells #[.int .i64 a, .int .i64 b, .slice (some ⟨wr.heap.size + 1, 0, none⟩) 1 1] 25)).alloc (.cells #[.int .u8 x] 5)).drew wr.heap.size [.int .i64 a, .int .i64 b, .slice (some ⟨wr.heap.size + 1, 0, none⟩) 1 1] 25 ∧ Bs ((wr.alloc (.cells #[.int .i64 a, .int .i64 b, .slice (some ⟨wr.heap.size + 1, 0, none⟩) 1 1] 25)).alloc (.cells #[.int .u8 x] 5)).drew (.slice (some ⟨wr.heap.size + 1, 0, none⟩) 1 1) [x] ∧ Below wr.heap.size wr ((wr.alloc (.cells #[.int .i64 a, .int .i64 b, .slice (some ⟨wr.heap.size + 1, 0, none⟩) 1 1] 25)).alloc (.cells #[.int .u8 x] 5)).drew := by
  have hs := World.size_alloc wr (.cells #[.int .i64 a, .int .i64 b, .slice (some ⟨wr.heap.size + 1, 0, none⟩) 1 1] 25)
  have c1 := (Cw.new wr [.int .i64 a, .int .i64 b, .slice (some ⟨wr.heap.size + 1, 0, none⟩) 1 1] 25).alloc (.cells #[.int .u8 x] 5)
  have b0 : Bs ((wr.alloc (.cells #[.int .i64 a, .int .i64 b, .slice (some ⟨wr.heap.size + 1, 0, none⟩) 1 1] 25)).alloc (.cells #[.int .u8 x] 5)) (.slice (some ⟨(wr.alloc (.cells #[.int .i64 a, .int .i64 b, .slice (some ⟨wr.heap.size + 1, 0, none⟩) 1 1] 25)).heap.size, 0, none⟩) 1 1) [x] := Bs_of_block (zs := [x]) (heap_alloc_new _ _) (by simp [maxLen])
  rw [hs] at b0
  exact ⟨c1, (Sm.drewN _ 1).bs b0, (((Below.refl _ _).alloc (Nat.le_refl _) _).alloc (by omega) _).drew⟩
theorem dsend {l : List Int} {k : Nat} {z : Int} (hz : l[k]? = some z) (hk : k < 1024) : sendN (dsent l k) (dmk z k) = dsent l (k + 1) := by
  unfold sendN
  rw [if_neg (by rw [dsent_len]; omega), dsent_succ]
  simp [List.getD, hz]
theorem bs_one {w : World} {ao : Option Addr} {q c : Nat} {x : Int} (h : Bs w (.slice ao q c) [x]) : ∃ g off, ao = some ⟨g, off, none⟩ ∧ q = 1 ∧ w.cell? ⟨g, off, none⟩ = some (.int .u8 x) := by
  rcases h with ⟨h0, _⟩ | ⟨_, g, off, cap, hv, _, _, hc⟩
  · cases h0
  · simp only [Value.slice.injEq] at hv
    obtain ⟨rfl, rfl, rfl⟩ := hv
    exact ⟨g, off, rfl, rfl, by have := hc 0 (by simp); simpa using this⟩
def dz (l : List Int) (z : Int) : Mg := dmk (l.getD z.toNat 0) z.toNat
theorem dgd (z : Int) {i : Nat} (h : i < 256) : Gd (dmk z i) := ⟨fun x hx => by simp only [dmk, List.mem_cons, List.not_mem_nil, or_false] at hx; omega, by simp [dmk, maxLen]⟩
theorem dwant_next {l : List Int} {node z : Int} {k : Nat} (hz : l[k]? = some z) : dwant l node (k + 1) = if hitB node (dmk z k) then dwant l node k else dwant l node k ++ [(k : Int)] := by
  rw [dwant_succ]
  simp [List.getD, hz]
set_option maxRecDepth 20000 in
set_option maxHeartbeats 4000000 in
theorem drops_walk (a : Option Addr) (n cap : Nat) (l : List Int) (node : Int) (w : World) (hr : Ax.Rw w 1 i64c a n cap l) (hg : ∀ z ∈ l, -9223372036854775808 ≤ z ∧ z ≤ 9223372036854775807) :
    Calls Try.prog 8 #[.slice a n cap, .int .i64 node] w fun e w' => e = .returned (.bool true) ∧ Below w.heap.size w w' := by
  have CK := hid_into (fun (W : World) (hb : Below w.heap.size w W) => ln_known (w0 := w) (w := W) hb)
  have CN := hid_into (fun (W : World) (hb : Below w.heap.size w W) => ln_new w (w := W) hb)
  have hll := hr.len
  have HR := hid_into hr
  have HG := hid_into hg
  clear hr hg
  by_cases hn : (100 : Int) < (n : Int)
  · go_enter Try.func8, Try.ntmps8
    go_wp2_with (go_at_call 25; refine (CK.out _ (Below.refl _ _)).mono ?_; rintro e w2 ⟨rfl, hb⟩)
    go_ret
    exact ⟨rfl, hb⟩
  · have hn2 : n ≤ 100 := by omega
    have HLL := hid_into hll
    clear hll
    go_enter Try.func8, Try.ntmps8
    go_wp2_with (go_at_call 9; refine (CN.out _ (Below.refl _ _)).mono ?_; rintro e w1 ⟨nb, rfl, s1⟩)
    have s1' : Dw w w1 nb (dsent l 0) (.slice none 0 0) (dwant l node 0) := by
      obtain ⟨vN, hn⟩ := s1.ex
      exact ⟨⟨vN, hn, fun b hb => by cases hb⟩, s1.b, (Ax.Ro.nil w1 w.heap.size : Wn w1 w.heap.size (.slice none 0 0) [])⟩
    clear s1
    go_loopw [6, 7] (fun x y wr => ∃ (k : Nat) (ao : Option Addr) (q c : Nat), x = .slice ao q c ∧ y = .int .i64 (k : Int) ∧ k ≤ n ∧ Dw w wr nb (dsent l k) (.slice ao q c) (dwant l node k)) (fun _ y _ => n - (intOf y).toNat)
    case atStart => exact ⟨0, none, 0, 0, rfl, rfl, by omega, s1'⟩
    case round =>
      obtain ⟨k, wa, wq, wc, rfl, rfl, hk, st⟩ := hrel
      by_cases hlt : k < n
      · obtain ⟨z, hz⟩ : ∃ z, l[k]? = some z := ⟨_, List.getElem?_eq_getElem (by rw [HLL.out]; exact hlt)⟩
        obtain ⟨g, off, rfl, hc⟩ := int_at (HR.out.below st.b (Nat.le_refl _)) hz
        have hlt2 : (k : Int) < (n : Int) := by omega
        have hgl := World.block_lt_of_cell? wr _ hc
        have hk256 : (k : Int) < 256 := by omega
        have hand := and3 z
        have hand2 := and3 (z / 4)
        have HZ := hid_into hz
        clear hz
        go_upto_region 10 with fail
        go_cut [8] (fun mb wx => ∃ b gb, mb = .pointer (some ⟨b, 0, none⟩) ∧ Cw wx b [.int .i64 (z % 4), .int .i64 (z / 4 % 4), .slice (some ⟨gb, 0, none⟩) 1 1] 25 ∧ Bs wx (.slice (some ⟨gb, 0, none⟩) 1 1) [(k : Int)] ∧ Below wr.heap.size wr wx ∧ wr.heap.size ≤ b)
        case first =>
          as_aux_lemma =>
            go_region
            · obtain ⟨h1, h2, h3⟩ := d_one wr (z % 4) (z / 4 % 4) (k : Int)
              go_wp2_with fail
              go_meet
              exact ⟨_, _, rfl, h1, h2, h3, by omega⟩
            · obtain ⟨h1, h2, h3⟩ := d_two wr (z % 4) (z / 4 % 4) (k : Int)
              go_wp2_with fail
              go_meet
              exact ⟨_, _, rfl, h1, h2, h3, by omega⟩
        case rest =>
          rename World => W
          obtain ⟨b, gb, rfl, cb, hbs, hbw, hbl⟩ := hcut
          have hs := dw_send2 st hbw (dmk z k) hbs
          rw [dsend HZ.out (by omega)] at hs
          have hs := hid_into hs
          have hbwr : Hid (wr.heap.size ≤ b) := hbl
          have HNX := hid_into (dwant_next (node := node) HZ.out)
          have HWL := hid_into (dwant_len l node k)
          have hc0 := cb
          clear st hc hbs
          by_cases h1 : z % 4 = node
          · have hh : hitB node (dmk z k) = true := decide_eq_true (Or.inl h1)
            rw [hh, if_pos rfl] at HNX
            have r1 : (z % 4 != node) = false := by simp [h1]
            clear h1 hh
            go_wp2_with (first
              | (have := cb; refine wpList_load_rw rfl 25 (.tmp 8) rfl b _ _ _ (by rfl) cb Try.underlying25 rfl size25 ?_; clear cb)
              | (go_at_call 11; refine hs.out.mono ?_; rintro e w2 ⟨rfl, s2, hcc⟩; have c2 := hcc b _ _ hbwr.out hc0; have e0 := c2.cell 0; have e1 := c2.cell 1; simp only [List.getElem?_cons_zero, List.getElem?_cons_succ] at e0 e1))
            go_roundw
            case rel => exact ⟨k + 1, _, _, _, rfl, by go_num, by omega, by rw [HNX.out]; exact s2⟩
            case measure => simp [intOf]; omega
          · by_cases h2 : z / 4 % 4 = node
            · have hh : hitB node (dmk z k) = true := decide_eq_true (Or.inr h2)
              rw [hh, if_pos rfl] at HNX
              have r1 : (z % 4 != node) = true := by simp [h1]
              have r2 : (z / 4 % 4 != node) = false := by simp [h2]
              clear h1 h2 hh
              go_wp2_with (first
                | (have := cb; refine wpList_load_rw rfl 25 (.tmp 8) rfl b _ _ _ (by rfl) cb Try.underlying25 rfl size25 ?_; clear cb)
                | (go_at_call 11; refine hs.out.mono ?_; rintro e w2 ⟨rfl, s2, hcc⟩; have c2 := hcc b _ _ hbwr.out hc0; have e0 := c2.cell 0; have e1 := c2.cell 1; simp only [List.getElem?_cons_zero, List.getElem?_cons_succ] at e0 e1))
              go_roundw
              case rel => exact ⟨k + 1, _, _, _, rfl, by go_num, by omega, by rw [HNX.out]; exact s2⟩
              case measure => simp [intOf]; omega
            · have hh : hitB node (dmk z k) = false := decide_eq_false (fun h => by rcases h with h | h; exact h1 h; exact h2 h)
              rw [hh, if_neg (by decide)] at HNX
              have r1 : (z % 4 != node) = true := by simp [h1]
              have r2 : (z / 4 % 4 != node) = true := by simp [h2]
              clear h1 h2 hh
              go_wp2_with (first
                | (have := cb; refine wpList_load_rw rfl 25 (.tmp 8) rfl b _ _ _ (by rfl) cb Try.underlying25 rfl size25 ?_; clear cb)
                | (have := s3; refine wpList_append_eq (w' := w3) rfl 51 (.tmp 53) (.tmp 55) rfl _ _ (.slice ao' q' c') (by rfl) (by rfl) ?_ ?_; exact HA.out)
                | (go_at_call 11; refine hs.out.mono ?_; rintro e w2 ⟨rfl, s2, hcc⟩; have c2 := hcc b _ _ hbwr.out hc0; have e0 := c2.cell 0; have e1 := c2.cell 1; simp only [List.getElem?_cons_zero, List.getElem?_cons_succ] at e0 e1; obtain ⟨v', w3, hr3, s3⟩ := dw_app s2 (k : Int) (by have := HWL.out; omega); obtain ⟨ao', c', hv', _⟩ := Ax.Ro.form s3.r; obtain ⟨q', hq'⟩ : ∃ q', q' = (dwant l node k ++ [(k : Int)]).length := ⟨_, rfl⟩; rw [← hq'] at hv'; subst hv'; have HA := hid_into hr3; clear hr3 hq'))
              go_roundw
              case rel => exact ⟨k + 1, _, _, _, rfl, by go_num, by omega, by rw [HNX.out]; exact s3⟩
              case measure => simp [intOf]; omega
      · obtain rfl : n = k := by omega
        obtain ⟨M, hM⟩ : ∃ M, M = (dwant l node n).length := ⟨_, rfl⟩
        have hMn : M ≤ n := by rw [hM]; exact dwant_len l node n
        have hq : wq = M := by
          obtain ⟨ao', c', hv', _⟩ := Ax.Ro.form st.r
          simp only [Value.slice.injEq] at hv'
          rw [hM]; exact hv'.2.1
        subst hq
        have hD := dw_drop st node
        rw [dsent_len, dwant_drop, List.length_map, ← hM] at hD
        have HD : Hid (Calls Try.prog 22 #[.pointer (some ⟨nb, 0, none⟩), .int .i64 node] wr fun e w' => e = .returned (.int .i64 ((n : Int) - (wq : Int))) ∧ Dw w w' nb (((dwant l node n).map (dz l)).drop 0) (.slice wa wq wc) (dwant l node n)) := hD
        have HLN : Hid (∀ W i, Dw w W nb (((dwant l node n).map (dz l)).drop i) (.slice wa wq wc) (dwant l node n) → i = 0 → Calls Try.prog 24 #[.pointer (some ⟨nb, 0, none⟩)] W fun e w' => e = .returned (.int .i64 (wq : Int)) ∧ w' = W) := fun W i h hi => by
          have := dw_len h
          rw [hi, List.drop_zero, List.length_map, ← hM] at this
          exact this
        have HW : Hid (∀ i z, (dwant l node n)[i]? = some z → ∃ j : Nat, z = (j : Int) ∧ j < n) := fun i z h => dwant_at h
        have HML := hid_into hM
        clear hM hD st hk hlt
        generalize dwant l node n = D at *
        go_wp2_with (first
          | (go_at_call 22; refine HD.out.mono ?_; rintro e w2 ⟨rfl, s2⟩)
          | (go_at_call 24; refine (HLN.out _ _ s2 rfl).mono ?_; rintro e w3 ⟨rfl, hw⟩; replace hw := hw.symm; subst hw))
        go_loopw [9] (fun x wr => ∃ i : Nat, x = .int .i64 (i : Int) ∧ i ≤ wq ∧ Dw w wr nb ((D.map (dz l)).drop i) (.slice wa wq wc) D) (fun x _ => wq - (intOf x).toNat)
        case atStart => exact ⟨0, rfl, by omega, s2⟩
        case round =>
          obtain ⟨i, rfl, hi, st⟩ := hrel
          by_cases hlt : i < wq
          · obtain ⟨z, hz⟩ : ∃ z, D[i]? = some z := ⟨_, List.getElem?_eq_getElem (by rw [← HML.out]; exact hlt)⟩
            obtain ⟨j, rfl, hj⟩ := HW.out i z hz
            have hlt3 : (i : Int) < (wq : Int) := by omega
            have hdz : (D.map (dz l)).drop i = ⟨l.getD j 0 % 4, l.getD j 0 / 4 % 4, [(j : Int)]⟩ :: (D.map (dz l)).drop (i + 1) := by
              have h1 : (D.map (dz l))[i]? = some (dz l (j : Int)) := by rw [List.getElem?_map, hz]; rfl
              rw [(take_succ' h1).2]; rfl
            have hs : Hid (Calls Try.prog 15 #[.pointer (some ⟨nb, 0, none⟩), .int .i64 0] wr fun e w' => ∃ p q gb ob c, e = .returned (.tuple #[.agg #[.int .i64 p, .int .i64 q, .slice (some ⟨gb, ob, none⟩) 1 c], .bool true]) ∧ Dw w w' nb ((D.map (dz l)).drop (i + 1)) (.slice wa wq wc) D ∧ w'.cell? ⟨gb, ob, none⟩ = some (.int .u8 (j : Int))) := by
              refine (dw_give st (by rw [hdz]; simp) (fun m hm => by
                have hm := List.mem_of_mem_drop hm
                obtain ⟨t, ht, rfl⟩ := List.mem_map.1 hm
                obtain ⟨i', hi'⟩ := List.getElem?_of_mem ht
                obtain ⟨j', rfl, hj'⟩ := HW.out i' t hi'
                exact dgd _ (by show j' < 256; omega)) 0).mono ?_
              rintro e w' ⟨m, ao, q, c, hm, rfl, hl, hb⟩
              rw [hdz] at hm hl
              rw [give_first.2] at hl
              rw [give_first.1] at hm
              obtain rfl := Option.some.inj hm
              obtain ⟨gb, ob, rfl, rfl, hcell⟩ := bs_one hb
              exact ⟨_, _, gb, ob, c, rfl, hl, hcell⟩
            have HZ := hid_into hz
            have hj256 : (j : Int) < 256 := by omega
            clear hdz hz st
            go_wp2_with (first
              | (go_at_call 15; refine hs.out.mono ?_; rintro e w4 ⟨p', q', gb, ob, c4, rfl, s4, hc4⟩)
              | (refine wpList_alloc_row rfl 25 rfl [.int .i64 0, .int .i64 0, .slice none 0 0] zero25 ?_; intro w5 d5 hb5 hs5)
              | (have := d5; refine wpList_store_rw rfl 25 (.tmp 10) (.tmp 82) rfl w4.heap.size _ [.int .i64 p', .int .i64 q', .slice (some ⟨gb, ob, none⟩) 1 c4] _ (by rfl) (by rfl) d5 size25 rfl (msC_one _ _ _ _ _) ?_; intro w6 d6 ho6; have hb6 := ho6.belowTo hb5 (Nat.le_refl _); have s6 := s4.step hb6; have hc6 := (hb6.cell (p := ⟨gb, ob, none⟩) (World.block_lt_of_cell? w4 _ hc4)).trans hc4; have e2 := d6.cell 2; simp only [List.getElem?_cons_zero, List.getElem?_cons_succ] at e2; obtain ⟨gw, cw, hvw, hcw⟩ := Wn.at s6.r HZ.out; simp only [Value.slice.injEq] at hvw; obtain ⟨rfl, hqq, rfl⟩ := hvw; clear hqq d5 hc4 s4))
            go_quiet (fail)
            have s7 := fun q => s6.step (Sm.below (Sm.drewN w6 q) w6.heap.size)
            go_wp2_with fail
            go_roundw
            case rel => exact ⟨i + 1, by go_num, by omega, s7 _⟩
            case measure => simp [intOf]; omega
          · obtain rfl : wq = i := by omega
            go_wp2_with (go_at_call 25; refine (CK.out _ st.b).mono ?_; rintro e w5 ⟨rfl, hb⟩)
            go_ret
            exact ⟨rfl, hb⟩
end Go.Proofs.Ytnfmhcljncdkgaa
