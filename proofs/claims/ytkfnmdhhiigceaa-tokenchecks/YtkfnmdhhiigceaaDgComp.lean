/-
  Two digests, reckoned by the kernel: a way of reckoning that goes forward word by word, and that it is SHA-256 (shaN).
-/
import Derived.Test.YtkfnmdhhiigceaaDgSpec
namespace Go.Proofs.Ytkfnmdhhiigceaa.Dg

/-- f at n; n is reckoned first. -/
def fc {α : Type} (n : Nat) (f : Nat → α) : α := Nat.rec (f 0) (fun m _ => f (Nat.succ m)) n
theorem fc_eq {α : Type} (n : Nat) (f : Nat → α) : fc n f = f n := by cases n <;> rfl

/-- The rounds, with the sixteen words that the next one is made of. -/
def go8 : List Nat → S8 → List Nat → S8
  | [], s, _ => s
  | k :: ks, s, W =>
    fc (t1N s.e s.f s.g s.h k (W.getD 0 0)) fun t =>
    fc ((t + t2N s.a s.b s.c) % 4294967296) fun a =>
    fc ((s.d + t) % 4294967296) fun e =>
    fc (nextW W 16) fun x => go8 ks ⟨a, s.a, s.b, s.c, e, s.e, s.f, s.g⟩ (W.drop 1 ++ [x])

theorem getD_drop (W : List Nat) (n i : Nat) : (W.drop n).getD i 0 = W.getD (n + i) 0 := by simp [List.getD]
theorem growW_get (W : List Nat) (n m i : Nat) (h : i < W.length + n) : (growW W (n + m)).getD i 0 = (growW W n).getD i 0 := by
  induction m with
  | zero => rfl
  | succ m ih =>
    rw [← ih]
    show (growW W (n + m) ++ _).getD i 0 = _
    have hl := growW_length W (n + m)
    simp only [List.getD]
    rw [List.getElem?_append_left (by omega)]
theorem go8_eq (K W : List Nat) (hW : W.length = 16) (s : S8) : ∀ (ks : List Nat) (n : Nat) (m : Nat), n + ks.length = m → m ≤ K.length → K.drop n = ks ++ K.drop m →
    go8 ks (roundsN K (growW W (m + 16)) n s) ((growW W n).drop n) = roundsN K (growW W (m + 16)) m s
  | [], n, m, h, _, _ => by
    obtain rfl : n = m := by simpa using h
    rfl
  | k :: ks, n, m, h, hm, hd => by
    have hk : K.getD n 0 = k := by
      have := congrArg (fun l => l.getD 0 0) hd
      simpa [List.getD] using this
    have hd2 : K.drop (n + 1) = ks ++ K.drop m := by
      have := congrArg (List.drop 1) hd
      simpa using this
    have hl := growW_length W n
    have ih := go8_eq K W hW s ks (n + 1) m (by simp at h; omega) hm hd2
    rw [← ih]
    simp only [go8, fc_eq]
    have e1 : ((growW W n).drop n).getD 0 0 = (growW W (m + 16)).getD n 0 := by
      rw [getD_drop, show m + 16 = n + (m + 16 - n) by simp at h; omega, growW_get W n _ n (by omega)]; rfl
    have e2 : ((growW W n).drop n).drop 1 ++ [nextW ((growW W n).drop n) 16] = (growW W (n + 1)).drop (n + 1) := by
      show _ = (growW W n ++ [nextW (growW W n) (n + 16)]).drop (n + 1)
      rw [List.drop_append_of_le_length (by omega), List.drop_drop]
      congr 2
      unfold nextW
      simp only [getD_drop]
      rw [show n + 16 - 16 = n + (16 - 16) by omega, show n + 16 - 15 = n + (16 - 15) by omega, show n + 16 - 7 = n + (16 - 7) by omega, show n + 16 - 2 = n + (16 - 2) by omega]
    rw [e1, e2]
    rw [show roundsN K (growW W (m + 16)) (n + 1) s = roundN (roundsN K (growW W (m + 16)) n s) (K.getD n 0) ((growW W (m + 16)).getD n 0) from rfl, hk]
    rfl
theorem roundsN_congr (K W W' : List Nat) (s : S8) (n : Nat) (h : ∀ i, i < n → W.getD i 0 = W'.getD i 0) : roundsN K W n s = roundsN K W' n s := by
  induction n with
  | zero => rfl
  | succ n ih =>
    show roundN _ _ _ = roundN _ _ _
    rw [ih (fun i hi => h i (by omega)), h n (by omega)]
def fcL {α : Type} : List Nat → (List Nat → α) → α
  | [], f => f []
  | x :: xs, f => fc x fun y => fcL xs fun ys => f (y :: ys)
theorem fcL_eq {α : Type} : ∀ (l : List Nat) (f : List Nat → α), fcL l f = f l
  | [], _ => rfl
  | x :: xs, f => by simp only [fcL, fc_eq, fcL_eq xs]
def fc8 {α : Type} (s : S8) (f : S8 → α) : α :=
  fc s.a fun a => fc s.b fun b => fc s.c fun c => fc s.d fun d => fc s.e fun e => fc s.f fun x => fc s.g fun g => fc s.h fun h => f ⟨a, b, c, d, e, x, g, h⟩
theorem fc8_eq {α : Type} (s : S8) (f : S8 → α) : fc8 s f = f s := by simp only [fc8, fc_eq]
def blockC {α : Type} (s : S8) (bs : List Int) (f : S8 → α) : α := fcL (wordsN bs 16) fun W => fc8 (s.add (go8 kN s W)) f
theorem go8_all (s : S8) (W : List Nat) (hW : W.length = 16) : go8 kN s W = roundsN kN (growW W 48) 64 s := by
  have h := go8_eq kN W hW s kN 0 64 rfl (by decide) rfl
  have e0 : ∀ V, roundsN kN V 0 s = s := fun _ => rfl
  have e1 : (growW W 0).drop 0 = W := rfl
  rw [e0, e1] at h
  rw [h]
  generalize hn : (64 : Nat) = n
  refine roundsN_congr _ _ _ _ _ (fun i hi => ?_)
  have := growW_get W 48 32 i (by omega)
  subst hn
  exact this
theorem blockC_eq {α : Type} (s : S8) (bs : List Int) (f : S8 → α) : blockC s bs f = f (blockN s bs) := by
  simp only [blockC, fcL_eq, fc8_eq]
  rw [go8_all s _ (wordsN_length bs 16)]
  rfl
def absorbC {α : Type} : Nat → S8 → List Int → (S8 → α) → α
  | 0, s, _, f => f s
  | n + 1, s, bs, f => blockC s (bs.take 64) fun t => absorbC n t (bs.drop 64) f
theorem absorbC_eq {α : Type} : ∀ (n : Nat) (s : S8) (bs : List Int) (f : S8 → α), absorbC n s bs f = f (absorb n s bs)
  | 0, _, _, _ => rfl
  | n + 1, s, bs, f => by
    rw [absorbC, blockC_eq, absorbC_eq n, Nat.add_comm n 1, absorb_add 1 n]
    rfl
def shaC (bs : List Int) : List Int :=
  absorbC (bs.length / 64) s0N bs fun s => absorbC ((endOf (bs.drop (64 * (bs.length / 64))) bs.length).length / 64) s (endOf (bs.drop (64 * (bs.length / 64))) bs.length) fun t => t.hash
theorem shaC_eq (bs : List Int) : shaN bs = shaC bs := by simp only [shaC, absorbC_eq, shaN]

def abcN : List Int := [0xba, 0x78, 0x16, 0xbf, 0x8f, 0x01, 0xcf, 0xea, 0x41, 0x41, 0x40, 0xde, 0x5d, 0xae, 0x22, 0x23, 0xb0, 0x03, 0x61, 0xa3, 0x96, 0x17, 0x7a, 0x9c, 0xb4, 0x10, 0xff, 0x61, 0xf2, 0x00, 0x15, 0xad]
theorem sha_abc : shaN [97, 98, 99] = abcN := by rw [shaC_eq]; decide +kernel
def foxT : List Int := [84, 104, 101, 32, 113, 117, 105, 99, 107, 32, 98, 114, 111, 119, 110, 32, 102, 111, 120, 32, 106, 117, 109, 112, 115, 32, 111, 118, 101, 114, 32, 116, 104, 101, 32, 108, 97, 122, 121, 32, 100, 111, 103]
def foxI : List Int := [122, 208, 78, 90, 161, 158, 238, 114, 24, 44, 154, 117, 172, 113, 186, 19, 131, 60, 83, 252, 77, 200, 200, 21, 206, 183, 148, 109, 86, 46, 54, 49]
def foxN : List Int := [247, 188, 131, 244, 48, 83, 132, 36, 177, 50, 152, 230, 170, 111, 177, 67, 239, 77, 89, 161, 73, 70, 23, 89, 151, 71, 157, 188, 45, 26, 60, 216]
theorem fox_inner : shaN (xorL 54 (keyN [107, 101, 121]) ++ foxT) = foxI := by rw [shaC_eq]; decide +kernel
theorem fox_outer : shaN (xorL 92 (keyN [107, 101, 121]) ++ foxI) = foxN := by rw [shaC_eq]; decide +kernel
theorem mac_fox : macN [107, 101, 121] foxT = foxN := by unfold macN; rw [fox_inner, fox_outer]
theorem hex_abc : hexL abcN = [98, 97, 55, 56, 49, 54, 98, 102, 56, 102, 48, 49, 99, 102, 101, 97, 52, 49, 52, 49, 52, 48, 100, 101, 53, 100, 97, 101, 50, 50, 50, 51, 98, 48, 48, 51, 54, 49, 97, 51, 57, 54, 49, 55, 55, 97, 57, 99, 98, 52, 49, 48, 102, 102, 54, 49, 102, 50, 48, 48, 49, 53, 97, 100] := by decide +kernel
theorem hex_fox : hexL foxN = [102, 55, 98, 99, 56, 51, 102, 52, 51, 48, 53, 51, 56, 52, 50, 52, 98, 49, 51, 50, 57, 56, 101, 54, 97, 97, 54, 102, 98, 49, 52, 51, 101, 102, 52, 100, 53, 57, 97, 49, 52, 57, 52, 54, 49, 55, 53, 57, 57, 55, 52, 55, 57, 100, 98, 99, 50, 100, 49, 97, 51, 99, 100, 56] := by decide +kernel
theorem foxT_byt : Byt foxT := by unfold Byt foxT; decide
theorem abc_byt : Byt [97, 98, 99] := by unfold Byt; decide
theorem key_byt : Byt [107, 101, 121] := by unfold Byt; decide
end Go.Proofs.Ytkfnmdhhiigceaa.Dg
