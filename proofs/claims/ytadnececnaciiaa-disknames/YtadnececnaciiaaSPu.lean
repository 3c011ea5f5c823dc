/-
  SHA-256 as plain mathematics: words of 32 bits as the program holds them, a block's words, the rounds, the bytes of a state, the filling. No condition.
-/
import Derived.Test.YtadnececnaciiaaRows
import Derived.Test.YtadnececnaciiaaWord
import Derived.WalkKit
import Derived.WalkSmall
import Derived.Laws.Bits64b
import Derived.WalkSpells
namespace Go.Proofs.Ytadnececnaciiaa
set_option linter.unusedVariables false
open Go.RowKit

theorem W_tn (a : Wd) : (W a).toNat = a.toNat := by unfold W; simp
theorem W_and (a b : Wd) : bits .and .u32 (W a) (W b) = W (a &&& b) := by
  have h := u32_and (W a) (W b) (W_nn a) (W_lt a) (W_nn b) (W_lt b)
  rw [h]; unfold W; rw [BitVec.toNat_and]; simp
theorem W_or (a b : Wd) : bits .or .u32 (W a) (W b) = W (a ||| b) := by
  have h := u32_or (W a) (W b) (W_nn a) (W_lt a) (W_nn b) (W_lt b)
  rw [h]; unfold W; rw [BitVec.toNat_or]; simp
theorem W_add (a b : Wd) : (W a + W b) % (4294967296 : Int) = W (a + b) := by
  unfold W; rw [BitVec.toNat_add]; omega
theorem W_shr (a : Wd) (n : Nat) : W a / (2 : Int) ^ n = W (a >>> n) := by
  unfold W; rw [BitVec.toNat_ushiftRight, Nat.shiftRight_eq_div_pow, Int.natCast_ediv, Int.natCast_pow]; rfl
theorem W_shl (a : Wd) (n : Nat) : W a * (2 : Int) ^ n % (4294967296 : Int) = W (a <<< n) := by
  unfold W; rw [BitVec.toNat_shiftLeft, Nat.shiftLeft_eq, Int.natCast_emod, Int.natCast_mul, Int.natCast_pow]; rfl
def rot (n : Nat) (x : Wd) : Wd := (x >>> n) ||| (x <<< (32 - n))
structure St where
  a : Wd
  b : Wd
  c : Wd
  d : Wd
  e : Wd
  f : Wd
  g : Wd
  h : Wd
def kk : List Nat := [0x428a2f98, 0x71374491, 0xb5c0fbcf, 0xe9b5dba5, 0x3956c25b, 0x59f111f1, 0x923f82a4, 0xab1c5ed5,
    0xd807aa98, 0x12835b01, 0x243185be, 0x550c7dc3, 0x72be5d74, 0x80deb1fe, 0x9bdc06a7, 0xc19bf174,
    0xe49b69c1, 0xefbe4786, 0x0fc19dc6, 0x240ca1cc, 0x2de92c6f, 0x4a7484aa, 0x5cb0a9dc, 0x76f988da,
    0x983e5152, 0xa831c66d, 0xb00327c8, 0xbf597fc7, 0xc6e00bf3, 0xd5a79147, 0x06ca6351, 0x14292967,
    0x27b70a85, 0x2e1b2138, 0x4d2c6dfc, 0x53380d13, 0x650a7354, 0x766a0abb, 0x81c2c92e, 0x92722c85,
    0xa2bfe8a1, 0xa81a664b, 0xc24b8b70, 0xc76c51a3, 0xd192e819, 0xd6990624, 0xf40e3585, 0x106aa070,
    0x19a4c116, 0x1e376c08, 0x2748774c, 0x34b0bcb5, 0x391c0cb3, 0x4ed8aa4a, 0x5b9cca4f, 0x682e6ff3,
    0x748f82ee, 0x78a5636f, 0x84c87814, 0x8cc70208, 0x90befffa, 0xa4506ceb, 0xbef9a3f7, 0xc67178f2]
def ks (i : Nat) : Wd := BitVec.ofNat 32 (kk.getD i 0)
def s0 (x : Wd) : Wd := rot 7 x ^^^ rot 18 x ^^^ (x >>> 3)
def s1 (x : Wd) : Wd := rot 17 x ^^^ rot 19 x ^^^ (x >>> 10)
/-- word: the word of four bytes -/
def wd4 (bs : List Int) (i : Nat) : Wd := BitVec.ofNat 32 ((bs.getD (4*i) 0).toNat * 16777216 + (bs.getD (4*i+1) 0).toNat * 65536 + (bs.getD (4*i+2) 0).toNat * 256 + (bs.getD (4*i+3) 0).toNat)
/-- One word more. -/
def nxt (bs : List Int) (l : List Wd) : Wd := if l.length < 16 then wd4 bs l.length else l.getD (l.length - 16) 0 + s0 (l.getD (l.length - 15) 0) + l.getD (l.length - 7) 0 + s1 (l.getD (l.length - 2) 0)
def ext (bs : List Int) (l : List Wd) : List Wd := l ++ [nxt bs l]
def spr (bs : List Int) : Nat → List Wd
  | 0 => []
  | i + 1 => ext bs (spr bs i)
def rnd (s : St) (k w : Wd) : St :=
  let t := s.h + (rot 6 s.e ^^^ rot 11 s.e ^^^ rot 25 s.e) + ((s.e &&& s.f) ^^^ (~~~ s.e &&& s.g)) + k + w
  let u := (rot 2 s.a ^^^ rot 13 s.a ^^^ rot 22 s.a) + ((s.a &&& s.b) ^^^ (s.a &&& s.c) ^^^ (s.b &&& s.c))
  ⟨t + u, s.a, s.b, s.c, s.d + t, s.e, s.f, s.g⟩
def rnds (s : St) (ws : List Wd) : Nat → St
  | 0 => s
  | i + 1 => rnd (rnds s ws i) (ks i) (ws.getD i 0)
def St.add (s t : St) : St := ⟨s.a + t.a, s.b + t.b, s.c + t.c, s.d + t.d, s.e + t.e, s.f + t.f, s.g + t.g, s.h + t.h⟩
def blk (s : St) (bs : List Int) : St := s.add (rnds s (spr bs 64) 64)
def st0 : St := ⟨0x6a09e667, 0xbb67ae85, 0x3c6ef372, 0xa54ff53a, 0x510e527f, 0x9b05688c, 0x1f83d9ab, 0x5be0cd19⟩
def St.words (s : St) : List Wd := [s.a, s.b, s.c, s.d, s.e, s.f, s.g, s.h]
def b4 (x : Wd) : List Int := [((x >>> 24).toNat % 256 : Nat), ((x >>> 16).toNat % 256 : Nat), ((x >>> 8).toNat % 256 : Nat), (x.toNat % 256 : Nat)]
def St.bytes (s : St) : List Int := s.words.flatMap b4
def fill (n : Nat) : List Int := 128 :: (List.replicate ((128 - n % 64 - 9) % 64) 0 ++ b4 (BitVec.ofNat 32 (8 * n / 4294967296)) ++ b4 (BitVec.ofNat 32 (8 * n)))

theorem W_rot (a : Wd) (n m : Nat) (h : n + m = 32) : bits .or .u32 (W a * (2 : Int) ^ m % (4294967296 : Int)) (W a / (2 : Int) ^ n) = W (rot n a) := by
  rw [W_shl, W_shr, W_or, rot, BitVec.or_comm, show 32 - n = m from by omega]
/-- What a hasher comes to: one byte more. -/
def sbyte (p : St × List Int) (x : Int) : St × List Int := if p.2.length = 63 then (blk p.1 (p.2 ++ [x]), []) else (p.1, p.2 ++ [x])
def shz (p : St × List Int) (xs : List Int) : St × List Int := xs.foldl sbyte p
theorem shz_app (p : St × List Int) (xs ys : List Int) : shz p (xs ++ ys) = shz (shz p xs) ys := by unfold shz; rw [List.foldl_append]
theorem shz_short (s : St) (xs : List Int) : ∀ held : List Int, held.length + xs.length < 64 → shz (s, held) xs = (s, held ++ xs) := by
  induction xs with
  | nil => intro held _; simp [shz]
  | cons x xs ih =>
    intro held h
    simp only [List.length_cons] at h
    show shz (sbyte (s, held) x) xs = _
    rw [show sbyte (s, held) x = (s, held ++ [x]) from if_neg (by show ¬ held.length = 63; omega), ih _ (by simp; omega)]
    simp
theorem shz_full (s : St) (held xs : List Int) (h : held.length + xs.length = 64) (h0 : held.length < 64) : shz (s, held) xs = (blk s (held ++ xs), []) := by
  rcases List.eq_nil_or_concat xs with rfl | ⟨ys, x, rfl⟩
  · simp at h; omega
  · simp only [List.concat_eq_append, List.length_append, List.length_cons, List.length_nil] at h ⊢
    rw [shz_app, shz_short s ys held (by omega)]
    show sbyte (s, held ++ ys) x = _
    rw [show sbyte (s, held ++ ys) x = (blk s (held ++ ys ++ [x]), []) from if_pos (by show (held ++ ys).length = 63; simp; omega), List.append_assoc]
theorem shz_len (p : St × List Int) (xs : List Int) (h : p.2.length < 64) : (shz p xs).2.length = (p.2.length + xs.length) % 64 := by
  induction xs generalizing p with
  | nil => show p.2.length = _; simp; omega
  | cons x xs ih =>
    show (shz (sbyte p x) xs).2.length = _
    by_cases h1 : p.2.length = 63
    · have e : sbyte p x = (blk p.1 (p.2 ++ [x]), []) := if_pos h1
      rw [ih _ (by rw [e]; simp), e]; simp; omega
    · have e : sbyte p x = (p.1, p.2 ++ [x]) := if_neg h1
      rw [ih _ (by rw [e]; simp; omega), e]; simp; omega
/-- The digest of a hasher that has taken n bytes. -/
def dgs (p : St × List Int) (n : Nat) : List Int := (shz p (fill n)).1.bytes
/-- The digest of bytes. -/
def sha (xs : List Int) : List Int := dgs (shz (st0, []) xs) xs.length
theorem fill_len (n : Nat) : (n + (fill n).length) % 64 = 0 := by
  have : (fill n).length = 1 + (128 - n % 64 - 9) % 64 + 8 := by simp [fill, b4]; omega
  rw [this]; omega
theorem sha_none : sha [] = [227, 176, 196, 66, 152, 252, 28, 20, 154, 251, 244, 200, 153, 111, 185, 36, 39, 174, 65, 228, 100, 155, 147, 76, 164, 149, 153, 27, 120, 82, 184, 85] := by decide +kernel
theorem sha_abc : sha [97, 98, 99] = [186, 120, 22, 191, 143, 1, 207, 234, 65, 65, 64, 222, 93, 174, 34, 35, 176, 3, 97, 163, 150, 23, 122, 156, 180, 16, 255, 97, 242, 0, 21, 173] := by decide +kernel
end Go.Proofs.Ytadnececnaciiaa
