/-
  Plain mathematics for the laws of package leb: numbers as groups of seven bits, signs, and how many bits a number has. No condition of its own; it imports nothing of the program.
  Plain mathematics for the laws of package leb: what bytes begin with, read as a number in its shortest form. No condition of its own; it imports nothing of the program.
  What leb.Size and math/bits.Len64 answer, called with whatever numbers of 64 bits. Condition: the slice can be read, and holds at most 2^50 numbers.
  Rows of integers in memory that a call made itself: what is read there, what a store leaves. No condition of its own.
  Bytes in memory of one's own: nil, or a block; a law for append onto them that also says which memory may have changed. It speaks of every program. Condition: what comes out takes at most 2^47 bytes.
  What the methods of pack's 'trouble' answer, called with the place of one error's number in memory. Condition: that place can be read and written.
  A pack Reader in memory, as plain data: its bytes, its first error, its place. What Err, ready, over, Clone, NewReader and named answer. Condition: the slice can be read, and its length is one that a machine has.
-/
import Derived.Test.YtfbbaodhlniiiaaRows
import Derived.WalkKit
import Derived.WalkSmall
import Derived.Laws.Bits64b
import Derived.WalkSpells
import Derived.Deep.Light
import Derived.Laws.CopyOwn
import Derived.Below
import Derived.Laws.AppendOwnNone
import Derived.Maps.AppendAt
import Derived.OwnWalk
import Derived.BigQuiet
import Derived.Deep.QuietTactic
namespace Go.Proofs.Ytfbbaodhlniiiaa
set_option linter.unusedVariables false

/-- A number with a sign as one without. -/
def zig (a : Int) : Int := if 0 ≤ a then 2 * a else -2 * a - 1
/-- And back. -/
def zag (u : Int) : Int := if u % 2 = 0 then u / 2 else - (u / 2) - 1

theorem zig_bd (a : Int) (h1 : -9223372036854775808 ≤ a) (h2 : a ≤ 9223372036854775807) : 0 ≤ zig a ∧ zig a < 18446744073709551616 := by
  unfold zig; split <;> omega
theorem zag_bd (u : Int) (h1 : 0 ≤ u) (h2 : u < 18446744073709551616) : -9223372036854775808 ≤ zag u ∧ zag u ≤ 9223372036854775807 := by
  unfold zag; split <;> omega
theorem zag_zig (a : Int) : zag (zig a) = a := by
  unfold zig zag; split <;> split <;> omega
theorem zig_zag (u : Int) (h : 0 ≤ u) : zig (zag u) = u := by
  unfold zig zag; split <;> split <;> omega

/-- How many bits a number below 256 has. -/
def bl8 (x : Int) : Int :=
  if x < 1 then 0 else if x < 2 then 1 else if x < 4 then 2 else if x < 8 then 3 else if x < 16 then 4 else if x < 32 then 5 else if x < 64 then 6 else if x < 128 then 7 else 8
def bl16 (x : Int) : Int := if 256 ≤ x then 8 + bl8 (x / 256) else bl8 x
def bl32 (x : Int) : Int := if 65536 ≤ x then 16 + bl16 (x / 65536) else bl16 x
/-- How many bits a number below 2^64 has. -/
def bl64 (x : Int) : Int := if 4294967296 ≤ x then 32 + bl32 (x / 4294967296) else bl32 x

/-- What is asked of a count of bits. -/
def IsBl (m : Nat) (b : Int) (k : Nat) : Prop := ∃ n : Nat, b = n ∧ n ≤ k ∧ m < 2 ^ n ∧ (1 ≤ m → 1 ≤ n ∧ 2 ^ (n - 1) ≤ m)
theorem bl8_is (m : Nat) (h : m < 256) : IsBl m (bl8 m) 8 := by
  unfold bl8
  repeat' split
  · exact ⟨0, rfl, by omega, by omega, by omega⟩
  · exact ⟨1, rfl, by omega, by omega, by omega⟩
  · exact ⟨2, rfl, by omega, by omega, by omega⟩
  · exact ⟨3, rfl, by omega, by omega, by omega⟩
  · exact ⟨4, rfl, by omega, by omega, by omega⟩
  · exact ⟨5, rfl, by omega, by omega, by omega⟩
  · exact ⟨6, rfl, by omega, by omega, by omega⟩
  · exact ⟨7, rfl, by omega, by omega, by omega⟩
  · exact ⟨8, rfl, by omega, by omega, by omega⟩
theorem isBl_up (m j k : Nat) (b : Int) (hm : 2 ^ j ≤ m) (h : IsBl (m / 2 ^ j) b k) : IsBl m (j + b) (j + k) := by
  obtain ⟨n, rfl, hn, hlt, hle⟩ := h
  have h1 : 1 ≤ m / 2 ^ j := (Nat.le_div_iff_mul_le (Nat.two_pow_pos j)).2 (by omega)
  obtain ⟨hn1, hp⟩ := hle h1
  refine ⟨j + n, by omega, by omega, ?_, fun _ => ⟨by omega, ?_⟩⟩
  · rw [Nat.pow_add, Nat.mul_comm]; exact (Nat.div_lt_iff_lt_mul (Nat.two_pow_pos j)).1 hlt
  · rw [show j + n - 1 = (n - 1) + j from by omega, Nat.pow_add]; exact (Nat.le_div_iff_mul_le (Nat.two_pow_pos j)).1 hp
theorem isBl_wide {m k l : Nat} {b : Int} (h : IsBl m b k) (hl : k ≤ l) : IsBl m b l := by
  obtain ⟨n, a, c, d⟩ := h; exact ⟨n, a, by omega, d⟩
theorem bl16_is (m : Nat) (h : m < 65536) : IsBl m (bl16 m) 16 := by
  unfold bl16
  split
  · have := isBl_up m 8 8 (bl8 ((m / 256 : Nat))) (by omega) (bl8_is _ (by omega))
    simpa using this
  · exact isBl_wide (bl8_is m (by omega)) (by omega)
theorem bl32_is (m : Nat) (h : m < 4294967296) : IsBl m (bl32 m) 32 := by
  unfold bl32
  split
  · have := isBl_up m 16 16 (bl16 ((m / 65536 : Nat))) (by omega) (bl16_is _ (by omega))
    simpa using this
  · exact isBl_wide (bl16_is m (by omega)) (by omega)
theorem bl64_is (m : Nat) (h : m < 18446744073709551616) : IsBl m (bl64 m) 64 := by
  unfold bl64
  split
  · have := isBl_up m 32 32 (bl32 ((m / 4294967296 : Nat))) (by omega) (bl32_is _ (by omega))
    simpa using this
  · exact isBl_wide (bl32_is m (by omega)) (by omega)

/-- One where v has come to c, else nothing. -/
def st (c v : Int) : Nat := if c ≤ v then 1 else 0
theorem st_le (c v : Int) : st c v ≤ 1 := by unfold st; split <;> omega
theorem st_mono (c v w : Int) (h : v ≤ w) : st c v ≤ st c w := by unfold st; split <;> split <;> omega
theorem st_yes {c v : Int} (h : c ≤ v) : st c v = 1 := if_pos h
theorem st_no {c v : Int} (h : v < c) : st c v = 0 := if_neg (by omega)
/-- How many groups of seven bits a number below 2^64 has. -/
def sz (v : Int) : Nat := 1 + st 128 v + st 16384 v + st 2097152 v + st 268435456 v + st 34359738368 v + st 4398046511104 v + st 562949953421312 v + st 72057594037927936 v + st 9223372036854775808 v
theorem sz_bd (v : Int) : 1 ≤ sz v ∧ sz v ≤ 10 := by
  unfold sz
  have := st_le 128 v
  have := st_le 16384 v
  have := st_le 2097152 v
  have := st_le 268435456 v
  have := st_le 34359738368 v
  have := st_le 4398046511104 v
  have := st_le 562949953421312 v
  have := st_le 72057594037927936 v
  have := st_le 9223372036854775808 v
  omega
theorem sz_mono (v w : Int) (h : v ≤ w) : sz v ≤ sz w := by
  unfold sz
  have := st_mono 128 v w h
  have := st_mono 16384 v w h
  have := st_mono 2097152 v w h
  have := st_mono 268435456 v w h
  have := st_mono 34359738368 v w h
  have := st_mono 4398046511104 v w h
  have := st_mono 562949953421312 v w h
  have := st_mono 72057594037927936 v w h
  have := st_mono 9223372036854775808 v w h
  omega
theorem sz_1 (v : Int) (h2 : v < 128) : sz v = 1 := by
  unfold sz
  rw [st_no (c := 128) (by omega), st_no (c := 16384) (by omega), st_no (c := 2097152) (by omega), st_no (c := 268435456) (by omega), st_no (c := 34359738368) (by omega), st_no (c := 4398046511104) (by omega), st_no (c := 562949953421312) (by omega), st_no (c := 72057594037927936) (by omega), st_no (c := 9223372036854775808) (by omega)]
theorem sz_2 (v : Int) (h1 : 128 ≤ v) (h2 : v < 16384) : sz v = 2 := by
  unfold sz
  rw [st_yes (c := 128) (by omega), st_no (c := 16384) (by omega), st_no (c := 2097152) (by omega), st_no (c := 268435456) (by omega), st_no (c := 34359738368) (by omega), st_no (c := 4398046511104) (by omega), st_no (c := 562949953421312) (by omega), st_no (c := 72057594037927936) (by omega), st_no (c := 9223372036854775808) (by omega)]
theorem sz_3 (v : Int) (h1 : 16384 ≤ v) (h2 : v < 2097152) : sz v = 3 := by
  unfold sz
  rw [st_yes (c := 128) (by omega), st_yes (c := 16384) (by omega), st_no (c := 2097152) (by omega), st_no (c := 268435456) (by omega), st_no (c := 34359738368) (by omega), st_no (c := 4398046511104) (by omega), st_no (c := 562949953421312) (by omega), st_no (c := 72057594037927936) (by omega), st_no (c := 9223372036854775808) (by omega)]
theorem sz_4 (v : Int) (h1 : 2097152 ≤ v) (h2 : v < 268435456) : sz v = 4 := by
  unfold sz
  rw [st_yes (c := 128) (by omega), st_yes (c := 16384) (by omega), st_yes (c := 2097152) (by omega), st_no (c := 268435456) (by omega), st_no (c := 34359738368) (by omega), st_no (c := 4398046511104) (by omega), st_no (c := 562949953421312) (by omega), st_no (c := 72057594037927936) (by omega), st_no (c := 9223372036854775808) (by omega)]
theorem sz_5 (v : Int) (h1 : 268435456 ≤ v) (h2 : v < 34359738368) : sz v = 5 := by
  unfold sz
  rw [st_yes (c := 128) (by omega), st_yes (c := 16384) (by omega), st_yes (c := 2097152) (by omega), st_yes (c := 268435456) (by omega), st_no (c := 34359738368) (by omega), st_no (c := 4398046511104) (by omega), st_no (c := 562949953421312) (by omega), st_no (c := 72057594037927936) (by omega), st_no (c := 9223372036854775808) (by omega)]
theorem sz_6 (v : Int) (h1 : 34359738368 ≤ v) (h2 : v < 4398046511104) : sz v = 6 := by
  unfold sz
  rw [st_yes (c := 128) (by omega), st_yes (c := 16384) (by omega), st_yes (c := 2097152) (by omega), st_yes (c := 268435456) (by omega), st_yes (c := 34359738368) (by omega), st_no (c := 4398046511104) (by omega), st_no (c := 562949953421312) (by omega), st_no (c := 72057594037927936) (by omega), st_no (c := 9223372036854775808) (by omega)]
theorem sz_7 (v : Int) (h1 : 4398046511104 ≤ v) (h2 : v < 562949953421312) : sz v = 7 := by
  unfold sz
  rw [st_yes (c := 128) (by omega), st_yes (c := 16384) (by omega), st_yes (c := 2097152) (by omega), st_yes (c := 268435456) (by omega), st_yes (c := 34359738368) (by omega), st_yes (c := 4398046511104) (by omega), st_no (c := 562949953421312) (by omega), st_no (c := 72057594037927936) (by omega), st_no (c := 9223372036854775808) (by omega)]
theorem sz_8 (v : Int) (h1 : 562949953421312 ≤ v) (h2 : v < 72057594037927936) : sz v = 8 := by
  unfold sz
  rw [st_yes (c := 128) (by omega), st_yes (c := 16384) (by omega), st_yes (c := 2097152) (by omega), st_yes (c := 268435456) (by omega), st_yes (c := 34359738368) (by omega), st_yes (c := 4398046511104) (by omega), st_yes (c := 562949953421312) (by omega), st_no (c := 72057594037927936) (by omega), st_no (c := 9223372036854775808) (by omega)]
theorem sz_9 (v : Int) (h1 : 72057594037927936 ≤ v) (h2 : v < 9223372036854775808) : sz v = 9 := by
  unfold sz
  rw [st_yes (c := 128) (by omega), st_yes (c := 16384) (by omega), st_yes (c := 2097152) (by omega), st_yes (c := 268435456) (by omega), st_yes (c := 34359738368) (by omega), st_yes (c := 4398046511104) (by omega), st_yes (c := 562949953421312) (by omega), st_yes (c := 72057594037927936) (by omega), st_no (c := 9223372036854775808) (by omega)]
theorem sz_10 (v : Int) (h1 : 9223372036854775808 ≤ v) : sz v = 10 := by
  unfold sz
  rw [st_yes (c := 128) (by omega), st_yes (c := 16384) (by omega), st_yes (c := 2097152) (by omega), st_yes (c := 268435456) (by omega), st_yes (c := 34359738368) (by omega), st_yes (c := 4398046511104) (by omega), st_yes (c := 562949953421312) (by omega), st_yes (c := 72057594037927936) (by omega), st_yes (c := 9223372036854775808) (by omega)]
theorem sz_group (v q : Nat) (hq : q ≤ 9) (h1 : q = 0 ∨ 2 ^ (7 * q) ≤ v) (h2 : v < 2 ^ (7 * q + 7)) : sz v = q + 1 := by
  have hc : q = 0 ∨ q = 1 ∨ q = 2 ∨ q = 3 ∨ q = 4 ∨ q = 5 ∨ q = 6 ∨ q = 7 ∨ q = 8 ∨ q = 9 := by omega
  rcases hc with rfl | rfl | rfl | rfl | rfl | rfl | rfl | rfl | rfl | rfl
  · exact sz_1 v (by omega)
  · exact sz_2 v (by omega) (by omega)
  · exact sz_3 v (by omega) (by omega)
  · exact sz_4 v (by omega) (by omega)
  · exact sz_5 v (by omega) (by omega)
  · exact sz_6 v (by omega) (by omega)
  · exact sz_7 v (by omega) (by omega)
  · exact sz_8 v (by omega) (by omega)
  · exact sz_9 v (by omega) (by omega)
  · exact sz_10 v (by omega)

/-- The bits of 'v or 1', in groups of seven. -/
theorem sz_of_bits (v : Nat) (h : v < 18446744073709551616) : (bl64 ((v / 2 * 2 + 1 : Nat)) + 7 - 1) / 7 = (sz v : Int) := by
  obtain ⟨n, hb, hn, hlt, hle⟩ := bl64_is (v / 2 * 2 + 1) (by omega)
  obtain ⟨hn1, hp⟩ := hle (by omega)
  have hq : (n - 1) / 7 ≤ 9 := by omega
  have e1 : 2 ^ (7 * ((n - 1) / 7)) ≤ 2 ^ (n - 1) := Nat.pow_le_pow_right (by omega) (by omega)
  have e2 : 2 ^ n ≤ 2 ^ (7 * ((n - 1) / 7) + 7) := Nat.pow_le_pow_right (by omega) (by omega)
  have hl : (n - 1) / 7 = 0 ∨ 2 ^ (7 * ((n - 1) / 7)) ≤ v := by
    by_cases h0 : (n - 1) / 7 = 0
    · exact .inl h0
    · right
      have hev : 2 ^ (7 * ((n - 1) / 7)) = 2 * 2 ^ (7 * ((n - 1) / 7) - 1) := by
        rw [← Nat.pow_succ']; congr 1; omega
      omega
  rw [hb]
  rw [sz_group v ((n - 1) / 7) hq hl (by omega)]
  omega


/-- The table of the library's: the bits of each number below 256. -/
def tab : ByteArray := { data := #[0, 1, 2, 2, 3, 3, 3, 3, 4, 4, 4, 4, 4, 4, 4, 4, 5, 5, 5, 5, 5, 5, 5, 5, 5, 5, 5, 5, 5, 5, 5, 5, 6, 6, 6, 6, 6, 6, 6, 6, 6, 6, 6, 6, 6, 6, 6, 6, 6, 6, 6, 6, 6, 6, 6, 6, 6, 6, 6, 6, 6, 6, 6, 6, 7, 7, 7, 7, 7, 7, 7, 7, 7, 7, 7, 7, 7, 7, 7, 7, 7, 7, 7, 7, 7, 7, 7, 7, 7, 7, 7, 7, 7, 7, 7, 7, 7, 7, 7, 7, 7, 7, 7, 7, 7, 7, 7, 7, 7, 7, 7, 7, 7, 7, 7, 7, 7, 7, 7, 7, 7, 7, 7, 7, 7, 7, 7, 7, 8, 8, 8, 8, 8, 8, 8, 8, 8, 8, 8, 8, 8, 8, 8, 8, 8, 8, 8, 8, 8, 8, 8, 8, 8, 8, 8, 8, 8, 8, 8, 8, 8, 8, 8, 8, 8, 8, 8, 8, 8, 8, 8, 8, 8, 8, 8, 8, 8, 8, 8, 8, 8, 8, 8, 8, 8, 8, 8, 8, 8, 8, 8, 8, 8, 8, 8, 8, 8, 8, 8, 8, 8, 8, 8, 8, 8, 8, 8, 8, 8, 8, 8, 8, 8, 8, 8, 8, 8, 8, 8, 8, 8, 8, 8, 8, 8, 8, 8, 8, 8, 8, 8, 8, 8, 8, 8, 8, 8, 8, 8, 8, 8, 8, 8, 8, 8, 8, 8, 8, 8, 8, 8, 8, 8, 8, 8, 8] }
theorem tab_size : tab.size = 256 := by decide +kernel
theorem tab_all : ∀ k : Fin 256, ((tab[k.val]'(by rw [tab_size]; exact k.isLt)).toNat : Int) = bl8 k.val := by decide +kernel
theorem tab_get (y : Int) (h0 : 0 ≤ y) (h1 : y < 256) (h : y.toNat < tab.size) : ((tab[y.toNat]'h).toNat : Int) = bl8 y := by
  have e := tab_all ⟨y.toNat, by omega⟩
  rw [show ((⟨y.toNat, by omega⟩ : Fin 256).val : Int) = y from by simp; omega] at e
  exact e
theorem bl_56 (a : Int) (x1 : 4294967296 ≤ a) (x2 : 65536 ≤ a / 4294967296) (x3 : 256 ≤ a / 4294967296 / 65536) : bl64 a = 56 + bl8 (a / 4294967296 / 65536 / 256) := by
  unfold bl64; rw [if_pos (by omega)]; unfold bl32; rw [if_pos (by omega)]; unfold bl16; rw [if_pos (by omega)]; try omega
theorem bl_48 (a : Int) (x1 : 4294967296 ≤ a) (x2 : 65536 ≤ a / 4294967296) (x3 : a / 4294967296 / 65536 < 256) : bl64 a = 48 + bl8 (a / 4294967296 / 65536) := by
  unfold bl64; rw [if_pos (by omega)]; unfold bl32; rw [if_pos (by omega)]; unfold bl16; rw [if_neg (by omega)]; try omega
theorem bl_40 (a : Int) (x1 : 4294967296 ≤ a) (x2 : a / 4294967296 < 65536) (x3 : 256 ≤ a / 4294967296) : bl64 a = 40 + bl8 (a / 4294967296 / 256) := by
  unfold bl64; rw [if_pos (by omega)]; unfold bl32; rw [if_neg (by omega)]; unfold bl16; rw [if_pos (by omega)]; try omega
theorem bl_32 (a : Int) (x1 : 4294967296 ≤ a) (x2 : a / 4294967296 < 65536) (x3 : a / 4294967296 < 256) : bl64 a = 32 + bl8 (a / 4294967296) := by
  unfold bl64; rw [if_pos (by omega)]; unfold bl32; rw [if_neg (by omega)]; unfold bl16; rw [if_neg (by omega)]; try omega
theorem bl_24 (a : Int) (x1 : a < 4294967296) (x2 : 65536 ≤ a) (x3 : 256 ≤ a / 65536) : bl64 a = 24 + bl8 (a / 65536 / 256) := by
  unfold bl64; rw [if_neg (by omega)]; unfold bl32; rw [if_pos (by omega)]; unfold bl16; rw [if_pos (by omega)]; try omega
theorem bl_16 (a : Int) (x1 : a < 4294967296) (x2 : 65536 ≤ a) (x3 : a / 65536 < 256) : bl64 a = 16 + bl8 (a / 65536) := by
  unfold bl64; rw [if_neg (by omega)]; unfold bl32; rw [if_pos (by omega)]; unfold bl16; rw [if_neg (by omega)]; try omega
theorem bl_8 (a : Int) (x1 : a < 4294967296) (x2 : a < 65536) (x3 : 256 ≤ a) : bl64 a = 8 + bl8 (a / 256) := by
  unfold bl64; rw [if_neg (by omega)]; unfold bl32; rw [if_neg (by omega)]; unfold bl16; rw [if_pos (by omega)]; try omega
theorem bl_0 (a : Int) (_x1 : a < 4294967296) (_x2 : a < 65536) (x3 : a < 256) : bl64 a = 0 + bl8 (a) := by
  unfold bl64; rw [if_neg (by omega)]; unfold bl32; rw [if_neg (by omega)]; unfold bl16; rw [if_neg (by omega)]; try omega

end Go.Proofs.Ytfbbaodhlniiiaa
namespace Go.Proofs.Ytfbbaodhlniiiaa
set_option linter.unusedVariables false

/-- Each number is a byte. -/
def Bytes (xs : List Int) : Prop := ∀ i, i < xs.length → 0 ≤ xs[i]?.getD 0 ∧ xs[i]?.getD 0 < 256
/-- Groups of seven bits, the lowest first, as a number. -/
def val : List Int → Int
  | [] => 0
  | c :: l => c % 128 + 128 * val l
theorem val_nonneg (l : List Int) : 0 ≤ val l := by
  induction l with
  | nil => simp [val]
  | cons c l ih => simp only [val]; omega
theorem val_snoc (l : List Int) (c : Int) : val (l ++ [c]) = val l + 2 ^ (7 * l.length) * (c % 128) := by
  induction l with
  | nil => simp [val]
  | cons x l ih =>
    simp only [List.cons_append, val, ih, List.length_cons]
    rw [show 7 * (l.length + 1) = 7 * l.length + 7 from by omega, Int.pow_add, Int.mul_add]
    rw [show (2 : Int) ^ 7 = 128 from rfl, Int.mul_comm (2 ^ (7 * l.length)) 128, ← Int.mul_assoc, Int.add_assoc]
theorem val_lt (l : List Int) : val l < 2 ^ (7 * l.length) := by
  induction l with
  | nil => simp [val]
  | cons x l ih =>
    simp only [val, List.length_cons]
    rw [show 7 * (l.length + 1) = 7 * l.length + 7 from by omega, Int.pow_add, show (2 : Int) ^ 7 = 128 from rfl]
    omega
theorem pow_pos2 (n : Nat) : (0 : Int) < 2 ^ n := Int.pow_pos (by omega)

theorem take_snoc (l : List Int) (k : Nat) (h : k < l.length) : l.take (k + 1) = l.take k ++ [l[k]?.getD 0] := by
  rw [List.take_succ_eq_append_getElem h]; simp [h]

/-- How many bytes of 128 or above stand at the beginning. -/
def lead : List Int → Nat
  | [] => 0
  | c :: l => if 128 ≤ c then lead l + 1 else 0
theorem lead_eq : ∀ (xs : List Int) (k : Nat), k ≤ xs.length → (∀ j, j < k → 128 ≤ xs[j]?.getD 0) → (k = xs.length ∨ xs[k]?.getD 0 < 128) → lead xs = k
  | [], k, hk, _, _ => by simp at hk; subst hk; rfl
  | c :: l, 0, _, _, h2 => by
    rcases h2 with h2 | h2
    · simp at h2
    · simp at h2; simp [lead]; omega
  | c :: l, k + 1, hk, h1, h2 => by
    have h0 := h1 0 (by omega)
    simp at h0 hk
    have := lead_eq l k hk (fun j hj => by have := h1 (j + 1) (by omega); simpa using this) (by simpa using h2)
    simp [lead, h0, this]
theorem lead_ge : ∀ (xs : List Int) (k : Nat), k ≤ xs.length → (∀ j, j < k → 128 ≤ xs[j]?.getD 0) → k ≤ lead xs
  | xs, 0, _, _ => Nat.zero_le _
  | [], k + 1, hk, _ => by simp at hk
  | c :: l, k + 1, hk, h1 => by
    have h0 := h1 0 (by omega)
    simp at h0 hk
    have := lead_ge l k hk (fun j hj => by have := h1 (j + 1) (by omega); simpa using this)
    simp [lead, h0, this]

/-- What the bytes begin with: the number, how many bytes it has, and the error's number. -/
def rd (xs : List Int) : Int × Int × Int :=
  if lead xs = xs.length ∧ xs.length < 10 then (0, 0, 10)
  else if 10 ≤ lead xs ∨ lead xs = xs.length ∨ (lead xs = 9 ∧ (1 : Int) < xs[9]?.getD 0) then (0, 0, 11)
  else if 0 < lead xs ∧ xs[lead xs]?.getD 0 = 0 then (0, 0, 12)
  else (val (xs.take (lead xs + 1)), (lead xs : Int) + 1, 0)

theorem rd_short (xs : List Int) (h : ∀ j, j < xs.length → 128 ≤ xs[j]?.getD 0) (hl : xs.length < 10) : rd xs = (0, 0, 10) := by
  unfold rd; rw [lead_eq xs xs.length (Nat.le_refl _) h (.inl rfl), if_pos ⟨rfl, hl⟩]
theorem rd_long (xs : List Int) (h : ∀ j, j < 10 → 128 ≤ xs[j]?.getD 0) (hl : 10 ≤ xs.length) : rd xs = (0, 0, 11) := by
  have := lead_ge xs 10 hl h
  unfold rd; rw [if_neg (by omega), if_pos (.inl this)]
theorem rd_nine (xs : List Int) (h : ∀ j, j < 9 → 128 ≤ xs[j]?.getD 0) (hl : 9 < xs.length) (h1 : xs[9]?.getD 0 < 128) (h2 : (1 : Int) < xs[9]?.getD 0) : rd xs = (0, 0, 11) := by
  unfold rd; rw [lead_eq xs 9 (by omega) h (.inr h1), if_neg (by omega), if_pos (.inr (.inr ⟨rfl, h2⟩))]
theorem rd_form (xs : List Int) (k : Nat) (h : ∀ j, j < k → 128 ≤ xs[j]?.getD 0) (hl : k < xs.length) (h10 : k < 10) (h0 : 0 < k) (h2 : xs[k]?.getD 0 = 0) : rd xs = (0, 0, 12) := by
  unfold rd; rw [lead_eq xs k (by omega) h (.inr (by omega)), if_neg (by omega), if_neg, if_pos ⟨h0, h2⟩]
  rintro (h | h | ⟨h, h'⟩)
  · omega
  · omega
  · subst h; omega
theorem rd_ok (xs : List Int) (k : Nat) (h : ∀ j, j < k → 128 ≤ xs[j]?.getD 0) (hl : k < xs.length) (h10 : k < 10) (h1 : xs[k]?.getD 0 < 128) (h9 : k = 9 → xs[k]?.getD 0 ≤ 1) (h2 : 0 < k → xs[k]?.getD 0 ≠ 0) :
    rd xs = (val (xs.take (k + 1)), (k : Int) + 1, 0) := by
  unfold rd; rw [lead_eq xs k (by omega) h (.inr h1), if_neg (by omega), if_neg, if_neg (fun ⟨a, b⟩ => h2 a b)]
  rintro (h | h | ⟨h, h'⟩)
  · omega
  · omega
  · subst h; have := h9 rfl; omega

/-- What is read fits 64 bits. -/
theorem val_fits (xs : List Int) (k : Nat) (hl : k < xs.length) (h10 : k < 10) (h0 : 0 ≤ xs[k]?.getD 0) (h1 : xs[k]?.getD 0 < 128) (h9 : k = 9 → xs[k]?.getD 0 ≤ 1) : val (xs.take (k + 1)) < 18446744073709551616 := by
  have hlen : (xs.take (k + 1)).length = k + 1 := by simp; omega
  by_cases hk : k = 9
  · subst hk
    rw [take_snoc xs 9 hl, val_snoc]
    have hln : (xs.take 9).length = 9 := by simp; omega
    have := val_lt (xs.take 9)
    rw [hln] at this ⊢
    have h9' := h9 rfl
    have e : (2 : Int) ^ (7 * 9) = 9223372036854775808 := by decide
    rw [e] at this ⊢
    rw [Int.emod_eq_of_lt h0 (by omega)]
    omega
  · have := val_lt (xs.take (k + 1))
    rw [hlen] at this
    have hp : (2 : Int) ^ (7 * (k + 1)) ≤ 2 ^ 63 := by
      have : (2 : Nat) ^ (7 * (k + 1)) ≤ 2 ^ 63 := Nat.pow_le_pow_right (by omega) (by omega)
      exact_mod_cast this
    have e : (2 : Int) ^ 63 = 9223372036854775808 := by decide
    omega
theorem val_drop_le (l : List Int) (m : Nat) : val (l.drop m) ≤ val l := by
  induction m generalizing l with
  | zero => simp
  | succ m ih =>
    cases l with
    | nil => simp
    | cons c l =>
      have := ih l
      have h0 := val_nonneg l
      simp only [List.drop_succ_cons, val]
      omega
theorem val_drop (l : List Int) (m : Nat) (h : m < l.length) : val (l.drop m) = l[m]?.getD 0 % 128 + 128 * val (l.drop (m + 1)) := by
  rw [List.drop_eq_getElem_cons h, val]; simp [h]

/-- A group behind the others, as a sum. -/
theorem rd_bd (xs : List Int) (hx : Bytes xs) : (0 ≤ (rd xs).1 ∧ (rd xs).1 < 18446744073709551616) ∧ (0 ≤ (rd xs).2.1 ∧ (rd xs).2.1 ≤ 10 ∧ (rd xs).2.1 ≤ xs.length) ∧ (0 ≤ (rd xs).2.2 ∧ (rd xs).2.2 ≤ 12) := by
  have hle : lead xs ≤ xs.length := by
    clear hx
    induction xs with
    | nil => simp [lead]
    | cons c l ih => simp only [lead, List.length_cons]; split <;> omega
  have hat : lead xs < xs.length → xs[lead xs]?.getD 0 < 128 := by
    clear hx hle
    induction xs with
    | nil => simp
    | cons c l ih =>
      simp only [lead, List.length_cons]
      split
      · intro h; simpa using ih (by omega)
      · intro _; simp; omega
  unfold rd
  split
  · simp
  · split
    · simp
    · split
      · simp
      · rename_i h1 h2 h3
        have hlt : lead xs < xs.length := by omega
        have hb := hx _ hlt
        have := val_nonneg (xs.take (lead xs + 1))
        have hf := val_fits xs (lead xs) hlt (by omega) hb.1 (hat hlt) (fun h => by rw [h] at h2 ⊢; omega)
        simp only
        omega
end Go.Proofs.Ytfbbaodhlniiiaa
namespace Go.Proofs.Ytfbbaodhlniiiaa
set_option linter.unusedVariables false
open Go.RowKit

theorem ret_int {k : IntKind} {a b : Int} (h : a = b) : Ending.returned (.int k a) = .returned (.int k b) := by rw [h]

theorem tab_step (c y : Int) (h0 : 0 ≤ y) (h1 : y < 256) (c0 : 0 ≤ c) (c1 : c ≤ 56) (h : y.toNat < tab.size) : wrap64 (c + wrap64 ((tab[y.toNat]'h).toNat : Int)) = c + bl8 y := by
  rw [tab_get y h0 h1 h]
  have hb : 0 ≤ bl8 y ∧ bl8 y ≤ 8 := by unfold bl8; repeat' split
                                        all_goals omega
  have e1 : wrap64 (bl8 y) = bl8 y := IntWalk.wrap64_in _ ⟨by omega, by omega⟩
  rw [e1]
  exact IntWalk.wrap64_in _ ⟨by omega, by omega⟩
theorem tab_step0 (y : Int) (h0 : 0 ≤ y) (h1 : y < 256) (h : y.toNat < tab.size) : wrap64 (wrap64 ((tab[y.toNat]'h).toNat : Int)) = 0 + bl8 y := by
  have e := tab_step 0 y h0 h1 (by omega) (by omega) h
  rw [Int.zero_add] at e
  exact e
theorem or_one (v : Int) (h0 : 0 ≤ v) (h1 : v < 18446744073709551616) : bits .or .u64 v 1 = v / 2 * 2 + 1 := by
  have h := bits_or_u64_nat v.toNat 1 (by omega) (by omega)
  rw [Int.toNat_of_nonneg h0] at h
  refine Eq.trans h ?_
  have e : v.toNat ||| 1 = v.toNat / 2 * 2 + 1 := by
    apply Nat.eq_of_testBit_eq
    intro i
    cases i with
    | zero => simp
    | succ i =>
      rw [Nat.testBit_or, Nat.testBit_succ, Nat.testBit_succ, Nat.testBit_succ]
      rw [show (v.toNat / 2 * 2 + 1) / 2 = v.toNat / 2 from by omega, show (1 : Nat) / 2 = 0 from rfl, Nat.zero_testBit, Bool.or_false]
  rw [e]; omega

set_option maxRecDepth 20000 in
theorem len64_c (a : Int) (h1 : 0 ≤ a) (h2 : a < 18446744073709551616) (w : World) :
    Calls Try.prog 114 #[.int .u64 a] w fun e w' => e = .returned (.int .i64 (bl64 a)) ∧ w' = w := by
  go_enter Try.func114, Try.ntmps114
  go_wp2
  all_goals go_ret
  · exact ⟨ret_int ((tab_step 56 _ (by omega) (by omega) (by omega) (by omega) _).trans (bl_56 a (by assumption) (by assumption) (by assumption)).symm), rfl⟩
  · exact ⟨ret_int ((tab_step 48 _ (by omega) (by omega) (by omega) (by omega) _).trans (bl_48 a (by assumption) (by assumption) (by assumption)).symm), rfl⟩
  · exact ⟨ret_int ((tab_step 40 _ (by omega) (by omega) (by omega) (by omega) _).trans (bl_40 a (by assumption) (by assumption) (by assumption)).symm), rfl⟩
  · exact ⟨ret_int ((tab_step 32 _ (by omega) (by omega) (by omega) (by omega) _).trans (bl_32 a (by assumption) (by assumption) (by assumption)).symm), rfl⟩
  · exact ⟨ret_int ((tab_step 24 _ (by omega) (by omega) (by omega) (by omega) _).trans (bl_24 a (by assumption) (by assumption) (by assumption)).symm), rfl⟩
  · exact ⟨ret_int ((tab_step 16 _ (by omega) (by omega) (by omega) (by omega) _).trans (bl_16 a (by assumption) (by assumption) (by assumption)).symm), rfl⟩
  · exact ⟨ret_int ((tab_step 8 _ (by omega) (by omega) (by omega) (by omega) _).trans (bl_8 a (by assumption) (by assumption) (by assumption)).symm), rfl⟩
  · exact ⟨ret_int ((tab_step0 _ (by omega) (by omega) _).trans (bl_0 a (by assumption) (by assumption) (by assumption)).symm), rfl⟩

/-- A slice of integers of a kind that can be read: these are its elements. -/
def Seg (k : IntKind) (w : World) (a : Option Addr) (len : Nat) (xs : List Int) : Prop :=
  xs.length = len ∧ (len = 0 ∨ ∃ b off, a = some ⟨b, off, none⟩ ∧ b < w.heap.size ∧ ∀ i, i < len → w.cell? ⟨b, off + i, none⟩ = some (.int k (xs[i]?.getD 0)))
theorem Seg.below {k : IntKind} {w w' : World} {a : Option Addr} {len : Nat} {xs : List Int} (h : Seg k w a len xs) (hb : Below w.heap.size w w') : Seg k w' a len xs := by
  refine ⟨h.1, ?_⟩
  rcases h.2 with h0 | ⟨b, off, ha, hlt, hc⟩
  · exact .inl h0
  · have := hb.size
    exact .inr ⟨b, off, ha, by omega, fun i hi => (hb.cell (p := ⟨b, off + i, none⟩) hlt).trans (hc i hi)⟩

theorem wf_u64 {n : Int} (h : (Lit.int .u64 n).wf = true) : 0 ≤ n ∧ n < 18446744073709551616 := by
  simp [Lit.wf, IntKind.min, IntKind.max, IntKind.signed, IntKind.bits] at h; omega
theorem wf_u8 {n : Int} (h : (Lit.int .u8 n).wf = true) : 0 ≤ n ∧ n < 256 := by
  simp [Lit.wf, IntKind.min, IntKind.max, IntKind.signed, IntKind.bits] at h; omega
/-- A slice that came in. -/
theorem seg_of_row {k : IntKind} {R : Nat} {w : World} {a : Option Addr} {len cap : Nat} {zs : List Int}
    (h : (a = none ∧ len = 0 ∧ cap = 0 ∧ zs = []) ∨
      ∃ x, a = some x ∧ len ≤ cap ∧ cap ≤ R ∧ zs.length = cap ∧ (∀ i, i < zs.length → w.cell? (x.add i) = some (.int k (zs.getD i 0))) ∧ ∀ n ∈ zs, (Lit.int k n).wf = true) :
    Seg k w a len (zs.take len) ∧ len ≤ cap ∧ cap ≤ R ∧ ∀ i, i < (zs.take len).length → (Lit.int k ((zs.take len)[i]?.getD 0)).wf = true := by
  rcases h with ⟨rfl, rfl, rfl, rfl⟩ | ⟨x, rfl, hl, hm, hz, hc, hw⟩
  · exact ⟨⟨rfl, .inl rfl⟩, Nat.le_refl _, Nat.zero_le _, fun i hi => by simp at hi⟩
  · refine ⟨⟨by simp; omega, ?_⟩, hl, hm, fun i hi => ?_⟩
    · by_cases h0 : len = 0
      · exact .inl h0
      · right
        obtain ⟨b, off, spot⟩ := x
        have hspot : spot = none := by simpa [Addr.add] using World.cell?_spot (hc 0 (by omega))
        subst hspot
        have hc0 : ∀ i, i < len → w.cell? ⟨b, off + i, none⟩ = some (.int k ((zs.take len)[i]?.getD 0)) := fun i hi => by
          have := hc i (by omega)
          rw [Go.WideShapes.add_plain] at this
          rw [this, List.getElem?_take_of_lt hi]; simp
        refine ⟨b, off, rfl, ?_, hc0⟩
        have := hc0 0 (by omega)
        rcases Nat.lt_or_ge b w.heap.size with h | h
        · exact h
        · simp [World.cell?, h] at this
    · have hi' : i < zs.length := by simp at hi; omega
      have hi2 : i < len := by simp at hi; omega
      rw [List.getElem?_take_of_lt hi2]
      exact hw _ (by simp [hi'])

/-- A slice that a literal makes. -/
theorem seg_new (w : World) (k : IntKind) (C : Array Value) (T : TypeId) (n : Nat) (xs : List Int) (hC : C = (xs.map (Value.int k)).toArray) (hn : n = xs.length) :
    Seg k (w.alloc (.cells C T)) (some ⟨w.heap.size, 0, none⟩) n xs := by
  subst hC hn
  refine ⟨rfl, .inr ⟨_, _, rfl, by simp, fun i hi => ?_⟩⟩
  rw [Nat.zero_add, World.cell?_alloc_new]
  simp [hi]

theorem seg_at (n0 : Nat) (w : World) (k : IntKind) (C : Array Value) (T : TypeId) (n : Nat) (xs : List Int) (h0 : n0 = w.heap.size) (hC : C = (xs.map (Value.int k)).toArray) (hn : n = xs.length) :
    Seg k (w.alloc (.cells C T)) (some ⟨n0, 0, none⟩) n xs := by
  subst h0; exact seg_new w k C T n xs hC hn

/-- How many groups all of them have. -/
def szs : List Int → Nat
  | [] => 0
  | v :: l => sz v + szs l
theorem szs_snoc (l : List Int) (v : Int) : szs (l ++ [v]) = szs l + sz v := by
  induction l with
  | nil => simp [szs]
  | cons x l ih => simp [szs, ih]; omega
theorem szs_le (l : List Int) : szs l ≤ 10 * l.length := by
  induction l with
  | nil => simp [szs]
  | cons x l ih => simp [szs]; have := sz_bd x; omega

/-- Each number is one of 64 bits without a sign. -/
def Bits64 (xs : List Int) : Prop := ∀ i, i < xs.length → 0 ≤ xs[i]?.getD 0 ∧ xs[i]?.getD 0 < 18446744073709551616

theorem bl64_or (v : Int) (h0 : 0 ≤ v) (h1 : v < 18446744073709551616) : (0 ≤ bl64 (v / 2 * 2 + 1) ∧ bl64 (v / 2 * 2 + 1) ≤ 64) ∧ (bl64 (v / 2 * 2 + 1) + 7 - 1) / 7 = (sz v : Int) := by
  obtain ⟨m, rfl⟩ := Int.eq_ofNat_of_zero_le h0
  have e : ((m : Int) / 2 * 2 + 1) = ((m / 2 * 2 + 1 : Nat) : Int) := by omega
  rw [e]
  refine ⟨?_, sz_of_bits m (by omega)⟩
  obtain ⟨n, hn, hle, _⟩ := bl64_is (m / 2 * 2 + 1) (by omega)
  rw [hn]; omega

set_option maxHeartbeats 400000 in
theorem size_c (a : Option Addr) (len cap : Nat) (xs : List Int) (w : World) (h : Seg .u64 w a len xs) (hx : Bits64 xs) (hl : len ≤ 1125899906842624) :
    Calls Try.prog 99 #[.slice a len cap] w fun e w' => e = .returned (.int .i64 (szs xs)) ∧ w' = w := by
  obtain ⟨hlen, h⟩ := h
  rcases h with rfl | ⟨b, off, rfl, hbw, hc⟩
  · obtain rfl : xs = [] := List.eq_nil_of_length_eq_zero hlen
    go_enter Try.func99, Try.ntmps99
    go_wp2
    refine wp_loop_rounds 1 ?_
    rw [rounds_succ]
    go_wp2
    go_ret
    exact ⟨rfl, rfl⟩
  · go_enter Try.func99, Try.ntmps99
    go_wp2
    go_loop [3, 8] (fun n i => ∃ k : Nat, k ≤ len ∧ i = .int .i64 k ∧ n = .int .i64 (szs (xs.take k))) (fun _ i => len - (intOf i).toNat)
    case atStart => exact ⟨0, Nat.zero_le _, rfl, rfl⟩
    case round =>
      obtain ⟨k, hk, rfl, rfl⟩ := hrel
      have hz := szs_le (xs.take k)
      have hzl : (xs.take k).length ≤ k := List.length_take_le _ _
      by_cases hlt : k < len
      · have hcell := hc k hlt
        have hxk := hx k (by omega)
        have hor := or_one (xs[k]?.getD 0) hxk.1 hxk.2
        have HS : Hid (szs (xs.take (k + 1)) = szs (xs.take k) + sz (xs[k]?.getD 0)) := by rw [take_snoc xs k (by omega)]; exact szs_snoc _ _
        obtain ⟨hbl, hsz⟩ := bl64_or (xs[k]?.getD 0) hxk.1 hxk.2
        have HZ : Hid ((bl64 (xs[k]?.getD 0 / 2 * 2 + 1) + 7 - 1) / 7 = (sz (xs[k]?.getD 0) : Int)) := hsz
        clear hc hx hlen hsz
        go_wp2_with (go_at_call 114; go_must (refine (len64_c _ (by omega) (by omega) _).mono ?_); rintro e w' ⟨rfl, rfl⟩)
        go_round
        case rel => exact ⟨k + 1, by omega, by go_num, congrArg (Value.int .i64) (by rw [HS.out, HZ.out]; omega)⟩
        case measure => simp [intOf]; omega
      · go_wp2
        go_ret
        exact ⟨ret_int (by rw [List.take_of_length_le (by omega)]), rfl⟩
end Go.Proofs.Ytfbbaodhlniiiaa
namespace Go.Proofs.Ytfbbaodhlniiiaa
open Go.RowKit
set_option linter.unusedVariables false

/-- Block g holds these integers, and nothing else. -/
def Row (k : IntKind) (T : TypeId) (w : World) (g : Nat) (xs : List Int) : Prop := w.heap[g]? = some (.cells (xs.map (Value.int k)).toArray T (0, 0))
theorem Row.lt {k T w g xs} (h : Row k T w g xs) : g < w.heap.size := lt_of_block h
theorem Row.cell {k T w g xs} (h : Row k T w g xs) (i : Nat) (hi : i < xs.length) : w.cell? ⟨g, i, none⟩ = some (.int k (xs[i]?.getD 0)) := by
  rw [cell_of_row w g i _ T (0, 0) h]; simp [hi]
theorem Row.free {k T w g xs} (h : Row k T w g xs) (i : Nat) : w.frozen? ⟨g, i, none⟩ = false := frozen_of_row w g i _ T h
theorem Row.set {k T w g xs} (h : Row k T w g xs) (i : Nat) (v : Int) : Row k T (w.setCell ⟨g, i, none⟩ (.int k v)) g (xs.set i v) := by
  unfold Row
  rw [heap_setCell_same w g i _ T _ h]; simp [List.map_set]
theorem Row.below {k T w w' g xs B} (h : Row k T w g xs) (hb : Below B w w') (hg : g < B) : Row k T w' g xs := (hb.block g hg).trans h
theorem Row.seg {k T w g xs} (h : Row k T w g xs) (len : Nat) (hl : len ≤ xs.length) : Seg k w (some ⟨g, 0, none⟩) len (xs.take len) := by
  refine ⟨by simp; omega, .inr ⟨g, 0, rfl, h.lt, fun i hi => ?_⟩⟩
  rw [Nat.zero_add, h.cell i (by omega), List.getElem?_take_of_lt hi]
theorem Row.segAll {k T w g xs} (h : Row k T w g xs) (len : Nat) (hl : len = xs.length) : Seg k w (some ⟨g, 0, none⟩) len xs := by
  have := h.seg len (by omega)
  rw [hl, List.take_length] at this
  rw [hl]; exact this
theorem Row.drewN {k T w g xs} (h : Row k T w g xs) (n : Nat) : Row k T (w.drewN n) g xs := by
  unfold Row
  rw [show (w.drewN n).heap = w.heap from by simp]
  exact h
/-- A row that 'make' has made. -/
theorem row_of_own {k T w base g n} {L : List Value} (xs : List Int) (h : w.ownsRow base T 1 (.slice (some ⟨g, 0, none⟩) n n) n L) (hL : L = xs.map (Value.int k)) : Row k T w g xs := by
  rcases h.2 with ⟨h', _⟩ | ⟨g', cap', cur, h', _, hg, _, _, hs, htake⟩
  · simp at h'
  · simp only [Value.slice.injEq, Option.some.injEq, Addr.mk.injEq, and_true, true_and] at h'
    obtain ⟨rfl, rfl⟩ := h'
    unfold Row
    rw [List.take_of_length_le (by rw [Array.length_toList, hs]; exact Nat.le_refl _)] at htake
    rw [hg, ← hL, ← htake]

theorem Try.infoU8 : (Try.prog.info? 5).map (fun i => (i.zero, i.size, i.bytes)) = some (some (.int .u8 0), 1, 1) := by kernel_rfl

/-- The elements of a slice, as cells. -/
theorem seg_news' {k : IntKind} {w : World} {a : Option Addr} {m : Nat} {ys : List Int} (h : Seg k w a m ys) (ad : Addr) (ha : a = some ad) : ∀ j u, (ys.map (Value.int k))[j]? = some u → w.cell? (ad.add j) = some u := by
  intro j u hj
  have hjl : j < ys.length := by
    rcases Nat.lt_or_ge j ys.length with h' | h'
    · exact h'
    · rw [List.getElem?_eq_none (by simpa using h')] at hj; cases hj
  rcases h.2 with h0 | ⟨b, off, hb, _, hc⟩
  · rw [h.1] at hjl; omega
  · rw [hb] at ha; cases ha
    rw [Go.WideShapes.add_plain, hc j (by rw [← h.1]; exact hjl), ← hj]
    simp [hjl]
end Go.Proofs.Ytfbbaodhlniiiaa
namespace Go.Proofs.Ytfbbaodhlniiiaa
open Go.RowKit
set_option linter.unusedVariables false

/-- Bytes of one's own: nil, or a block from B on. -/
def Own (B : Nat) (w : World) (v : Value) (n : Nat) (xs : List Int) : Prop := w.ownsRow B 5 1 v n (xs.map (Value.int .u8))
theorem own_nil (B : Nat) (w : World) : Own B w (.slice none 0 0) 0 [] := ⟨rfl, .inl ⟨rfl, rfl⟩⟩
theorem Own.seg {B : Nat} {w : World} {v : Value} {n : Nat} {xs : List Int} (h : Own B w v n xs) : ∃ a cap, v = .slice a n cap ∧ Seg .u8 w a n xs ∧ (a = none → cap = 0) ∧ n ≤ cap := by
  have hlen : xs.length = n := by have := h.1; simpa using this
  rcases h.2 with ⟨rfl, rfl⟩ | ⟨g, cap, cur, rfl, hB, hg, hn, hm, hsz, htake⟩
  · exact ⟨none, 0, rfl, ⟨hlen, .inl rfl⟩, fun _ => rfl, Nat.le_refl _⟩
  · refine ⟨_, cap, rfl, ⟨hlen, ?_⟩, (fun h => by cases h), hn⟩
    refine .inr ⟨g, 0, rfl, lt_of_block hg, fun i hi => ?_⟩
    rw [Nat.zero_add, h.cellAt i (by omega)]
    simp only [List.getElem?_map, List.getElem?_eq_getElem (show i < xs.length by omega)]; rfl
theorem Own.form {B : Nat} {w : World} {v : Value} {n : Nat} {xs : List Int} (h : Own B w v n xs) (hn : 0 < n) : ∃ g cap, v = .slice (some ⟨g, 0, none⟩) n cap ∧ B ≤ g ∧ n ≤ cap := by
  rcases h.2 with ⟨rfl, rfl⟩ | ⟨g, cap, cur, rfl, hB, _, hc, _⟩
  · omega
  · exact ⟨g, cap, rfl, hB, hc⟩
theorem Own.cell {B : Nat} {w : World} {g n cap : Nat} {xs : List Int} (h : Own B w (.slice (some ⟨g, 0, none⟩) n cap) n xs) (i : Nat) (hi : i < n) : w.cell? ⟨g, i, none⟩ = some (.int .u8 (xs[i]?.getD 0)) ∧ w.frozen? ⟨g, i, none⟩ = false := by
  have hlen : xs.length = n := by have := h.1; simpa using this
  refine ⟨?_, ?_⟩
  · rw [h.cellAt i (by omega)]
    simp only [List.getElem?_map, List.getElem?_eq_getElem (show i < xs.length by omega)]; rfl
  · rcases h.2 with ⟨h', _⟩ | ⟨g', cap', cur, h', hB, hg, _⟩
    · simp at h'
    · simp only [Value.slice.injEq, Option.some.injEq, Addr.mk.injEq, and_true, true_and] at h'
      obtain ⟨rfl, rfl⟩ := h'
      exact frozen_of_row _ _ _ _ _ hg
theorem Own.set {B : Nat} {w : World} {g n cap : Nat} {xs : List Int} (h : Own B w (.slice (some ⟨g, 0, none⟩) n cap) n xs) (i : Nat) (hi : i < n) (y : Int) : Own B (w.setCell ⟨g, i, none⟩ (.int .u8 y)) (.slice (some ⟨g, 0, none⟩) n cap) n (xs.set i y) := by
  refine ⟨by have := h.1; simpa using this, .inr ?_⟩
  rcases h.2 with ⟨h', _⟩ | ⟨g', cap', cur, h', hB, hg, hn, hm, hsz, htake⟩
  · simp at h'
  · simp only [Value.slice.injEq, Option.some.injEq, Addr.mk.injEq, and_true, true_and] at h'
    obtain ⟨rfl, rfl⟩ := h'
    refine ⟨g, cap, cur.setIfInBounds i (.int .u8 y), rfl, hB, ?_, hn, hm, by simpa using hsz, ?_⟩
    · rw [heap_setCell_same w g i _ 5 _ hg]
    · rw [Array.toList_setIfInBounds, List.take_set, htake, List.map_set]
theorem Own.below {B : Nat} {w w' : World} {v : Value} {n : Nat} {xs : List Int} (h : Own B w v n xs) (hb : Below w.heap.size w w') : Own B w' v n xs := by
  refine ⟨h.1, ?_⟩
  rcases h.2 with h0 | ⟨g, cap, cur, rfl, hB, hg, r⟩
  · exact .inl h0
  · exact .inr ⟨g, cap, cur, rfl, hB, (hb.block g (lt_of_block hg)).trans hg, r⟩
theorem Own.base {B C : Nat} {w : World} {v : Value} {n : Nat} {xs : List Int} (h : Own B w v n xs) (hc : C ≤ B) : Own C w v n xs := by
  refine ⟨h.1, ?_⟩
  rcases h.2 with h0 | ⟨g, cap, cur, rfl, hB, r⟩
  · exact .inl h0
  · exact .inr ⟨g, cap, cur, rfl, Nat.le_trans hc hB, r⟩
theorem wpList_append_grow (w : World) {ops : Array Oper} {rest : List Oper} {o : Oper} {a : Act} {Q : Exit → Act → World → Prop}
    (hg : o.guard = none) (s x : Operand) (hop : o.op = Op.call { callee := Callee.builtin Builtin.append, args := #[s, x], argTypes := #[28, 28] })
    (B n : Nat) (v : Value) (xs : List Int) (hs : a.eval s = v) (hown : Own B w v n xs)
    (ao : Option Addr) (m c : Nat) (ys : List Int) (hx : a.eval x = .slice ao m c) (hao : ao = none → c = 0) (hy : Seg .u8 w ao m ys) (hb : n + m ≤ 140737488355328) (hbase : B ≤ w.heap.size)
    (hK : ∀ v' w', Own B w' v' (n + m) (xs ++ ys) → Below B w w' → wpList Try.prog ops Q rest (a.put o.dst v') w') :
    wpList Try.prog ops Q (o :: rest) a w := by
  obtain ⟨i, hi, hz, h4, h5⟩ := info_parts Try.infoU8
  cases ao with
  | none =>
    have hm0 : m = 0 := by
      rcases hy.2 with h0 | ⟨_, _, h, _⟩
      · exact h0
      · cases h
    subst hm0
    obtain rfl : ys = [] := List.eq_nil_of_length_eq_zero hy.1
    have hc0 := hao rfl
    subst hc0
    refine wpList_append_own_none hg s x 28 hop B 5 i 1 Try.underlying28 hi v n (xs.map (Value.int .u8)) hs hown hx ?_
    exact hK v w (by simpa using hown) (Below.refl _ _)
  | some ad =>
    refine wpList_append_own w hg s x 28 hop B 5 i (.int .u8 0) 1 1 Try.underlying28 hi hz h4 h5 rfl (by decide) v n (xs.map (Value.int .u8)) hs hown ad m c (ys.map (Value.int .u8)) hx (by simp [hy.1]) (seg_news' hy ad rfl) ?_ (by unfold maxLen; omega) (by omega) hbase ?_
    · intro u hu; obtain ⟨z, _, rfl⟩ := List.mem_map.1 hu; rfl
    · intro v' w' hown' hgrow _
      refine hK v' w' (by unfold Own; rw [List.map_append]; exact hown') ((Below.refl _ _).grown hgrow hbase ?_)
      intro k hk
      rcases hown.2 with ⟨rfl, _⟩ | ⟨g, cap, cur, rfl, hB, _⟩
      · cases hk
      · cases hk; exact hB

theorem wpList_append_apart (w : World) {ops : Array Oper} {rest : List Oper} {o : Oper} {a : Act} {Q : Exit → Act → World → Prop}
    (hg : o.guard = none) (s x : Operand) (hop : o.op = Op.call { callee := Callee.builtin Builtin.append, args := #[s, x], argTypes := #[28, 28] })
    (B n : Nat) (v : Value) (xs : List Int) (hs : a.eval s = v) (hown : Own B w v n xs)
    (ao : Option Addr) (m c : Nat) (ys : List Int) (hx : a.eval x = .slice ao m c) (hao : ao = none → c = 0) (hy : Seg .u8 w ao m ys) (hb : n + m ≤ 140737488355328) (hbase : B ≤ w.heap.size)
    (hK : ∀ v' w', Own B w' v' (n + m) (xs ++ ys) → w.grownBy w' v.ownBlock → (v'.ownBlock = v.ownBlock ∨ v'.ownBlock = some w.heap.size) → wpList Try.prog ops Q rest (a.put o.dst v') w') :
    wpList Try.prog ops Q (o :: rest) a w := by
  obtain ⟨i, hi, hz, h4, h5⟩ := info_parts Try.infoU8
  cases ao with
  | none =>
    have hm0 : m = 0 := by
      rcases hy.2 with h0 | ⟨_, _, h, _⟩
      · exact h0
      · cases h
    subst hm0
    obtain rfl : ys = [] := List.eq_nil_of_length_eq_zero hy.1
    have hc0 := hao rfl
    subst hc0
    refine wpList_append_own_none hg s x 28 hop B 5 i 1 Try.underlying28 hi v n (xs.map (Value.int .u8)) hs hown hx ?_
    exact hK v w (by simpa using hown) ⟨rfl, rfl, rfl, Nat.le_refl _, fun _ _ _ => rfl⟩ (.inl rfl)
  | some ad =>
    refine wpList_append_own_at w hg s x 28 hop B 5 i (.int .u8 0) 1 1 Try.underlying28 hi hz h4 h5 rfl (by decide) v n (xs.map (Value.int .u8)) hs hown ad m c (ys.map (Value.int .u8)) hx (by simp [hy.1]) (seg_news' hy ad rfl) ?_ (by unfold maxLen; omega) (by omega) hbase ?_
    · intro u hu; obtain ⟨z, _, rfl⟩ := List.mem_map.1 hu; rfl
    · intro v' w' hown' hgrow _ hat
      exact hK v' w' (by unfold Own; rw [List.map_append]; exact hown') hgrow hat
/-- What lies in another block stays. -/
theorem Own.grown {B : Nat} {w w' : World} {u : Value} {n : Nat} {ys : List Int} {row : Option Nat} (h : Own B w u n ys) (hg : w.grownBy w' row) (hne : ∀ g, u.ownBlock = some g → row ≠ some g) : Own B w' u n ys := by
  refine ⟨h.1, ?_⟩
  rcases h.2 with h0 | ⟨g, cap, cur, rfl, hB, hgb, r⟩
  · exact .inl h0
  · exact .inr ⟨g, cap, cur, rfl, hB, (hg.block g (lt_of_block hgb) (fun e => hne g rfl e.symm)).trans hgb, r⟩
theorem Own.lo {B : Nat} {w : World} {u : Value} {n : Nat} {ys : List Int} (h : Own B w u n ys) : ∀ g, u.ownBlock = some g → B ≤ g ∧ g < w.heap.size := by
  intro g hg
  rcases h.2 with ⟨rfl, _⟩ | ⟨g', cap, cur, rfl, hB, hgb, _⟩
  · cases hg
  · cases hg; exact ⟨hB, lt_of_block hgb⟩
end Go.Proofs.Ytfbbaodhlniiiaa
namespace Go.Proofs.Ytfbbaodhlniiiaa
open Go.RowKit
set_option linter.unusedVariables false

theorem well_c (g : Nat) (e : Int) (w : World) (h : w.cell? ⟨g, 0, none⟩ = some (.int .i64 e)) :
    Calls Try.prog 63 #[.pointer (some ⟨g, 0, none⟩)] w fun r w' => r = .returned (.bool (e == 0)) ∧ w' = w := by
  go_enter Try.func63, Try.ntmps63
  go_wp2
  go_ret
  exact ⟨rfl, rfl⟩

theorem fail_ok (g : Nat) (x : Int) (w : World) (h : w.cell? ⟨g, 0, none⟩ = some (.int .i64 0)) (hf : w.frozen? ⟨g, 0, none⟩ = false) :
    Calls Try.prog 86 #[.pointer (some ⟨g, 0, none⟩), .int .i64 x] w fun r w' => r = .returned (.tuple #[]) ∧ w' = w.setCell ⟨g, 0, none⟩ (.int .i64 x) := by
  go_enter Try.func86, Try.ntmps86
  go_wp2_with fail
  refine (well_c g 0 w h).mono ?_
  rintro e w1 ⟨rfl, rfl⟩
  go_wp2
  go_end0
  exact ⟨rfl, rfl⟩

theorem fail_no (g : Nat) (e x : Int) (w : World) (h : w.cell? ⟨g, 0, none⟩ = some (.int .i64 e)) (he : (e == 0) = false) :
    Calls Try.prog 86 #[.pointer (some ⟨g, 0, none⟩), .int .i64 x] w fun r w' => r = .returned (.tuple #[]) ∧ w' = w := by
  go_enter Try.func86, Try.ntmps86
  go_wp2_with fail
  refine (well_c g e w h).mono ?_
  rintro e w1 ⟨rfl, rfl⟩
  go_wp2
  go_end0
  exact ⟨rfl, rfl⟩

theorem must_so (g : Nat) (e x : Int) (w : World) (h : w.cell? ⟨g, 0, none⟩ = some (.int .i64 e)) :
    Calls Try.prog 60 #[.pointer (some ⟨g, 0, none⟩), .bool true, .int .i64 x] w fun r w' => r = .returned (.bool (e == 0)) ∧ w' = w := by
  go_enter Try.func60, Try.ntmps60
  go_wp2_with fail
  refine (well_c g e w h).mono ?_
  rintro e w1 ⟨rfl, rfl⟩
  go_wp2
  go_ret
  exact ⟨rfl, rfl⟩

theorem must_no (g : Nat) (e x : Int) (w : World) (h : w.cell? ⟨g, 0, none⟩ = some (.int .i64 e)) (he : (e == 0) = false) :
    Calls Try.prog 60 #[.pointer (some ⟨g, 0, none⟩), .bool false, .int .i64 x] w fun r w' => r = .returned (.bool false) ∧ w' = w := by
  go_enter Try.func60, Try.ntmps60
  go_wp2_with fail
  refine (fail_no g e x w h he).mono ?_
  rintro e w1 ⟨rfl, rfl⟩
  go_wp2_with fail
  refine (well_c g _ _ h).mono ?_
  rintro e w2 ⟨rfl, rfl⟩
  go_wp2
  go_ret
  exact ⟨rfl, rfl⟩

theorem must_ok (g : Nat) (x : Int) (w : World) (h : w.cell? ⟨g, 0, none⟩ = some (.int .i64 0)) (hf : w.frozen? ⟨g, 0, none⟩ = false) (hx : (x == 0) = false) :
    Calls Try.prog 60 #[.pointer (some ⟨g, 0, none⟩), .bool false, .int .i64 x] w fun r w' => r = .returned (.bool false) ∧ w' = w.setCell ⟨g, 0, none⟩ (.int .i64 x) := by
  have h2 : (w.setCell ⟨g, 0, none⟩ (.int .i64 x)).cell? ⟨g, 0, none⟩ = some (.int .i64 x) := World.cell?_setCell_same w _ _ h
  go_enter Try.func60, Try.ntmps60
  go_wp2_with fail
  refine (fail_ok g x w h hf).mono ?_
  rintro e w1 ⟨rfl, rfl⟩
  go_wp2_with fail
  refine (well_c g x _ h2).mono ?_
  rintro e w1 ⟨rfl, rfl⟩
  go_wp2
  go_ret
  exact ⟨rfl, rfl⟩
end Go.Proofs.Ytfbbaodhlniiiaa
namespace Go.Proofs.Ytfbbaodhlniiiaa
open Go.RowKit
set_option linter.unusedVariables false

theorem bytes_drop {xs : List Int} (h : Bytes xs) (k : Nat) : Bytes (xs.drop k) := fun i hi => by
  have := h (k + i) (by simp at hi; omega)
  rw [List.getElem?_drop]; exact this
theorem bytes_take {xs : List Int} (h : Bytes xs) (k : Nat) : Bytes (xs.take k) := fun i hi => by
  simp only [List.length_take] at hi
  rw [List.getElem?_take_of_lt (by omega)]
  exact h i (by omega)

/-- A Reader's block. -/
def Rdr (w : World) (g : Nat) (e : Int) (v : Value) (p : Int) : Prop := w.heap[g]? = some (.cells #[.int .i64 e, .bool true, v, .int .i64 p] 134 (0, 0))
theorem Rdr.c0 {w g e v p} (h : Rdr w g e v p) : w.cell? ⟨g, 0, none⟩ = some (.int .i64 e) := by rw [cell_of_row w g 0 _ _ _ h]; rfl
theorem Rdr.c1 {w g e v p} (h : Rdr w g e v p) : w.cell? ⟨g, 1, none⟩ = some (.bool true) := by rw [cell_of_row w g 1 _ _ _ h]; rfl
theorem Rdr.c2 {w g e v p} (h : Rdr w g e v p) : w.cell? ⟨g, 2, none⟩ = some v := by rw [cell_of_row w g 2 _ _ _ h]; rfl
theorem Rdr.c3 {w g e v p} (h : Rdr w g e v p) : w.cell? ⟨g, 3, none⟩ = some (.int .i64 p) := by rw [cell_of_row w g 3 _ _ _ h]; rfl
theorem Rdr.free {w g e v p} (h : Rdr w g e v p) (i : Nat) : w.frozen? ⟨g, i, none⟩ = false := frozen_of_row w g i _ _ h
theorem Rdr.setE {w g e v p} (h : Rdr w g e v p) (x : Int) : Rdr (w.setCell ⟨g, 0, none⟩ (.int .i64 x)) g x v p := by
  unfold Rdr; rw [heap_setCell_same w g 0 _ _ _ h]; rfl
theorem Rdr.setP {w g e v p} (h : Rdr w g e v p) (x : Int) : Rdr (w.setCell ⟨g, 3, none⟩ (.int .i64 x)) g e v x := by
  unfold Rdr; rw [heap_setCell_same w g 3 _ _ _ h]; rfl

theorem grownBy_cell (w : World) (g i : Nat) (v : Value) : w.grownBy (w.setCell ⟨g, i, none⟩ v) (some g) :=
  ⟨rfl, rfl, rfl, by simp [World.setCell], fun k _ hk => Below.heap_setCell _ _ _ _ (fun e => hk (by rw [e]))⟩
theorem gb_trans {a b c : World} {row : Option Nat} (h : a.grownBy b row) (k : b.grownBy c row) : a.grownBy c row :=
  ⟨k.os.trans h.os, k.tape.trans h.tape, k.output.trans h.output, Nat.le_trans h.size k.size, fun i hi hn => (k.block i (Nat.lt_of_lt_of_le hi h.size) hn).trans (h.block i hi hn)⟩
theorem gb_wide {a b : World} (h : a.grownBy b none) (row : Option Nat) : a.grownBy b row :=
  ⟨h.os, h.tape, h.output, h.size, fun i hi _ => h.block i hi (by simp)⟩
theorem grownBy_below {a b : World} (h : Below a.heap.size a b) (row : Option Nat) : a.grownBy b row :=
  ⟨h.os, h.tape, h.output, h.size, fun i hi _ => h.block i hi⟩
theorem gb_drewN {a b : World} {row : Option Nat} (h : a.grownBy b row) (n : Nat) : a.grownBy (b.drewN n) row :=
  gb_trans h (grownBy_below (below_drewN (Below.refl _ _) n) row)

theorem heap_new (w : World) (o : Obj) : (w.alloc o).heap[w.heap.size]? = some o := by
  show (w.heap.push o)[w.heap.size]? = _
  simp

theorem seg_from {w : World} {a : Option Addr} {len : Nat} {xs : List Int} (h : Seg .u8 w a len xs) (k : Nat) : Seg .u8 w (Option.map (fun x => x.add k) a) (len - k) (xs.drop k) := by
  refine ⟨by simp [h.1], ?_⟩
  rcases h.2 with h0 | ⟨b, off, rfl, hb, hc⟩
  · exact .inl (by omega)
  · rcases Nat.lt_or_ge k len with hk | hk
    · refine .inr ⟨b, off + k, ?_, hb, fun i hi => by rw [Nat.add_assoc, hc (k + i) (by omega), List.getElem?_drop]⟩
      rw [← Go.WideShapes.add_plain]; rfl
    · exact .inl (by omega)

/-- The bytes do not lie in block g. -/
def Off (a : Option Addr) (g : Nat) : Prop := ∀ b o s, a = some ⟨b, o, s⟩ → b ≠ g
theorem Seg.grew {k : IntKind} {w w' : World} {a : Option Addr} {len : Nat} {xs : List Int} {row : Option Nat} (h : Seg k w a len xs) (hg : w.grownBy w' row) (hne : ∀ g, row = some g → Off a g) : Seg k w' a len xs := by
  refine ⟨h.1, ?_⟩
  rcases h.2 with h0 | ⟨b, off, ha, hw, hc⟩
  · exact .inl h0
  · exact .inr ⟨b, off, ha, Nat.lt_of_lt_of_le hw hg.size, fun i hi => (World.cell?_of_block (w := w) (w' := w') (a := ⟨b, off + i, none⟩) (hg.block b hw (fun e => hne b e.symm _ _ _ ha rfl))).trans (hc i hi)⟩

/-- A Reader as plain data. -/
structure RS (w : World) (g : Nat) (a : Option Addr) (len cap : Nat) (xs : List Int) (e : Int) (p : Nat) : Prop where
  rdr : Rdr w g e (.slice a len cap) p
  seg : Seg .u8 w a len xs
  bytes : Bytes xs
  off : Off a g
  le : p ≤ len
  lc : len ≤ cap
  lm : len ≤ 140737488355328
  cm : cap ≤ 9223372036854775807
  nz : a = none → cap = 0
theorem RS.move {w w' g a len cap xs e p e' p'} (h : RS w g a len cap xs e p) (hg : w.grownBy w' (some g)) (hr : Rdr w' g e' (.slice a len cap) (p' : Nat)) (hp : p' ≤ len) : RS w' g a len cap xs e' p' :=
  ⟨hr, h.seg.grew hg (fun k hk => by cases hk; exact h.off), h.bytes, h.off, hp, h.lc, h.lm, h.cm, h.nz⟩
theorem RS.other {w w' g a len cap xs e p row} (h : RS w g a len cap xs e p) (hg : w.grownBy w' row) (h1 : row ≠ some g) (h2 : ∀ k, row = some k → Off a k) : RS w' g a len cap xs e p :=
  ⟨(hg.block g (lt_of_block h.rdr) (fun e => h1 e.symm)).trans h.rdr, h.seg.grew hg h2, h.bytes, h.off, h.le, h.lc, h.lm, h.cm, h.nz⟩
theorem RS.new {w w' g a len cap xs e p} (h : RS w g a len cap xs e p) (hg : w.grownBy w' none) : RS w' g a len cap xs e p := h.other hg (by simp) (by simp)
theorem RS.drewN {w g a len cap xs e p} (h : RS w g a len cap xs e p) (n : Nat) : RS (w.drewN n) g a len cap xs e p := h.new (gb_drewN (World.grownBy.refl _ _) n)

theorem err_c (g : Nat) (e : Int) (v : Value) (p : Int) (w : World) (h : Rdr w g e v p) :
    Calls Try.prog 85 #[.pointer (some ⟨g, 0, none⟩)] w fun r w' => r = .returned (.int .i64 e) ∧ w' = w := by
  have h0 := h.c0
  have h1 := h.c1
  clear h
  go_enter Try.func85, Try.ntmps85
  go_wp2
  go_ret
  exact ⟨rfl, rfl⟩
theorem ready_c (g : Nat) (e : Int) (v : Value) (p : Int) (w : World) (h : Rdr w g e v p) :
    Calls Try.prog 69 #[.pointer (some ⟨g, 0, none⟩)] w fun r w' => r = .returned (.bool (e == 0)) ∧ w' = w := by
  go_enter Try.func69, Try.ntmps69
  go_wp2_with fail
  refine (err_c g e v p w h).mono ?_
  rintro r w1 ⟨rfl, rfl⟩
  go_wp2
  go_ret
  exact ⟨rfl, rfl⟩

/-- An error of leb as pack names it. -/
def nm (e : Int) : Int := if e = 10 then 30 else if e = 11 then 31 else if e = 12 then 32 else e
theorem named_c (e : Int) (w : World) : Calls Try.prog 103 #[.int .i64 e] w fun r w' => r = .returned (.int .i64 (nm e)) ∧ w' = w := by
  by_cases h1 : e = 10
  · subst h1
    go_enter Try.func103, Try.ntmps103
    go_wp2
    go_ret
    exact ⟨rfl, rfl⟩
  · by_cases h2 : e = 11
    · subst h2
      go_enter Try.func103, Try.ntmps103
      go_wp2
      go_ret
      exact ⟨rfl, rfl⟩
    · by_cases h3 : e = 12
      · subst h3
        go_enter Try.func103, Try.ntmps103
        go_wp2
        go_ret
        exact ⟨rfl, rfl⟩
      · have HN : Hid (nm e = e) := by show nm e = e; simp [nm, h1, h2, h3]
        have b1 : (e == 10) = false := by simp [h1]
        have b2 : (e == 11) = false := by simp [h2]
        have b3 : (e == 12) = false := by simp [h3]
        clear h1 h2 h3
        go_enter Try.func103, Try.ntmps103
        go_wp2
        go_ret
        exact ⟨by rw [HN.out]; rfl, rfl⟩

theorem over_c (a : Option Addr) (len cap : Nat) (w : World) :
    Calls Try.prog 67 #[.slice a len cap] w fun r w' => r = .returned (.pointer (some ⟨w.heap.size, 0, none⟩)) ∧ Rdr w' w.heap.size 0 (.slice a len cap) 0 ∧ w.grownBy w' none := by
  go_enter Try.func67, Try.ntmps67
  go_wp2
  go_ret
  exact ⟨rfl, heap_new w _, World.grownBy_alloc _ _ _⟩

theorem RS.fails {w g a len cap xs e p} (h : RS w g a len cap xs e p) (x : Int) : RS (w.setCell ⟨g, 0, none⟩ (.int .i64 x)) g a len cap xs x p ∧ w.grownBy (w.setCell ⟨g, 0, none⟩ (.int .i64 x)) (some g) :=
  ⟨h.move (grownBy_cell _ _ _ _) (h.rdr.setE x) h.le, grownBy_cell _ _ _ _⟩
theorem RS.moves {w g a len cap xs e p} (h : RS w g a len cap xs e p) (q : Nat) (hq : q ≤ len) : RS (w.setCell ⟨g, 3, none⟩ (.int .i64 (q : Int))) g a len cap xs e q ∧ w.grownBy (w.setCell ⟨g, 3, none⟩ (.int .i64 (q : Int))) (some g) :=
  ⟨h.move (grownBy_cell _ _ _ _) (h.rdr.setP q) hq, grownBy_cell _ _ _ _⟩
theorem rfail_ok (g : Nat) (a : Option Addr) (len cap : Nat) (xs : List Int) (p : Nat) (x : Int) (w : World) (h : RS w g a len cap xs 0 p) :
    Calls Try.prog 86 #[.pointer (some ⟨g, 0, none⟩), .int .i64 x] w fun r w' => r = .returned (.tuple #[]) ∧ RS w' g a len cap xs x p ∧ w.grownBy w' (some g) :=
  (fail_ok g x w h.rdr.c0 (h.rdr.free 0)).mono (fun _ _ ⟨h1, h2⟩ => ⟨h1, by rw [h2]; exact (h.fails x)⟩)
theorem rmust_ok (g : Nat) (a : Option Addr) (len cap : Nat) (xs : List Int) (p : Nat) (x : Int) (w : World) (hx : (x == 0) = false) (h : RS w g a len cap xs 0 p) :
    Calls Try.prog 60 #[.pointer (some ⟨g, 0, none⟩), .bool false, .int .i64 x] w fun r w' => r = .returned (.bool false) ∧ RS w' g a len cap xs x p ∧ w.grownBy w' (some g) :=
  (must_ok g x w h.rdr.c0 (h.rdr.free 0) hx).mono (fun _ _ ⟨h1, h2⟩ => ⟨h1, by rw [h2]; exact (h.fails x)⟩)
end Go.Proofs.Ytfbbaodhlniiiaa
